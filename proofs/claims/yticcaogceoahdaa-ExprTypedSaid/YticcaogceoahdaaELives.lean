/- What the laws on expressions ask at a fixed expression. -/
import Derived.Test.YticcaogceoahdaaEBld
namespace Go.Proofs.Yticcaogceoahdaa
open Go Go.RowKit

theorem vals_two {w : World} {N : Nat} (a b : Vl) (hN : w.heap.size = N) : Vals (w.alloc (.cells #[.bool a.t, .int .i64 a.n, .string a.s, .bool b.t, .int .i64 b.n, .string b.s] 24)) (w.alloc (.cells #[.bool a.t, .int .i64 a.n, .string a.s, .bool b.t, .int .i64 b.n, .string b.s] 24)).heap.size (some ⟨N, 0, none⟩) [a, b] := fun _ => by
  have ho := own_at (w := w) (t := 24) (l := [.bool a.t, .int .i64 a.n, .string a.s, .bool b.t, .int .i64 b.n, .string b.s]) hN
  refine ⟨N, 0, rfl, by simp; omega, fun i x hx => ?_⟩
  match i, hx with
  | 0, hx =>
    obtain rfl : a = x := by simpa using hx
    exact ⟨ho.at_ 0, ho.at_ 1, ho.at_ 2⟩
  | 1, hx =>
    obtain rfl : b = x := by simpa using hx
    exact ⟨ho.at_ 3, ho.at_ 4, ho.at_ 5⟩
def lx0 (G1 G2 : Nat) : Lx := ltwo 7 G2 (ltwo 3 G1 (lcol 0) (lcon 1)) (lcol 1)
theorem lx0_a (G1 G2 : Nat) : evalE [Vl.num 1, Vl.num 2] (lx0 G1 G2) = (Vl.num 0, 0) := by kernel_rfl
theorem lx0_b (G1 G2 : Nat) : evalE [Vl.num 1, Vl.num 3] (lx0 G1 G2) = (Vl.num 1, 0) := by kernel_rfl
theorem lx0_c (G1 G2 : Nat) : inferE [1, 1] (lx0 G1 G2) = (1, 0) := by kernel_rfl
theorem lx0_d (G1 G2 : Nat) : inferE [1, 2] (lx0 G1 G2) = (0, 11) := by kernel_rfl
theorem lx0_e (G1 G2 : Nat) : evalE [Vl.num 9223372036854775807, Vl.num 3] (lx0 G1 G2) = (Vl.zero, 10) := by kernel_rfl
theorem lx0_ok (G1 G2 : Nat) : LxOk 17 (lx0 G1 G2) :=
  ltwo_ok 7 G2 _ _ (by decide) (ltwo_ok 3 G1 _ _ (by decide) (lcol_ok 0 (by decide) 15) (lcon_ok 1 (by decide) 15)) (lcol_ok 1 (by decide) 16)
theorem eval2 (a b : Int) (ha : -9223372036854775808 ≤ a ∧ a ≤ 9223372036854775807) (hb : -9223372036854775808 ≤ b ∧ b ≤ 9223372036854775807) (e : Lx) (R : Vl × Int) (hR : evalE [Vl.num a, Vl.num b] e = R) (hok : LxOk 17 e) (w : World) (hin : LxIn w w.heap.size 17 e) :
    Calls Try.prog 9 #[e.val, .slice (some ⟨w.heap.size, 0, none⟩) 2 2] (w.alloc (.cells #[.bool false, .int .i64 a, .string ⟨#[]⟩, .bool false, .int .i64 b, .string ⟨#[]⟩] 24)) fun x w' => x = .returned (.tuple #[R.1.val, .int .i64 R.2]) ∧ Below w.heap.size w w' := by
  have h1 : Below w.heap.size w (w.alloc (.cells #[.bool false, .int .i64 a, .string ⟨#[]⟩, .bool false, .int .i64 b, .string ⟨#[]⟩] 24)) := (Below.refl _ _).alloc (Nat.le_refl _) _
  have h := evalE_any e (some ⟨w.heap.size, 0, none⟩) 2 [Vl.num a, Vl.num b] _ hok ((hin.past h1 (Nat.le_refl _)).wide h1.size) (vals_two (w := w) (Vl.num a) (Vl.num b) rfl) (by unfold maxLen; simp) (fun v hv => by
    rcases List.mem_cons.1 hv with rfl | hv
    · exact Vl.num_ok a ha.1 ha.2
    · rcases List.mem_cons.1 hv with rfl | hv
      · exact Vl.num_ok b hb.1 hb.2
      · cases hv)
  rw [hR] at h
  exact h.mono fun x w' k => ⟨k.1, h1.trans (k.2.mono h1.size)⟩
theorem infer2 (a b : Int) (e : Lx) (R : Int × Int) (hR : inferE [a, b] e = R) (hok : LxOk 17 e) (w : World) (hin : LxIn w w.heap.size 17 e) :
    Calls Try.prog 7 #[e.val, .slice (some ⟨w.heap.size, 0, none⟩) 2 2] (w.alloc (.cells #[.int .u8 a, .int .u8 b] 30)) fun x w' => x = .returned (.tuple #[.int .u8 R.1, .int .i64 R.2]) ∧ Below w.heap.size w w' := by
  have h1 : Below w.heap.size w (w.alloc (.cells #[.int .u8 a, .int .u8 b] 30)) := (Below.refl _ _).alloc (Nat.le_refl _) _
  have h := inferE_any e (some ⟨w.heap.size, 0, none⟩) 2 [a, b] _ hok ((hin.past h1 (Nat.le_refl _)).wide h1.size) (tys_two (w := w) a b rfl) (by unfold maxLen; simp)
  rw [hR] at h
  exact h.mono fun x w' k => ⟨k.1, h1.trans (k.2.mono h1.size)⟩
/-- an expression that is built and boxed, in later worlds -/
structure Kept (e : Lx) (P : Nat) (w : World) : Prop where
  own : Own w P 27 e.cells
  in_ : LxIn w w.heap.size 17 e
theorem Kept.next {e : Lx} {P : Nat} {w w' : World} (h : Kept e P w) (hb : Below w.heap.size w w') : Kept e P w' := ⟨h.own.past hb h.own.inside, lxIn_keep h.in_ hb⟩
theorem Kept.six {e : Lx} {P : Nat} {w : World} (h : Kept e P w) : w.cell? ⟨P, 0, none⟩ = some (.int .u8 e.op) ∧ w.cell? ⟨P, 1, none⟩ = some (.int .i64 e.col) ∧ w.cell? ⟨P, 2, none⟩ = some (.bool e.c.t) ∧
      w.cell? ⟨P, 3, none⟩ = some (.int .i64 e.c.n) ∧ w.cell? ⟨P, 4, none⟩ = some (.string e.c.s) ∧ w.cell? ⟨P, 5, none⟩ = some (.slice e.A e.kids.length e.cap) := by
  have := (lxAt_own h.own).six
  simpa using this
theorem below_more {w w' : World} (h : Below w.heap.size w w') (o : Obj) : Below w.heap.size w (w'.alloc o) := h.alloc h.size o
theorem kept_new {w : World} {e : Lx} (h : LxIn w w.heap.size 17 e) : Kept e w.heap.size (w.alloc (.cells #[.int .u8 e.op, .int .i64 e.col, .bool e.c.t, .int .i64 e.c.n, .string e.c.s, .slice e.A e.kids.length e.cap] 27)) :=
  ⟨Own.made w 27 e.cells, lxIn_keep h ((Below.refl _ _).alloc (Nat.le_refl _) _)⟩
set_option maxRecDepth 100000 in
set_option maxHeartbeats 6400000 in
theorem elives_true (w : World) : Calls Try.prog 6 #[] w fun e w' => e = .returned (.bool true) ∧ Below w.heap.size w w' := by
  have y1 := fun W => Lib.hid (col_any 0 W)
  have y2 := fun W => Lib.hid (con_any 1 W)
  have y3 := fun a b W => Lib.hid (two_any 3 a b W)
  have y4 := fun W => Lib.hid (col_any 1 W)
  have y5 := fun a b W => Lib.hid (two_any 7 a b W)
  go_enter Try.func6, Try.ntmps6
  go_wp2_with fail
  refine (y1 _).out.mono ?_
  rintro _ w1 ⟨rfl, b1⟩
  have B1 := Lib.hid b1
  clear b1
  go_wp2_with fail
  refine (y2 _).out.mono ?_
  rintro _ w2 ⟨rfl, b2⟩
  have B2 := Lib.hid (belows B1.out b2)
  clear b2
  go_wp2_with fail
  refine (y3 _ _ _).out.mono ?_
  rintro _ w3 ⟨G1, rfl, b3, hG1, l3⟩
  have B3 := Lib.hid (And.intro (belows B2.out b3) l3)
  clear b3 l3
  go_wp2_with fail
  refine (y4 _).out.mono ?_
  rintro _ w4 ⟨rfl, b4⟩
  have B4 := Lib.hid (And.intro (belows B3.out.1 b4) (lies_keep B3.out.2 b4))
  clear b4
  go_wp2_with fail
  refine (y5 _ _ _).out.mono ?_
  rintro _ w5 ⟨G2, rfl, b5, hG2, l5⟩
  have hin : LxIn w5 w5.heap.size 17 (lx0 G1 G2) := ltwo_in l5 (ltwo_in (lies_keep B4.out.2 b5) (lcol_in 0 _ _ 15) (lcon_in 1 _ _ 15)) (lcol_in 1 _ _ 16)
  have B5 := Lib.hid (belows B4.out.1 b5)
  have hok := lx0_ok G1 G2
  have z1 := fun W h => Lib.hid (eval2 1 2 (by decide) (by decide) _ _ (lx0_a G1 G2) hok W h)
  have z2 := fun W h => Lib.hid (eval2 1 3 (by decide) (by decide) _ _ (lx0_b G1 G2) hok W h)
  have z3 := fun W h => Lib.hid (infer2 1 1 _ _ (lx0_c G1 G2) hok W h)
  have z4 := fun W h => Lib.hid (infer2 1 2 _ _ (lx0_d G1 G2) hok W h)
  have z5 := fun W h => Lib.hid (eval2 9223372036854775807 3 (by decide) (by decide) _ _ (lx0_e G1 G2) hok W h)
  rw [show ltwo 7 G2 (ltwo 3 G1 (lcol 0) (lcon 1)) (lcol 1) = lx0 G1 G2 from rfl]
  generalize lx0 G1 G2 = e at *
  have hk := kept_new hin
  obtain ⟨V, hV⟩ : ∃ V, V = w5.alloc (.cells #[.int .u8 e.op, .int .i64 e.col, .bool e.c.t, .int .i64 e.c.n, .string e.c.s, .slice e.A e.kids.length e.cap] 27) := ⟨_, rfl⟩
  have H6 := Lib.hid (And.intro (below_more B5.out (.cells #[.int .u8 e.op, .int .i64 e.col, .bool e.c.t, .int .i64 e.c.n, .string e.c.s, .slice e.A e.kids.length e.cap] 27)) hk)
  rw [← hV] at H6
  clear hk hin hok b5 l5 y1 y2 y3 y4 y5
  unfold Lx.val at z1 z2 z3 z4 z5
  have hval : e.val = .agg #[.int .u8 e.op, .int .i64 e.col, .bool e.c.t, .int .i64 e.c.n, .string e.c.s, .slice e.A e.kids.length e.cap] := rfl
  rw [hval]
  clear hval
  generalize (lcol 0).val = q0
  generalize (lcon 1).val = q1
  generalize (lcol 1).val = q2
  generalize (ltwo 3 G1 (lcol 0) (lcon 1)).val = q3
  go_upto_region 2 with fail
  rw [← hV]
  clear hV
  obtain ⟨c0, c1, c2, c3, c4, c5⟩ := H6.out.2.six
  go_wp2_with fail
  refine (z1 _ H6.out.2.in_).out.mono ?_
  rintro _ w7 ⟨rfl, b7⟩
  have H7 := Lib.hid (And.intro (belows H6.out.1 b7) (H6.out.2.next b7))
  clear b7 c0 c1 c2 c3 c4 c5
  unfold Vl.val Vl.num
  go_upto_region 3 with fail
  obtain ⟨V7, hV⟩ : ∃ V, V = w7.alloc (.cells #[.bool false, .int .i64 0, .string ⟨#[]⟩] 24) := ⟨_, rfl⟩
  have h1 : Below w7.heap.size w7 V7 := by rw [hV]; exact (Below.refl _ _).alloc (Nat.le_refl _) _
  have h2 : Own V7 w7.heap.size 24 [.bool false, .int .i64 0, .string ⟨#[]⟩] := by rw [hV]; exact Own.made w7 _ _
  have K7 := Lib.hid (And.intro (belows H7.out.1 h1) (And.intro (H7.out.2.next h1) (And.intro h2 trivial)))
  rw [← hV]
  clear hV h1 h2
  obtain ⟨c0, c1, c2, c3, c4, c5⟩ := K7.out.2.1.six
  go_wp2_with fail
  refine (z2 _ K7.out.2.1.in_).out.mono ?_
  rintro _ w8 ⟨rfl, b8⟩
  have H8 := Lib.hid (And.intro (belows K7.out.1 b8) (And.intro (K7.out.2.1.next b8) (K7.out.2.2.1.past b8 K7.out.2.2.1.inside)))
  clear b8 c0 c1 c2 c3 c4 c5
  unfold Vl.val Vl.num
  go_upto_region 4 with fail
  obtain ⟨V8, hV⟩ : ∃ V, V = w8.alloc (.cells #[.bool false, .int .i64 1, .string ⟨#[]⟩] 24) := ⟨_, rfl⟩
  have h1 : Below w8.heap.size w8 V8 := by rw [hV]; exact (Below.refl _ _).alloc (Nat.le_refl _) _
  have h2 : Own V8 w8.heap.size 24 [.bool false, .int .i64 1, .string ⟨#[]⟩] := by rw [hV]; exact Own.made w8 _ _
  have K8 := Lib.hid (And.intro (belows H8.out.1 h1) (And.intro (H8.out.2.1.next h1) (And.intro (H8.out.2.2.past h1 H8.out.2.2.inside) h2)))
  rw [← hV]
  clear hV h1 h2
  obtain ⟨c0, c1, c2, c3, c4, c5⟩ := K8.out.2.1.six
  go_wp2_with fail
  refine (z3 _ K8.out.2.1.in_).out.mono ?_
  rintro _ w9 ⟨rfl, b9⟩
  have K9 := Lib.hid (And.intro (belows K8.out.1 b9) (And.intro (K8.out.2.1.next b9) (And.intro (K8.out.2.2.1.past b9 K8.out.2.2.1.inside) (K8.out.2.2.2.past b9 K8.out.2.2.2.inside))))
  clear b9 c0 c1 c2 c3 c4 c5
  obtain ⟨c0, c1, c2, c3, c4, c5⟩ := K9.out.2.1.six
  go_wp2_with fail
  refine (z4 _ K9.out.2.1.in_).out.mono ?_
  rintro _ w10 ⟨rfl, b10⟩
  have K10 := Lib.hid (And.intro (belows K9.out.1 b10) (And.intro (K9.out.2.1.next b10) (And.intro (K9.out.2.2.1.past b10 K9.out.2.2.1.inside) (K9.out.2.2.2.past b10 K9.out.2.2.2.inside))))
  clear b10 c0 c1 c2 c3 c4 c5
  obtain ⟨c0, c1, c2, c3, c4, c5⟩ := K10.out.2.1.six
  go_wp2_with fail
  refine (z5 _ K10.out.2.1.in_).out.mono ?_
  rintro _ w11 ⟨rfl, b11⟩
  unfold Vl.val Vl.zero
  have h1 := (Below.refl w11.heap.size w11).alloc (Nat.le_refl _) (.cells #[.bool false, .int .i64 0, .string ⟨#[]⟩] 24)
  have h2 := belows b11 h1
  have d1 := (K10.out.2.2.1.past h2 K10.out.2.2.1.inside).at_ 1
  have d2 := (K10.out.2.2.2.past h2 K10.out.2.2.2.inside).at_ 1
  simp only [List.getElem?_cons_zero, List.getElem?_cons_succ] at d1 d2
  have K11 := Lib.hid (belows K10.out.1 h2)
  clear h1 h2 b11 c0 c1 c2 c3 c4 c5
  go_upto_region 7 with fail
  generalize w11.alloc (.cells #[.bool false, .int .i64 0, .string ⟨#[]⟩] 24) = V11 at *
  go_wp2_with fail
  go_ret
  exact ⟨rfl, K11.out⟩
end Go.Proofs.Yticcaogceoahdaa
