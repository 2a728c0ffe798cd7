/- ExprSums returns true. -/
import Derived.Test.YticcaogceoahdaaELineWalk
import Derived.Test.YticcaogceoahdaaESplit
import Derived.Test.YticcaogceoahdaaEOpen
namespace Go.Proofs.Yticcaogceoahdaa
open Go Go.RowKit

theorem good_two_iff (o : Int) (G : Nat) (a b : Lx) (ho : kidsOf o = 2) (n : Nat) : good (n + 1) (ltwo o G a b) = (good n a && good n b) := by
  have h := nodeOk_two o G a b ho
  have hk : (ltwo o G a b).kids = [a, b] := rfl
  simp only [good, h, hk, Bool.true_and, List.all_cons, List.all_nil, Bool.and_true]
theorem check_two (o : Int) (G G' : Nat) (a b : Lx) (ho : kidsOf o = 2) : checkE (ltwo o G a b) = 0 ↔ checkE (ltwo o G' b a) = 0 := by
  rw [checkE_ok, checkE_ok, good_two_iff o G a b ho, good_two_iff o G' b a ho, cnt_two, cnt_two, Bool.and_comm, Nat.add_comm (cnt 15 a)]
/-- the sum, or the product -/
def comb (o x y : Int) : Int := if o = 3 then x + y else x * y
theorem ev_two (row : List Vl) (o : Int) (ho : o = 3 ∨ o = 5) (G : Nat) (a b : Lx) : ev row 16 (ltwo o G a b) 0 = (Vl.num (fitN (comb o (nm (ev row 15) a 0).1 (nm (ev row 15) b 0).1)), fl (fl (nm (ev row 15) a 0).2 (nm (ev row 15) b 0).2) (fitE (comb o (nm (ev row 15) a 0).1 (nm (ev row 15) b 0).1))) := by
  have h1 : (ltwo o G a b).op = o := rfl
  have h2 : kid (ltwo o G a b) 0 = a := rfl
  have h3 : kid (ltwo o G a b) 1 = b := rfl
  have h4 := nm2 (ev_split row 15) (ltwo o G a b) 0
  rw [h2, h3, zero_fl] at h4
  conv => lhs; unfold ev
  rw [h1, if_neg (by omega), if_neg (by omega), if_neg (by omega), if_neg (by omega)]
  unfold rk
  dsimp only
  rw [h1, if_neg (by omega), h2, h3, h4]
  unfold comb
  rcases ho with rfl | rfl <;> rfl
theorem comb_comm (o x y : Int) : comb o x y = comb o y x := by
  unfold comb
  split
  · exact Int.add_comm x y
  · exact Int.mul_comm x y
theorem sums_same (row : List Vl) (o : Int) (ho : o = 3 ∨ o = 5) (G G' : Nat) (a b : Lx) :
    ((evalE row (ltwo o G a b)).2 = 0 ∧ (evalE row (ltwo o G' b a)).2 = 0 ∧ (evalE row (ltwo o G a b)).1 = (evalE row (ltwo o G' b a)).1) ∨ ((evalE row (ltwo o G a b)).2 ≠ 0 ∧ (evalE row (ltwo o G' b a)).2 ≠ 0) := by
  have hk2 : kidsOf o = 2 := by rcases ho with rfl | rfl <;> decide
  have hc := check_two o G G' a b hk2
  unfold evalE
  rw [ev_two row o ho G a b, ev_two row o ho G' b a, comb_comm o (nm (ev row 15) b 0).1]
  generalize comb o (nm (ev row 15) a 0).1 (nm (ev row 15) b 0).1 = S
  generalize (nm (ev row 15) a 0).2 = x
  generalize (nm (ev row 15) b 0).2 = y
  dsimp only
  have hs : fl (fl x y) (fitE S) = 0 ↔ fl (fl y x) (fitE S) = 0 := by rw [fl_is0, fl_is0, fl_is0, fl_is0, and_comm (a := x = 0)]
  by_cases h0 : checkE (ltwo o G a b) = 0
  · rw [if_pos h0, if_pos (hc.1 h0)]
    by_cases h1 : chkRow row = 0
    · rw [if_pos h1, if_pos h1]
      by_cases h2 : fl (fl x y) (fitE S) = 0
      · rw [if_pos h2, if_pos (hs.1 h2)]
        exact .inl ⟨rfl, rfl, rfl⟩
      · rw [if_neg h2, if_neg (fun h => h2 (hs.2 h))]
        exact .inr ⟨h2, fun h => h2 (hs.2 h)⟩
    · rw [if_neg h1, if_neg h1]
      exact .inr ⟨h1, h1⟩
  · rw [if_neg h0, if_neg (fun h => h0 (hc.2 h))]
    exact .inr ⟨h0, fun h => h0 (hc.2 h)⟩
theorem lxFine_keep {a b : World} {e : Lx} (h : LxFine a e) (hb : Below a.heap.size a b) : LxFine b e := fun k => ⟨(h k).1, lxIn_keep (h k).2 hb⟩
/-- a boxed expression, in later worlds -/
structure Boxed (e : Lx) (P : Nat) (w : World) : Prop where
  own : Own w P 27 e.cells
  fine : LxFine w e
theorem Boxed.next {e : Lx} {P : Nat} {w w' : World} (h : Boxed e P w) (hb : Below w.heap.size w w') : Boxed e P w' := ⟨h.own.past hb h.own.inside, lxFine_keep h.fine hb⟩
theorem Boxed.six {e : Lx} {P : Nat} {w : World} (h : Boxed e P w) : w.cell? ⟨P, 0, none⟩ = some (.int .u8 e.op) ∧ w.cell? ⟨P, 1, none⟩ = some (.int .i64 e.col) ∧ w.cell? ⟨P, 2, none⟩ = some (.bool e.c.t) ∧
      w.cell? ⟨P, 3, none⟩ = some (.int .i64 e.c.n) ∧ w.cell? ⟨P, 4, none⟩ = some (.string e.c.s) ∧ w.cell? ⟨P, 5, none⟩ = some (.slice e.A e.kids.length e.cap) := by
  have := (lxAt_own h.own).six
  simpa using this
theorem eval_two (o : Int) (ho : 0 ≤ o ∧ o ≤ 255) (G : Nat) (a b : Lx) (A : Option Addr) (c : Nat) (row : List Vl) (W : World) (hl : Vals W W.heap.size A row) (hn : row.length ≤ maxLen) (hr : ∀ v ∈ row, VOk v) (ha : LxFine W a) (hb : LxFine W b) (l : Lies 6 Lx.cells W W.heap.size (some ⟨G, 0, none⟩) [a, b]) :
    Calls Try.prog 9 #[(ltwo o G a b).val, .slice A row.length c] W fun x w' => x = .returned (.tuple #[(evalE row (ltwo o G a b)).1.val, .int .i64 (evalE row (ltwo o G a b)).2]) ∧ Below W.heap.size W w' :=
  evalE_any (ltwo o G a b) A c row W (ltwo_ok o G _ _ ho (ha 16).1 (hb 16).1) (ltwo_in l (ha 16).2 (hb 16).2) hl hn hr
set_option maxRecDepth 100000 in
set_option maxHeartbeats 6400000 in
theorem sums_walk8 (a b : Lx) (A : Option Addr) (c : Nat) (row : List Vl) (w : World) (ha : LxFine w a) (hb : LxFine w b) (hl : Vals w w.heap.size A row) (hc : row.length ≤ c) (hm : c ≤ maxLen) (hr : ∀ v ∈ row, VOk v) :
    Calls Try.prog 5 #[a.val, b.val, .slice A row.length c] w fun e w' => e = .returned (.bool true) ∧ Below w.heap.size w w' := by
  have hn := Nat.le_trans hc hm
  have y0 := fun W => Lib.hid (elives_true W)
  have y3 := fun o W => Lib.hid (two_any o a b W)
  have y4 := fun o W => Lib.hid (two_any o b a W)
  have z1 := fun o ho G W h1 h2 h3 h4 => Lib.hid (eval_two o ho G a b A c row W h1 hn hr h2 h3 h4)
  have z2 := fun o ho G W h1 h2 h3 h4 => Lib.hid (eval_two o ho G b a A c row W h1 hn hr h3 h2 h4)
  have hsame := Lib.hid (fun o ho G G' => sums_same row o ho G G' a b)
  obtain ⟨W, hW, fb, hs, f1⟩ := lxbox w a
  obtain ⟨V, hV, gb, hs2, f2⟩ := lxbox W b
  rw [hs] at f2
  have hbV := belows fb gb
  have HB := Lib.hid (And.intro hbV (And.intro (⟨f1.past gb f1.inside, lxFine_keep ha hbV⟩ : Boxed a w.heap.size V) (And.intro (⟨f2, lxFine_keep hb hbV⟩ : Boxed b (w.heap.size + 1) V) (vals_keep hl hbV))))
  clear ha hb hl hc hm hr hn fb gb hs hs2 f1 f2 hbV
  unfold Lx.val
  go_enter Try.func5, Try.ntmps5
  go_upto_region 1 with fail
  rw [← hW, ← hV]
  clear hW hV
  go_wp2_with fail
  refine (y0 _).out.mono ?_
  rintro _ w1 ⟨rfl, b1⟩
  have H1 := Lib.hid (And.intro (belows HB.out.1 b1) (And.intro (HB.out.2.1.next b1) (And.intro (HB.out.2.2.1.next b1) (vals_keep HB.out.2.2.2 b1))))
  clear b1
  go_upto_region 4 with fail
  obtain ⟨V1, hV⟩ : ∃ V, V = w1.alloc (.cells #[.int .u8 3, .int .u8 5] 22) := ⟨_, rfl⟩
  have h1 : Below w1.heap.size w1 V1 := by rw [hV]; exact (Below.refl _ _).alloc (Nat.le_refl _) _
  have h2 : Own V1 w1.heap.size 22 [.int .u8 3, .int .u8 5] := by rw [hV]; exact Own.made w1 _ _
  have H2 := Lib.hid (And.intro (belows H1.out.1 h1) (And.intro (H1.out.2.1.next h1) (And.intro (H1.out.2.2.1.next h1) (And.intro (vals_keep H1.out.2.2.2 h1) h2))))
  rw [← hV]
  clear hV h1 h2
  go_loopw [17] (fun i wr => ∃ k : Nat, i = .int .i64 (k : Int) ∧ k ≤ 2 ∧ Below w.heap.size w wr ∧ Boxed a w.heap.size wr ∧ Boxed b (w.heap.size + 1) wr ∧ Vals wr wr.heap.size A row ∧ Own wr w1.heap.size 22 [.int .u8 3, .int .u8 5])
    (fun i _ => 2 - (intOf i).toNat)
  case atStart => exact ⟨0, rfl, by omega, H2.out.1, H2.out.2.1, H2.out.2.2.1, H2.out.2.2.2.1, H2.out.2.2.2.2⟩
  case round =>
    obtain ⟨k, rfl, hk, hb, ba, bb, hv, ho⟩ := hrel
    by_cases hlt : k < 2
    · obtain ⟨o, hoo, hco⟩ : ∃ o : Int, (o = 3 ∨ o = 5) ∧ wr.cell? ⟨w1.heap.size, k, none⟩ = some (.int .u8 o) := by
        match k, hlt with
        | 0, _ => exact ⟨3, .inl rfl, ho.at_ 0⟩
        | 1, _ => exact ⟨5, .inr rfl, ho.at_ 1⟩
      obtain ⟨a0, a1, a2, a3, a4, a5⟩ := ba.six
      obtain ⟨b0, b1, b2, b3, b4, b5⟩ := bb.six
      have HR := Lib.hid (And.intro hb (And.intro ba (And.intro bb (And.intro hv ho))))
      have hO := Lib.hid hoo
      have ho255 : 0 ≤ o ∧ o ≤ 255 := by omega
      have y3 := y3 o
      have y4 := y4 o
      have z1 := z1 o ho255
      have z2 := z2 o ho255
      have q0 : (0 : Int) ≤ (k : Int) := by omega
      have q1 : (k : Int) < 2 := by omega
      unfold Lx.val at y3 y4
      clear hb ba bb hv ho hoo ho255
      go_wp2_with fail
      refine (y3 _).out.mono ?_
      rintro _ w2 ⟨G1, rfl, c2, _, l2⟩
      have hz1 := z1 G1 w2 (vals_keep HR.out.2.2.2.1 c2) (lxFine_keep HR.out.2.1.fine c2) (lxFine_keep HR.out.2.2.1.fine c2) l2
      unfold Lx.val at hz1
      go_wp2_with fail
      refine hz1.out.mono ?_
      rintro _ w3 ⟨rfl, c3⟩
      have hx1 : ∃ R, evalE row (ltwo o G1 a b) = R := ⟨_, rfl⟩
      obtain ⟨R1, hR1⟩ := hx1
      rw [hR1]
      obtain ⟨v1, u1⟩ := R1
      try dsimp only
      obtain ⟨V3, hV⟩ : ∃ V, V = w3.alloc (.cells #[.bool v1.t, .int .i64 v1.n, .string v1.s] 24) := ⟨_, rfl⟩
      have h1 : Below w3.heap.size w3 V3 := by rw [hV]; exact (Below.refl _ _).alloc (Nat.le_refl _) _
      have h2 : Own V3 w3.heap.size 24 v1.cells := by rw [hV]; exact Own.made w3 _ _
      have hall := belows (belows c2 c3) h1
      have HT := Lib.hid (And.intro (belows HR.out.1 hall) (And.intro (HR.out.2.1.next hall) (And.intro (HR.out.2.2.1.next hall) (And.intro (vals_keep HR.out.2.2.2.1 hall) (And.intro (HR.out.2.2.2.2.past hall HR.out.2.2.2.2.inside) h2)))))
      have HG1 := Lib.hid hR1
      clear hall h2 c2 c3 l2 hz1 hR1 a0 a1 a2 a3 a4 a5 b0 b1 b2 b3 b4 b5
      unfold Vl.val
      try dsimp only
      go_upto_region 7 with fail
      rw [← hV]
      clear hV h1
      obtain ⟨a0, a1, a2, a3, a4, a5⟩ := HT.out.2.1.six
      obtain ⟨b0, b1, b2, b3, b4, b5⟩ := HT.out.2.2.1.six
      go_wp2_with fail
      refine (y4 _).out.mono ?_
      rintro _ w4 ⟨G2, rfl, c4, _, l4⟩
      have hz2 := z2 G2 w4 (vals_keep HT.out.2.2.2.1 c4) (lxFine_keep HT.out.2.1.fine c4) (lxFine_keep HT.out.2.2.1.fine c4) l4
      unfold Lx.val at hz2
      go_wp2_with fail
      refine hz2.out.mono ?_
      rintro _ w5 ⟨rfl, c5⟩
      have hx2 : ∃ R, evalE row (ltwo o G2 b a) = R := ⟨_, rfl⟩
      obtain ⟨R2, hR2⟩ := hx2
      rw [hR2]
      have key := hsame.out o hO.out G1 G2
      rw [HG1.out, hR2] at key
      obtain ⟨v2, u2⟩ := R2
      try dsimp only at key ⊢
      obtain ⟨V5, hV⟩ : ∃ V, V = w5.alloc (.cells #[.bool v2.t, .int .i64 v2.n, .string v2.s] 24) := ⟨_, rfl⟩
      have h1 : Below w5.heap.size w5 V5 := by rw [hV]; exact (Below.refl _ _).alloc (Nat.le_refl _) _
      have h2 : Own V5 w5.heap.size 24 v2.cells := by rw [hV]; exact Own.made w5 _ _
      have hall := belows (belows c4 c5) h1
      have d := HT.out.2.2.2.2.2.past hall HT.out.2.2.2.2.2.inside
      have d0 := d.at_ 0
      have d1 := d.at_ 1
      have d2 := d.at_ 2
      have e0 := h2.at_ 0
      have e1 := h2.at_ 1
      have e2 := h2.at_ 2
      simp only [Vl.cells, List.getElem?_cons_zero, List.getElem?_cons_succ] at d0 d1 d2 e0 e1 e2
      have HU := Lib.hid (And.intro (belows HT.out.1 hall) (And.intro (HT.out.2.1.next hall) (And.intro (HT.out.2.2.1.next hall) (And.intro (vals_keep HT.out.2.2.2.1 hall) (HT.out.2.2.2.2.1.past hall HT.out.2.2.2.2.1.inside)))))
      have HG2 := Lib.hid hR2
      clear hall h2 d c4 c5 l4 hz2 hR2 a0 a1 a2 a3 a4 a5 b0 b1 b2 b3 b4 b5 y3 y4 z1 z2 y0 hco
      unfold Vl.val
      try dsimp only
      go_upto_region 8 with fail
      rw [← hV]
      clear hV h1
      have hgd := fun (x1 y1 : Operand) (xs ys : Array Value) (w : World) => grd_val .neq x1 y1 xs ys w
      have hne := neq_val v1 v2
      unfold Vl.val at hne
      rcases key with ⟨rfl, rfl, rfl⟩ | ⟨n1, n2⟩
      · have hv : (!eqV v1 v1) = false := by rw [eqV_iff.2 rfl]; rfl
        rw [hv] at hne
        go_wp2_with fail
        go_roundw
        case rel => exact ⟨k + 1, by go_num, by omega, HU.out.1, HU.out.2.1, HU.out.2.2.1, HU.out.2.2.2.1, HU.out.2.2.2.2⟩
        case measure => simp [intOf]; omega
      · have t1 : (u1 == 0) = false := by simpa using n1
        have t2 : (u2 == 0) = false := by simpa using n2
        go_wp2_with fail
        go_roundw
        case rel => exact ⟨k + 1, by go_num, by omega, HU.out.1, HU.out.2.1, HU.out.2.2.1, HU.out.2.2.2.1, HU.out.2.2.2.2⟩
        case measure => simp [intOf]; omega
    · have hk2 : k = 2 := by omega
      subst hk2
      have HR := Lib.hid hb
      clear hb ba bb hv ho
      go_wp2_with fail
      go_ret
      exact ⟨rfl, HR.out⟩
end Go.Proofs.Yticcaogceoahdaa
