/- The evaluation of an expression: what holds. -/
import Derived.Test.YtjidjpmdmcleoaaEEvC
namespace Go.Proofs.Ytjidjpmdmcleoaa
open Go Go.RowKit

/-- an expression that is boxed in block N, those in it, and the row: below g, but for the box -/
structure Bx (row : List Vl) (A : Option Addr) (n : Nat) (e : Lx) (g N : Nat) (W : World) : Prop where
  box : Own W N 27 e.cells
  te : Te (n + 1) e W g
  row : RowIn row A W g
  gN : g < N
section
variable {row : List Vl} {A : Option Addr} {n : Nat} {e : Lx} {g N : Nat} {W W' : World}
theorem Bx.next {t : TypeId} {l : List Value} (h : Bx row A n e g N W) (k : Upd W W' g t l) : Bx row A n e g N W' :=
  have hb := k.below (Nat.le_refl _) (by have := h.box.inside; have := h.gN; omega)
  ⟨k.other (by have := h.gN; omega) h.box, h.te.past hb, h.row.past hb, h.gN⟩
theorem Bx.six (h : Bx row A n e g N W) : W.cell? ⟨N, 0, none⟩ = some (.int .u8 e.op) ∧ W.cell? ⟨N, 1, none⟩ = some (.int .i64 e.col) ∧ W.cell? ⟨N, 2, none⟩ = some (.bool e.c.t) ∧
      W.cell? ⟨N, 3, none⟩ = some (.int .i64 e.c.n) ∧ W.cell? ⟨N, 4, none⟩ = some (.string e.c.s) ∧ W.cell? ⟨N, 5, none⟩ = some (.slice e.A e.kids.length e.cap) := by
  have := (lxAt_own h.box).six
  simpa using this
theorem Bx.kidAt {b o i : Nat} (h : Bx row A n e g N W) (hA : e.A = some ⟨b, o, none⟩) (hi : i < e.kids.length) :
    W.cell? ⟨b, o + i * 6, none⟩ = some (.int .u8 (kid e i).op) ∧ W.cell? ⟨b, o + i * 6 + 1, none⟩ = some (.int .i64 (kid e i).col) ∧ W.cell? ⟨b, o + i * 6 + 2, none⟩ = some (.bool (kid e i).c.t) ∧
      W.cell? ⟨b, o + i * 6 + 3, none⟩ = some (.int .i64 (kid e i).c.n) ∧ W.cell? ⟨b, o + i * 6 + 4, none⟩ = some (.string (kid e i).c.s) ∧ W.cell? ⟨b, o + i * 6 + 5, none⟩ = some (.slice (kid e i).A (kid e i).kids.length (kid e i).cap) := by
  obtain ⟨b', o', hA', _, hx⟩ := h.te.at_ hi
  rw [hA] at hA'
  simp only [Option.some.injEq, Addr.mk.injEq, and_true] at hA'
  obtain ⟨rfl, rfl⟩ := hA'
  exact hx.six
theorem Bx.made {w : World} {c : Nat} {u : Int} (ht : Te (n + 1) e w g) (hr : RowIn row A w g) (ho : Own w g 71 (evL u A row.length c)) :
    ∃ W, W = w.alloc (.cells #[.int .u8 e.op, .int .i64 e.col, .bool e.c.t, .int .i64 e.c.n, .string e.c.s, .slice e.A e.kids.length e.cap] 27) ∧ Bx row A n e g w.heap.size W ∧ Upd w W g 71 (evL u A row.length c) ∧ W.heap.size = w.heap.size + 1 ∧ (0 < e.kids.length → ∃ b o, e.A = some ⟨b, o, none⟩) := by
  have hg := ho.inside
  obtain ⟨W, hW, fb, hs, fk⟩ := lxbox w e
  have fg := fb.mono (show g ≤ w.heap.size by omega)
  exact ⟨W, hW, ⟨fk, ht.past fg, hr.past fg, hg⟩, Upd.after fb (Upd.same (ho.past fb hg)), hs, fun h => by obtain ⟨b, o, hA, _⟩ := ht.at_ h; exact ⟨b, o, hA⟩⟩
end
set_option maxRecDepth 100000 in
set_option maxHeartbeats 3200000 in
theorem holds2_any (row : List Vl) (A : Option Addr) (c n : Nat) (hE : EvC row A c n) (e : Lx) (u : Int) (g : Nat) (w : World) (ht : Te (n + 1) e w g) (hop : 7 ≤ e.op ∧ e.op ≤ 11) (hr : RowIn row A w g) (ho : Own w g 71 (evL u A row.length c)) :
    Calls Try.prog 41 #[.pointer (some ⟨g, 0, none⟩), e.val] w fun x w' =>
      x = .returned (.bool (hd (ev row n) e u).1) ∧ Upd w w' g 71 (evL (hd (ev row n) e u).2 A row.length c) := by
  have hg := ho.inside
  have hnode := ht.node.1
  obtain ⟨W, hW, hB, hU, hs, hA⟩ := Bx.made ht hr ho
  have Hs := Lib.hid hs
  clear ht hr ho hs
  by_cases h7 : e.op = 7
  case pos =>
    have h2 : e.kids.length = 2 := by rw [h7] at hnode; unfold kidsOf at hnode; simp at hnode; omega
    have hc := Lib.hid (compare2_any row A c n hE e u g W hB.te h2 hB.row hU.own)
    have hq : hd (ev row n) e u = (decide ((cp (ev row n) e u).1 < 0), (cp (ev row n) e u).2) := by unfold hd; rw [if_pos h7]
    rw [hq]
    have HU := Lib.hid hU
    clear hB hU hA hnode hop hq hE h2
    unfold Lx.val at *
    rw [h7] at hc hW ⊢
    generalize cp (ev row n) e u = q at *
    go_enter Try.func41, Try.ntmps41
    go_wp2_with fail
    rw [← hW]
    refine hc.out.mono ?_
    rintro _ w2 ⟨rfl, u2⟩
    have U2 := Lib.hid (HU.out.trans u2)
    clear u2
    go_wp2_with fail
    go_ret
    exact ⟨rfl, U2.out⟩
  by_cases h8 : e.op = 8
  case pos =>
    have h2 : e.kids.length = 2 := by rw [h8] at hnode; unfold kidsOf at hnode; simp at hnode; omega
    have hc := Lib.hid (compare2_any row A c n hE e u g W hB.te h2 hB.row hU.own)
    have hq : hd (ev row n) e u = ((cp (ev row n) e u).1 == 0, (cp (ev row n) e u).2) := by unfold hd; rw [if_neg h7, if_pos h8]
    rw [hq]
    have HU := Lib.hid hU
    clear hB hU hA hnode hop hq hE h2 h7
    unfold Lx.val at *
    rw [h8] at hc hW ⊢
    generalize cp (ev row n) e u = q at *
    go_enter Try.func41, Try.ntmps41
    go_wp2_with fail
    rw [← hW]
    refine hc.out.mono ?_
    rintro _ w2 ⟨rfl, u2⟩
    have U2 := Lib.hid (HU.out.trans u2)
    clear u2
    go_wp2_with fail
    go_ret
    exact ⟨rfl, U2.out⟩
  by_cases h11 : e.op = 11
  case pos =>
    have h1 : e.kids.length = 1 := by rw [h11] at hnode; unfold kidsOf at hnode; simp at hnode; omega
    have hq : hd (ev row n) e u = ((nm (ev row n) (kid e 0) u).1 == 0, (nm (ev row n) (kid e 0) u).2) := by unfold hd; rw [if_neg h7, if_neg h8, if_neg (by omega), if_neg (by omega)]
    rw [hq]
    have hc := Lib.hid (number2_any row A c n hE (kid e 0) u g W (hB.te.sub (by omega)) hB.row hU.own)
    obtain ⟨b, o, hA⟩ := hA (by omega)
    have k0 := hB.kidAt hA (i := 0) (by omega)
    rw [Nat.zero_mul, Nat.add_zero] at k0
    obtain ⟨d0, d1, d2, d3, d4, d5⟩ := k0
    have c5 := hB.six.2.2.2.2.2
    have HU := Lib.hid hU
    rw [hA, h1] at c5
    clear hB hU hnode hop hq hE h7 h8
    unfold Lx.val at *
    rw [h11, hA, h1] at hW ⊢
    generalize nm (ev row n) (kid e 0) u = q at *
    go_enter Try.func41, Try.ntmps41
    go_upto_region 1 with fail
    rw [← hW]
    have c0 : W.cell? ⟨w.heap.size, 0, none⟩ = some (.int .u8 11) := by rw [hW]; simp
    clear hW
    go_wp2_with fail
    refine hc.out.mono ?_
    rintro _ w2 ⟨rfl, u2⟩
    have U2 := Lib.hid (HU.out.trans u2)
    clear u2
    go_wp2_with fail
    go_ret
    exact ⟨rfl, U2.out⟩
  by_cases h9 : e.op = 9
  case pos =>
    have h2 : e.kids.length = 2 := by rw [h9] at hnode; unfold kidsOf at hnode; simp at hnode; omega
    have hq : hd (ev row n) e u = (if (nm (ev row n) (kid e 0) u).1 = 0 then (false, (nm (ev row n) (kid e 0) u).2) else ((nm (ev row n) (kid e 1) (nm (ev row n) (kid e 0) u).2).1 != 0, (nm (ev row n) (kid e 1) (nm (ev row n) (kid e 0) u).2).2)) := by unfold hd; rw [if_neg h7, if_neg h8, if_pos h9]
    rw [hq]
    have hc := Lib.hid (number2_any row A c n hE (kid e 0) u g W (hB.te.sub (by omega)) hB.row hU.own)
    have hc1 := fun W' (k : Upd W W' g 71 (evL (nm (ev row n) (kid e 0) u).2 A row.length c)) => Lib.hid (number2_any row A c n hE (kid e 1) (nm (ev row n) (kid e 0) u).2 g W' ((hB.next k).te.sub (by omega)) (hB.next k).row k.own)
    obtain ⟨b, o, hA⟩ := hA (by omega)
    have hK : ∀ W' l, Upd W W' g 71 l → Hid (W'.cell? ⟨w.heap.size, 5, none⟩ = some (.slice (some ⟨b, o, none⟩) 2 e.cap) ∧ W'.cell? ⟨b, o + 6, none⟩ = some (.int .u8 (kid e 1).op) ∧ W'.cell? ⟨b, o + 6 + 1, none⟩ = some (.int .i64 (kid e 1).col) ∧ W'.cell? ⟨b, o + 6 + 2, none⟩ = some (.bool (kid e 1).c.t) ∧
      W'.cell? ⟨b, o + 6 + 3, none⟩ = some (.int .i64 (kid e 1).c.n) ∧ W'.cell? ⟨b, o + 6 + 4, none⟩ = some (.string (kid e 1).c.s) ∧ W'.cell? ⟨b, o + 6 + 5, none⟩ = some (.slice (kid e 1).A (kid e 1).kids.length (kid e 1).cap)) := fun W' l k => by
      have k1 := (hB.next k).kidAt hA (i := 1) (by omega)
      have c5 := (hB.next k).six.2.2.2.2.2
      rw [hA, h2] at c5
      rw [Nat.one_mul] at k1
      exact Lib.hid ⟨c5, k1⟩
    have k0 := hB.kidAt hA (i := 0) (by omega)
    rw [Nat.zero_mul, Nat.add_zero] at k0
    obtain ⟨d0, d1, d2, d3, d4, d5⟩ := k0
    have c5 := hB.six.2.2.2.2.2
    have HU := Lib.hid hU
    rw [hA, h2] at c5
    clear hB hU hnode hop hq hE h7 h8 h11
    unfold Lx.val at *
    rw [h9, hA, h2] at hW ⊢
    generalize nm (ev row n) (kid e 0) u = p at *
    generalize nm (ev row n) (kid e 1) p.2 = q at *
    by_cases hz : p.1 = 0
    all_goals
      first | (have t1 : (p.1 != 0) = false := (by simpa using hz)) | (have t1 : (p.1 != 0) = true := (by simpa using hz))
      first | rw [if_pos hz] | rw [if_neg hz]
      clear hz
      go_enter Try.func41, Try.ntmps41
      go_upto_region 1 with fail
      rw [← hW]
      have c0 : W.cell? ⟨w.heap.size, 0, none⟩ = some (.int .u8 9) := by rw [hW]; simp
      clear hW
      go_wp2_with fail
      refine hc.out.mono ?_
      rintro _ w2 ⟨rfl, u2⟩
      have U2 := Lib.hid u2
      obtain ⟨x5, x0, x1, x2, x3, x4, x6⟩ := (hK w2 _ u2).out
      clear u2 c0 c5 d0 d1 d2 d3 d4 d5
      go_wp2_with fail
      first
      | (go_ret
         exact ⟨rfl, HU.out.trans U2.out⟩)
      | (refine (hc1 _ U2.out).out.mono ?_
         rintro _ w3 ⟨rfl, u3⟩
         have U3 := Lib.hid (U2.out.trans u3)
         clear u3 x0 x1 x2 x3 x4 x5 x6
         go_wp2_with fail
         go_ret
         exact ⟨rfl, HU.out.trans U3.out⟩)
  by_cases h10 : e.op = 10
  case pos =>
    have h2 : e.kids.length = 2 := by rw [h10] at hnode; unfold kidsOf at hnode; simp at hnode; omega
    have hq : hd (ev row n) e u = (if (nm (ev row n) (kid e 0) u).1 = 0 then ((nm (ev row n) (kid e 1) (nm (ev row n) (kid e 0) u).2).1 != 0, (nm (ev row n) (kid e 1) (nm (ev row n) (kid e 0) u).2).2) else (true, (nm (ev row n) (kid e 0) u).2)) := by unfold hd; rw [if_neg h7, if_neg h8, if_neg h9, if_pos h10]
    rw [hq]
    have hc := Lib.hid (number2_any row A c n hE (kid e 0) u g W (hB.te.sub (by omega)) hB.row hU.own)
    have hc1 := fun W' (k : Upd W W' g 71 (evL (nm (ev row n) (kid e 0) u).2 A row.length c)) => Lib.hid (number2_any row A c n hE (kid e 1) (nm (ev row n) (kid e 0) u).2 g W' ((hB.next k).te.sub (by omega)) (hB.next k).row k.own)
    obtain ⟨b, o, hA⟩ := hA (by omega)
    have hK : ∀ W' l, Upd W W' g 71 l → Hid (W'.cell? ⟨w.heap.size, 5, none⟩ = some (.slice (some ⟨b, o, none⟩) 2 e.cap) ∧ W'.cell? ⟨b, o + 6, none⟩ = some (.int .u8 (kid e 1).op) ∧ W'.cell? ⟨b, o + 6 + 1, none⟩ = some (.int .i64 (kid e 1).col) ∧ W'.cell? ⟨b, o + 6 + 2, none⟩ = some (.bool (kid e 1).c.t) ∧
      W'.cell? ⟨b, o + 6 + 3, none⟩ = some (.int .i64 (kid e 1).c.n) ∧ W'.cell? ⟨b, o + 6 + 4, none⟩ = some (.string (kid e 1).c.s) ∧ W'.cell? ⟨b, o + 6 + 5, none⟩ = some (.slice (kid e 1).A (kid e 1).kids.length (kid e 1).cap)) := fun W' l k => by
      have k1 := (hB.next k).kidAt hA (i := 1) (by omega)
      have c5 := (hB.next k).six.2.2.2.2.2
      rw [hA, h2] at c5
      rw [Nat.one_mul] at k1
      exact Lib.hid ⟨c5, k1⟩
    have k0 := hB.kidAt hA (i := 0) (by omega)
    rw [Nat.zero_mul, Nat.add_zero] at k0
    obtain ⟨d0, d1, d2, d3, d4, d5⟩ := k0
    have c5 := hB.six.2.2.2.2.2
    have HU := Lib.hid hU
    rw [hA, h2] at c5
    clear hB hU hnode hop hq hE h7 h8 h9 h11
    unfold Lx.val at *
    rw [h10, hA, h2] at hW ⊢
    generalize nm (ev row n) (kid e 0) u = p at *
    generalize nm (ev row n) (kid e 1) p.2 = q at *
    by_cases hz : p.1 = 0
    all_goals
      first | (have t1 : (p.1 != 0) = false := (by simpa using hz)) | (have t1 : (p.1 != 0) = true := (by simpa using hz))
      first | rw [if_pos hz] | rw [if_neg hz]
      clear hz
      go_enter Try.func41, Try.ntmps41
      go_upto_region 1 with fail
      rw [← hW]
      have c0 : W.cell? ⟨w.heap.size, 0, none⟩ = some (.int .u8 10) := by rw [hW]; simp
      clear hW
      go_wp2_with fail
      refine hc.out.mono ?_
      rintro _ w2 ⟨rfl, u2⟩
      have U2 := Lib.hid u2
      obtain ⟨x5, x0, x1, x2, x3, x4, x6⟩ := (hK w2 _ u2).out
      clear u2 c0 c5 d0 d1 d2 d3 d4 d5
      go_wp2_with fail
      first
      | (go_ret
         exact ⟨rfl, HU.out.trans U2.out⟩)
      | (refine (hc1 _ U2.out).out.mono ?_
         rintro _ w3 ⟨rfl, u3⟩
         have U3 := Lib.hid (U2.out.trans u3)
         clear u3 x0 x1 x2 x3 x4 x5 x6
         go_wp2_with fail
         go_ret
         exact ⟨rfl, HU.out.trans U3.out⟩)
  exfalso
  omega
end Go.Proofs.Ytjidjpmdmcleoaa
namespace Go.Proofs.Ytjidjpmdmcleoaa
open Go Go.RowKit

theorem fitN_bound (S : Int) : -9223372036854775808 ≤ fitN S ∧ fitN S ≤ 9223372036854775807 := by
  unfold fitN
  split
  · rename_i h; rw [fits_iff] at h; exact h
  · omega
theorem Vl.num_ok (n : Int) (h1 : -9223372036854775808 ≤ n) (h2 : n ≤ 9223372036854775807) : VOk (Vl.num n) := ⟨by unfold Vl.num maxLen; exact Nat.zero_le _, h1, h2⟩
theorem ev_ok (row : List Vl) (hr : ∀ v ∈ row, VOk v) : ∀ (n : Nat) (e : Lx) (u : Int), good n e = true → LxOk n e → VOk (ev row n e u).1
  | 0, _, _, h, _ => by cases h
  | n + 1, e, u, h, hok => by
    simp only [good, nodeOk, Bool.and_eq_true, List.all_eq_true, beq_iff_eq] at h
    have hk : ∀ i, i < e.kids.length → kid e i ∈ e.kids := fun i hi => by unfold kid; rw [List.getD_eq_getElem?_getD, List.getElem?_eq_getElem hi]; exact List.getElem_mem hi
    unfold ev
    split
    · split
      · rename_i h1
        have hlt : e.col.toNat < row.length := by omega
        have := hr row[e.col.toNat] (List.getElem_mem hlt)
        rw [List.getD_eq_getElem?_getD, List.getElem?_eq_getElem hlt]
        exact this
      · exact Vl.num_ok 0 (by omega) (by omega)
    · split
      · exact hok.1
      · split
        · rename_i h12
          have h3 : e.kids.length = 3 := by have := h.1.1; rw [h12] at this; unfold kidsOf at this; simp at this; omega
          split
          · exact ev_ok row hr n _ _ (h.2 _ (hk 2 (by omega))) (hok.2.2.2.2 _ (hk 2 (by omega)))
          · exact ev_ok row hr n _ _ (h.2 _ (hk 1 (by omega))) (hok.2.2.2.2 _ (hk 1 (by omega)))
        · split
          · exact Vl.num_ok _ (by split <;> omega) (by split <;> omega)
          · exact Vl.num_ok _ (fitN_bound _).1 (fitN_bound _).2
theorem bits_flip (n : Int) (h1 : -9223372036854775808 ≤ n) (h2 : n ≤ 9223372036854775807) : bits .xor .i64 (-1) n = -n - 1 := by
  have e : bits .xor .i64 (-1) n = IntKind.i64.wrap (((BitVec.ofInt 64 (-1)) ^^^ (BitVec.ofInt 64 n)).toNat : Int) := rfl
  have a : BitVec.ofInt 64 (-1) = BitVec.allOnes 64 := by decide
  have hp : ((2 ^ 64 : Nat) : Int) = 18446744073709551616 := by decide
  have hp2 : (2 ^ 64 : Nat) = 18446744073709551616 := by decide
  rw [e, a, BitVec.allOnes_xor, BitVec.toNat_not, BitVec.toNat_ofInt, hp, hp2]
  have h : 0 ≤ n % 18446744073709551616 := Int.emod_nonneg _ (by decide)
  obtain ⟨m, hm⟩ : ∃ m : Nat, n % 18446744073709551616 = (m : Int) := ⟨_, (Int.toNat_of_nonneg h).symm⟩
  rw [hm, Int.toNat_natCast]
  have hm2 : m < 18446744073709551616 := by omega
  have hc : ((18446744073709551616 - 1 - m : Nat) : Int) = 18446744073709551615 - (m : Int) := by omega
  rw [hc]
  clear hc hp hp2 e a h
  simp [IntKind.wrap, IntKind.bits, IntKind.signed]
  split <;> omega
theorem sum2_any (a b : Int) (ha : -9223372036854775808 ≤ a ∧ a ≤ 9223372036854775807) (hb : -9223372036854775808 ≤ b ∧ b ≤ 9223372036854775807) (W : World) :
    Calls Try.prog 56 #[.slice (some ⟨W.heap.size, 0, none⟩) 2 2] (W.alloc (.cells #[.int .i64 a, .int .i64 b] 2)) fun e w' => e = .returned (.tuple #[.int .i64 (fitN (a + b)), .int .i64 (fitE (a + b))]) ∧ Below W.heap.size W w' := by
  have h := sum_any (some ⟨W.heap.size, 0, none⟩) 2 [a, b] (W.alloc (.cells #[.int .i64 a, .int .i64 b] 2)) (ints_two a b) (by unfold maxLen; simp) (fun x hx => by
    rcases List.mem_cons.1 hx with rfl | hx
    · exact ha
    · rcases List.mem_cons.1 hx with rfl | hx
      · exact hb
      · cases hx)
  rw [show [a, b].sum = a + b by simp] at h
  exact h.mono fun e w' k => ⟨k.1, below_then ((Below.refl _ _).alloc (Nat.le_refl _) _) (by simp) k.2⟩
theorem sum3_any (a b d : Int) (ha : -9223372036854775808 ≤ a ∧ a ≤ 9223372036854775807) (hb : -9223372036854775808 ≤ b ∧ b ≤ 9223372036854775807) (hd : -9223372036854775808 ≤ d ∧ d ≤ 9223372036854775807) (W : World) :
    Calls Try.prog 56 #[.slice (some ⟨W.heap.size, 0, none⟩) 3 3] (W.alloc (.cells #[.int .i64 a, .int .i64 b, .int .i64 d] 2)) fun e w' => e = .returned (.tuple #[.int .i64 (fitN (a + b + d)), .int .i64 (fitE (a + b + d))]) ∧ Below W.heap.size W w' := by
  have h := sum_any (some ⟨W.heap.size, 0, none⟩) 3 [a, b, d] (W.alloc (.cells #[.int .i64 a, .int .i64 b, .int .i64 d] 2)) (ints_three a b d) (by unfold maxLen; simp) (fun x hx => by
    rcases List.mem_cons.1 hx with rfl | hx
    · exact ha
    · rcases List.mem_cons.1 hx with rfl | hx
      · exact hb
      · rcases List.mem_cons.1 hx with rfl | hx
        · exact hd
        · cases hx)
  rw [show [a, b, d].sum = a + b + d by simp; omega] at h
  exact h.mono fun e w' k => ⟨k.1, below_then ((Below.refl _ _).alloc (Nat.le_refl _) _) (by simp) k.2⟩
set_option maxRecDepth 100000 in
set_option maxHeartbeats 3200000 in
theorem reckon2_any (row : List Vl) (A : Option Addr) (c n : Nat) (hE : EvC row A c n) (e : Lx) (u : Int) (g : Nat) (w : World) (ht : Te (n + 1) e w g) (hop : 3 ≤ e.op ∧ e.op ≤ 6) (hr : RowIn row A w g) (ho : Own w g 71 (evL u A row.length c)) :
    Calls Try.prog 42 #[.pointer (some ⟨g, 0, none⟩), e.val] w fun x w' =>
      x = .returned (.tuple #[.int .i64 (fitN (rk (ev row n) e u).1), .int .i64 (fitE (rk (ev row n) e u).1)]) ∧ Upd w w' g 71 (evL (rk (ev row n) e u).2 A row.length c) := by
  have hg := ho.inside
  have hnode := ht.node.1
  have hkl : 1 ≤ e.kids.length := by
    unfold kidsOf at hnode
    rw [if_neg (by omega)] at hnode
    split at hnode
    · omega
    · rw [if_pos (by omega)] at hnode; omega
  have hm : -9223372036854775808 ≤ (nm (ev row n) (kid e 0) u).1 ∧ (nm (ev row n) (kid e 0) u).1 ≤ 9223372036854775807 := (ev_ok row hr.ok n (kid e 0) u (ht.sub (by omega)).gd (ht.sub (by omega)).ok).2
  obtain ⟨W, hW, hB, hU, hs, hA⟩ := Bx.made ht hr ho
  have Hs := Lib.hid hs
  by_cases h6 : e.op = 6
  case pos =>
    have h1 : e.kids.length = 1 := by rw [h6] at hnode; unfold kidsOf at hnode; simp at hnode; omega
    have hq : rk (ev row n) e u = (-(nm (ev row n) (kid e 0) u).1, (nm (ev row n) (kid e 0) u).2) := by unfold rk; rw [if_pos h6]
    rw [hq]
    clear ht hr ho hs
    have hc := Lib.hid (number2_any row A c n hE (kid e 0) u g W (hB.te.sub (by omega)) hB.row hU.own)
    have hfl := bits_flip _ hm.1 hm.2
    have hsum := fun W => Lib.hid (sum2_any (-(nm (ev row n) (kid e 0) u).1 - 1) 1 (by omega) (by omega) W)
    rw [show -(nm (ev row n) (kid e 0) u).1 - 1 + 1 = -(nm (ev row n) (kid e 0) u).1 by omega] at hsum
    obtain ⟨b, o, hA⟩ := hA (by omega)
    have k0 := hB.kidAt hA (i := 0) (by omega)
    rw [Nat.zero_mul, Nat.add_zero] at k0
    obtain ⟨d0, d1, d2, d3, d4, d5⟩ := k0
    have c5 := hB.six.2.2.2.2.2
    have HU := Lib.hid hU
    have hN : ∀ W' l, Upd W W' g 71 l → W'.cell? ⟨w.heap.size, 0, none⟩ = some (.int .u8 6) := fun W' l k => by have := (hB.next k).six.1; rwa [h6] at this
    have HN := Lib.hid hN
    rw [hA, h1] at c5
    have HF := Lib.hid hfl
    clear hB hU hnode hop hq hE hN hfl
    unfold Lx.val at *
    rw [h6, hA, h1] at hW ⊢
    generalize nm (ev row n) (kid e 0) u = q at *
    go_enter Try.func42, Try.ntmps42
    go_upto_region 1 with fail
    rw [← hW]
    clear hW
    go_wp2_with fail
    refine hc.out.mono ?_
    rintro _ w2 ⟨rfl, u2⟩
    have c0 := HN.out _ _ u2
    have U2 := Lib.hid (HU.out.trans u2)
    clear u2
    go_wp2_with fail
    rw [HF.out]
    refine (hsum _).out.mono ?_
    rintro _ w3 ⟨rfl, b3⟩
    go_wp2_with fail
    go_ret2
    exact ⟨rfl, U2.out.quiet b3⟩
  by_cases h3 : e.op = 3
  case pos =>
    have h2 : e.kids.length = 2 := by rw [h3] at hnode; unfold kidsOf at hnode; simp at hnode; omega
    have hm2 : -9223372036854775808 ≤ (nm (ev row n) (kid e 1) (nm (ev row n) (kid e 0) u).2).1 ∧ (nm (ev row n) (kid e 1) (nm (ev row n) (kid e 0) u).2).1 ≤ 9223372036854775807 := (ev_ok row hr.ok n (kid e 1) _ (ht.sub (by omega)).gd (ht.sub (by omega)).ok).2
    have hq : rk (ev row n) e u = ((nm (ev row n) (kid e 0) u).1 + (nm (ev row n) (kid e 1) (nm (ev row n) (kid e 0) u).2).1, (nm (ev row n) (kid e 1) (nm (ev row n) (kid e 0) u).2).2) := by unfold rk; dsimp only; rw [if_neg h6, if_pos h3]
    rw [hq]
    clear ht hr ho hs
    have hc := Lib.hid (number2_any row A c n hE (kid e 0) u g W (hB.te.sub (by omega)) hB.row hU.own)
    have hc1 := fun W' (k : Upd W W' g 71 (evL (nm (ev row n) (kid e 0) u).2 A row.length c)) => Lib.hid (number2_any row A c n hE (kid e 1) (nm (ev row n) (kid e 0) u).2 g W' ((hB.next k).te.sub (by omega)) (hB.next k).row k.own)
    have hsum := fun W => Lib.hid (sum2_any (nm (ev row n) (kid e 0) u).1 (nm (ev row n) (kid e 1) (nm (ev row n) (kid e 0) u).2).1 hm hm2 W)
    obtain ⟨b, o, hA⟩ := hA (by omega)
    have hK : ∀ W' l, Upd W W' g 71 l → Hid (W'.cell? ⟨w.heap.size, 0, none⟩ = some (.int .u8 3) ∧ W'.cell? ⟨w.heap.size, 5, none⟩ = some (.slice (some ⟨b, o, none⟩) 2 e.cap) ∧ W'.cell? ⟨b, o + 6, none⟩ = some (.int .u8 (kid e 1).op) ∧ W'.cell? ⟨b, o + 6 + 1, none⟩ = some (.int .i64 (kid e 1).col) ∧ W'.cell? ⟨b, o + 6 + 2, none⟩ = some (.bool (kid e 1).c.t) ∧
      W'.cell? ⟨b, o + 6 + 3, none⟩ = some (.int .i64 (kid e 1).c.n) ∧ W'.cell? ⟨b, o + 6 + 4, none⟩ = some (.string (kid e 1).c.s) ∧ W'.cell? ⟨b, o + 6 + 5, none⟩ = some (.slice (kid e 1).A (kid e 1).kids.length (kid e 1).cap)) := fun W' l k => by
      have k1 := (hB.next k).kidAt hA (i := 1) (by omega)
      have c0 := (hB.next k).six.1
      have c5 := (hB.next k).six.2.2.2.2.2
      rw [hA, h2] at c5
      rw [h3] at c0
      rw [Nat.one_mul] at k1
      exact Lib.hid ⟨c0, c5, k1⟩
    have k0 := hB.kidAt hA (i := 0) (by omega)
    rw [Nat.zero_mul, Nat.add_zero] at k0
    obtain ⟨d0, d1, d2, d3, d4, d5⟩ := k0
    have c5 := hB.six.2.2.2.2.2
    have HU := Lib.hid hU
    rw [hA, h2] at c5
    clear hB hU hnode hop hq hE h6 hm hm2 hkl
    unfold Lx.val at *
    rw [h3, hA, h2] at hW ⊢
    generalize nm (ev row n) (kid e 0) u = p at *
    generalize nm (ev row n) (kid e 1) p.2 = q at *
    go_enter Try.func42, Try.ntmps42
    go_upto_region 1 with fail
    rw [← hW]
    clear hW
    go_wp2_with fail
    refine hc.out.mono ?_
    rintro _ w2 ⟨rfl, u2⟩
    have U2 := Lib.hid u2
    obtain ⟨x7, x5, x0, x1, x2, x3, x4, x6⟩ := (hK w2 _ u2).out
    clear u2 c5 d0 d1 d2 d3 d4 d5
    go_wp2_with fail
    refine (hc1 _ U2.out).out.mono ?_
    rintro _ w3 ⟨rfl, u3⟩
    have U3 := Lib.hid (U2.out.trans u3)
    have y7 := (hK w3 _ (U2.out.trans u3)).out.1
    clear u3 x0 x1 x2 x3 x4 x5 x6 x7
    go_wp2_with fail
    refine (hsum _).out.mono ?_
    rintro _ w4 ⟨rfl, b4⟩
    have B4 := Lib.hid b4
    clear b4
    go_wp2_with fail
    go_ret2
    exact ⟨rfl, (HU.out.trans U3.out).quiet B4.out⟩
  by_cases h4 : e.op = 4
  case pos =>
    have h2 : e.kids.length = 2 := by rw [h4] at hnode; unfold kidsOf at hnode; simp at hnode; omega
    have hm2 : -9223372036854775808 ≤ (nm (ev row n) (kid e 1) (nm (ev row n) (kid e 0) u).2).1 ∧ (nm (ev row n) (kid e 1) (nm (ev row n) (kid e 0) u).2).1 ≤ 9223372036854775807 := (ev_ok row hr.ok n (kid e 1) _ (ht.sub (by omega)).gd (ht.sub (by omega)).ok).2
    have hq : rk (ev row n) e u = ((nm (ev row n) (kid e 0) u).1 - (nm (ev row n) (kid e 1) (nm (ev row n) (kid e 0) u).2).1, (nm (ev row n) (kid e 1) (nm (ev row n) (kid e 0) u).2).2) := by unfold rk; dsimp only; rw [if_neg h6, if_neg h3, if_pos h4]
    rw [hq]
    clear ht hr ho hs
    have hc := Lib.hid (number2_any row A c n hE (kid e 0) u g W (hB.te.sub (by omega)) hB.row hU.own)
    have hc1 := fun W' (k : Upd W W' g 71 (evL (nm (ev row n) (kid e 0) u).2 A row.length c)) => Lib.hid (number2_any row A c n hE (kid e 1) (nm (ev row n) (kid e 0) u).2 g W' ((hB.next k).te.sub (by omega)) (hB.next k).row k.own)
    have hfl := bits_flip _ hm2.1 hm2.2
    have hsum := fun W => Lib.hid (sum3_any (nm (ev row n) (kid e 0) u).1 (-(nm (ev row n) (kid e 1) (nm (ev row n) (kid e 0) u).2).1 - 1) 1 hm (by omega) (by omega) W)
    rw [show (nm (ev row n) (kid e 0) u).1 + (-(nm (ev row n) (kid e 1) (nm (ev row n) (kid e 0) u).2).1 - 1) + 1 = (nm (ev row n) (kid e 0) u).1 - (nm (ev row n) (kid e 1) (nm (ev row n) (kid e 0) u).2).1 by omega] at hsum
    have HF := Lib.hid hfl
    clear hfl
    obtain ⟨b, o, hA⟩ := hA (by omega)
    have hK : ∀ W' l, Upd W W' g 71 l → Hid (W'.cell? ⟨w.heap.size, 0, none⟩ = some (.int .u8 4) ∧ W'.cell? ⟨w.heap.size, 5, none⟩ = some (.slice (some ⟨b, o, none⟩) 2 e.cap) ∧ W'.cell? ⟨b, o + 6, none⟩ = some (.int .u8 (kid e 1).op) ∧ W'.cell? ⟨b, o + 6 + 1, none⟩ = some (.int .i64 (kid e 1).col) ∧ W'.cell? ⟨b, o + 6 + 2, none⟩ = some (.bool (kid e 1).c.t) ∧
      W'.cell? ⟨b, o + 6 + 3, none⟩ = some (.int .i64 (kid e 1).c.n) ∧ W'.cell? ⟨b, o + 6 + 4, none⟩ = some (.string (kid e 1).c.s) ∧ W'.cell? ⟨b, o + 6 + 5, none⟩ = some (.slice (kid e 1).A (kid e 1).kids.length (kid e 1).cap)) := fun W' l k => by
      have k1 := (hB.next k).kidAt hA (i := 1) (by omega)
      have c0 := (hB.next k).six.1
      have c5 := (hB.next k).six.2.2.2.2.2
      rw [hA, h2] at c5
      rw [h4] at c0
      rw [Nat.one_mul] at k1
      exact Lib.hid ⟨c0, c5, k1⟩
    have k0 := hB.kidAt hA (i := 0) (by omega)
    rw [Nat.zero_mul, Nat.add_zero] at k0
    obtain ⟨d0, d1, d2, d3, d4, d5⟩ := k0
    have c5 := hB.six.2.2.2.2.2
    have HU := Lib.hid hU
    rw [hA, h2] at c5
    clear hB hU hnode hop hq hE h6 hm hm2 hkl
    unfold Lx.val at *
    rw [h4, hA, h2] at hW ⊢
    generalize nm (ev row n) (kid e 0) u = p at *
    generalize nm (ev row n) (kid e 1) p.2 = q at *
    go_enter Try.func42, Try.ntmps42
    go_upto_region 1 with fail
    rw [← hW]
    clear hW
    go_wp2_with fail
    refine hc.out.mono ?_
    rintro _ w2 ⟨rfl, u2⟩
    have U2 := Lib.hid u2
    obtain ⟨x7, x5, x0, x1, x2, x3, x4, x6⟩ := (hK w2 _ u2).out
    clear u2 c5 d0 d1 d2 d3 d4 d5
    go_wp2_with fail
    refine (hc1 _ U2.out).out.mono ?_
    rintro _ w3 ⟨rfl, u3⟩
    have U3 := Lib.hid (U2.out.trans u3)
    have y7 := (hK w3 _ (U2.out.trans u3)).out.1
    clear u3 x0 x1 x2 x3 x4 x5 x6 x7
    go_wp2_with fail
    rw [HF.out]
    refine (hsum _).out.mono ?_
    rintro _ w4 ⟨rfl, b4⟩
    have B4 := Lib.hid b4
    clear b4
    go_wp2_with fail
    go_ret2
    exact ⟨rfl, (HU.out.trans U3.out).quiet B4.out⟩
  by_cases h5 : e.op = 5
  case pos =>
    have h2 : e.kids.length = 2 := by rw [h5] at hnode; unfold kidsOf at hnode; simp at hnode; omega
    have hm2 : -9223372036854775808 ≤ (nm (ev row n) (kid e 1) (nm (ev row n) (kid e 0) u).2).1 ∧ (nm (ev row n) (kid e 1) (nm (ev row n) (kid e 0) u).2).1 ≤ 9223372036854775807 := (ev_ok row hr.ok n (kid e 1) _ (ht.sub (by omega)).gd (ht.sub (by omega)).ok).2
    have hq : rk (ev row n) e u = ((nm (ev row n) (kid e 0) u).1 * (nm (ev row n) (kid e 1) (nm (ev row n) (kid e 0) u).2).1, (nm (ev row n) (kid e 1) (nm (ev row n) (kid e 0) u).2).2) := by unfold rk; dsimp only; rw [if_neg h6, if_neg h3, if_neg h4]
    rw [hq]
    clear ht hr ho hs
    have hc := Lib.hid (number2_any row A c n hE (kid e 0) u g W (hB.te.sub (by omega)) hB.row hU.own)
    have hc1 := fun W' (k : Upd W W' g 71 (evL (nm (ev row n) (kid e 0) u).2 A row.length c)) => Lib.hid (number2_any row A c n hE (kid e 1) (nm (ev row n) (kid e 0) u).2 g W' ((hB.next k).te.sub (by omega)) (hB.next k).row k.own)
    have hsum := fun W => Lib.hid (dtimes_any (nm (ev row n) (kid e 0) u).1 (nm (ev row n) (kid e 1) (nm (ev row n) (kid e 0) u).2).1 W hm.1 hm.2 hm2.1 hm2.2)
    obtain ⟨b, o, hA⟩ := hA (by omega)
    have hK : ∀ W' l, Upd W W' g 71 l → Hid (W'.cell? ⟨w.heap.size, 0, none⟩ = some (.int .u8 5) ∧ W'.cell? ⟨w.heap.size, 5, none⟩ = some (.slice (some ⟨b, o, none⟩) 2 e.cap) ∧ W'.cell? ⟨b, o + 6, none⟩ = some (.int .u8 (kid e 1).op) ∧ W'.cell? ⟨b, o + 6 + 1, none⟩ = some (.int .i64 (kid e 1).col) ∧ W'.cell? ⟨b, o + 6 + 2, none⟩ = some (.bool (kid e 1).c.t) ∧
      W'.cell? ⟨b, o + 6 + 3, none⟩ = some (.int .i64 (kid e 1).c.n) ∧ W'.cell? ⟨b, o + 6 + 4, none⟩ = some (.string (kid e 1).c.s) ∧ W'.cell? ⟨b, o + 6 + 5, none⟩ = some (.slice (kid e 1).A (kid e 1).kids.length (kid e 1).cap)) := fun W' l k => by
      have k1 := (hB.next k).kidAt hA (i := 1) (by omega)
      have c0 := (hB.next k).six.1
      have c5 := (hB.next k).six.2.2.2.2.2
      rw [hA, h2] at c5
      rw [h5] at c0
      rw [Nat.one_mul] at k1
      exact Lib.hid ⟨c0, c5, k1⟩
    have k0 := hB.kidAt hA (i := 0) (by omega)
    rw [Nat.zero_mul, Nat.add_zero] at k0
    obtain ⟨d0, d1, d2, d3, d4, d5⟩ := k0
    have c5 := hB.six.2.2.2.2.2
    have HU := Lib.hid hU
    rw [hA, h2] at c5
    clear hB hU hnode hop hq hE h6 hm hm2 hkl
    unfold Lx.val at *
    rw [h5, hA, h2] at hW ⊢
    generalize nm (ev row n) (kid e 0) u = p at *
    generalize nm (ev row n) (kid e 1) p.2 = q at *
    go_enter Try.func42, Try.ntmps42
    go_upto_region 1 with fail
    rw [← hW]
    clear hW
    go_wp2_with fail
    refine hc.out.mono ?_
    rintro _ w2 ⟨rfl, u2⟩
    have U2 := Lib.hid u2
    obtain ⟨x7, x5, x0, x1, x2, x3, x4, x6⟩ := (hK w2 _ u2).out
    clear u2 c5 d0 d1 d2 d3 d4 d5
    go_wp2_with fail
    refine (hc1 _ U2.out).out.mono ?_
    rintro _ w3 ⟨rfl, u3⟩
    have U3 := Lib.hid (U2.out.trans u3)
    have y7 := (hK w3 _ (U2.out.trans u3)).out.1
    clear u3 x0 x1 x2 x3 x4 x5 x6 x7
    go_wp2_with fail
    refine (hsum _).out.mono ?_
    rintro _ w4 ⟨rfl, b4⟩
    have B4 := Lib.hid b4
    clear b4
    go_wp2_with fail
    go_ret2
    exact ⟨rfl, (HU.out.trans U3.out).quiet B4.out⟩
  exfalso
  omega
end Go.Proofs.Ytjidjpmdmcleoaa
