/- The evaluation of an expression: what is reckoned. -/
import Derived.Test.YticcaogceoahdaaEEvH
namespace Go.Proofs.Yticcaogceoahdaa
open Go Go.RowKit

theorem fitN_bound (S : Int) : -9223372036854775808 ≤ fitN S ∧ fitN S ≤ 9223372036854775807 := by
  unfold fitN
  split
  · rename_i h; rw [fits_iff] at h; exact h
  · omega
theorem Vl.num_ok (n : Int) (h1 : -9223372036854775808 ≤ n) (h2 : n ≤ 9223372036854775807) : VOk (Vl.num n) := ⟨by unfold Vl.num maxLen; exact Nat.zero_le _, h1, h2⟩
theorem ev_ok (row : List Vl) (hr : ∀ v ∈ row, VOk v) : ∀ (n : Nat) (e : Lx) (u : Int), good n e = true → LxOk n e → VOk (ev row n e u).1
  | 0, _, _, h, _ => by cases h
  | n + 1, e, u, h, hok => by
    simp only [good, nodeOk, Bool.and_eq_true, List.all_eq_true, beq_iff_eq] at h
    have hk : ∀ i, i < e.kids.length → kid e i ∈ e.kids := fun i hi => by unfold kid; rw [List.getD_eq_getElem?_getD, List.getElem?_eq_getElem hi]; exact List.getElem_mem hi
    unfold ev
    split
    · split
      · rename_i h1
        have hlt : e.col.toNat < row.length := by omega
        have := hr row[e.col.toNat] (List.getElem_mem hlt)
        rw [List.getD_eq_getElem?_getD, List.getElem?_eq_getElem hlt]
        exact this
      · exact Vl.num_ok 0 (by omega) (by omega)
    · split
      · exact hok.1
      · split
        · rename_i h12
          have h3 : e.kids.length = 3 := by have := h.1.1; rw [h12] at this; unfold kidsOf at this; simp at this; omega
          split
          · exact ev_ok row hr n _ _ (h.2 _ (hk 2 (by omega))) (hok.2.2.2.2 _ (hk 2 (by omega)))
          · exact ev_ok row hr n _ _ (h.2 _ (hk 1 (by omega))) (hok.2.2.2.2 _ (hk 1 (by omega)))
        · split
          · exact Vl.num_ok _ (by split <;> omega) (by split <;> omega)
          · exact Vl.num_ok _ (fitN_bound _).1 (fitN_bound _).2
theorem bits_flip (n : Int) (h1 : -9223372036854775808 ≤ n) (h2 : n ≤ 9223372036854775807) : bits .xor .i64 (-1) n = -n - 1 := by
  have e : bits .xor .i64 (-1) n = IntKind.i64.wrap (((BitVec.ofInt 64 (-1)) ^^^ (BitVec.ofInt 64 n)).toNat : Int) := rfl
  have a : BitVec.ofInt 64 (-1) = BitVec.allOnes 64 := by decide
  have hp : ((2 ^ 64 : Nat) : Int) = 18446744073709551616 := by decide
  have hp2 : (2 ^ 64 : Nat) = 18446744073709551616 := by decide
  rw [e, a, BitVec.allOnes_xor, BitVec.toNat_not, BitVec.toNat_ofInt, hp, hp2]
  have h : 0 ≤ n % 18446744073709551616 := Int.emod_nonneg _ (by decide)
  obtain ⟨m, hm⟩ : ∃ m : Nat, n % 18446744073709551616 = (m : Int) := ⟨_, (Int.toNat_of_nonneg h).symm⟩
  rw [hm, Int.toNat_natCast]
  have hm2 : m < 18446744073709551616 := by omega
  have hc : ((18446744073709551616 - 1 - m : Nat) : Int) = 18446744073709551615 - (m : Int) := by omega
  rw [hc]
  clear hc hp hp2 e a h
  simp [IntKind.wrap, IntKind.bits, IntKind.signed]
  split <;> omega
theorem sum2_any (a b : Int) (ha : -9223372036854775808 ≤ a ∧ a ≤ 9223372036854775807) (hb : -9223372036854775808 ≤ b ∧ b ≤ 9223372036854775807) (W : World) :
    Calls Try.prog 29 #[.slice (some ⟨W.heap.size, 0, none⟩) 2 2] (W.alloc (.cells #[.int .i64 a, .int .i64 b] 2)) fun e w' => e = .returned (.tuple #[.int .i64 (fitN (a + b)), .int .i64 (fitE (a + b))]) ∧ Below W.heap.size W w' := by
  have h := sum_any (some ⟨W.heap.size, 0, none⟩) 2 [a, b] (W.alloc (.cells #[.int .i64 a, .int .i64 b] 2)) (ints_two a b) (by unfold maxLen; simp) (fun x hx => by
    rcases List.mem_cons.1 hx with rfl | hx
    · exact ha
    · rcases List.mem_cons.1 hx with rfl | hx
      · exact hb
      · cases hx)
  rw [show [a, b].sum = a + b by simp] at h
  exact h.mono fun e w' k => ⟨k.1, below_then ((Below.refl _ _).alloc (Nat.le_refl _) _) (by simp) k.2⟩
theorem sum3_any (a b d : Int) (ha : -9223372036854775808 ≤ a ∧ a ≤ 9223372036854775807) (hb : -9223372036854775808 ≤ b ∧ b ≤ 9223372036854775807) (hd : -9223372036854775808 ≤ d ∧ d ≤ 9223372036854775807) (W : World) :
    Calls Try.prog 29 #[.slice (some ⟨W.heap.size, 0, none⟩) 3 3] (W.alloc (.cells #[.int .i64 a, .int .i64 b, .int .i64 d] 2)) fun e w' => e = .returned (.tuple #[.int .i64 (fitN (a + b + d)), .int .i64 (fitE (a + b + d))]) ∧ Below W.heap.size W w' := by
  have h := sum_any (some ⟨W.heap.size, 0, none⟩) 3 [a, b, d] (W.alloc (.cells #[.int .i64 a, .int .i64 b, .int .i64 d] 2)) (ints_three a b d) (by unfold maxLen; simp) (fun x hx => by
    rcases List.mem_cons.1 hx with rfl | hx
    · exact ha
    · rcases List.mem_cons.1 hx with rfl | hx
      · exact hb
      · rcases List.mem_cons.1 hx with rfl | hx
        · exact hd
        · cases hx)
  rw [show [a, b, d].sum = a + b + d by simp; omega] at h
  exact h.mono fun e w' k => ⟨k.1, below_then ((Below.refl _ _).alloc (Nat.le_refl _) _) (by simp) k.2⟩
set_option maxRecDepth 100000 in
set_option maxHeartbeats 3200000 in
theorem reckon2_any (row : List Vl) (A : Option Addr) (c n : Nat) (hE : EvC row A c n) (e : Lx) (u : Int) (g : Nat) (w : World) (ht : Te (n + 1) e w g) (hop : 3 ≤ e.op ∧ e.op ≤ 6) (hr : RowIn row A w g) (ho : Own w g 54 (evL u A row.length c)) :
    Calls Try.prog 25 #[.pointer (some ⟨g, 0, none⟩), e.val] w fun x w' =>
      x = .returned (.tuple #[.int .i64 (fitN (rk (ev row n) e u).1), .int .i64 (fitE (rk (ev row n) e u).1)]) ∧ Upd w w' g 54 (evL (rk (ev row n) e u).2 A row.length c) := by
  have hg := ho.inside
  have hnode := ht.node.1
  have hkl : 1 ≤ e.kids.length := by
    unfold kidsOf at hnode
    rw [if_neg (by omega)] at hnode
    split at hnode
    · omega
    · rw [if_pos (by omega)] at hnode; omega
  have hm : -9223372036854775808 ≤ (nm (ev row n) (kid e 0) u).1 ∧ (nm (ev row n) (kid e 0) u).1 ≤ 9223372036854775807 := (ev_ok row hr.ok n (kid e 0) u (ht.sub (by omega)).gd (ht.sub (by omega)).ok).2
  obtain ⟨W, hW, hB, hU, hs, hA⟩ := Bx.made ht hr ho
  have Hs := Lib.hid hs
  by_cases h6 : e.op = 6
  case pos =>
    have h1 : e.kids.length = 1 := by rw [h6] at hnode; unfold kidsOf at hnode; simp at hnode; omega
    have hq : rk (ev row n) e u = (-(nm (ev row n) (kid e 0) u).1, (nm (ev row n) (kid e 0) u).2) := by unfold rk; rw [if_pos h6]
    rw [hq]
    clear ht hr ho hs
    have hc := Lib.hid (number2_any row A c n hE (kid e 0) u g W (hB.te.sub (by omega)) hB.row hU.own)
    have hfl := bits_flip _ hm.1 hm.2
    have hsum := fun W => Lib.hid (sum2_any (-(nm (ev row n) (kid e 0) u).1 - 1) 1 (by omega) (by omega) W)
    rw [show -(nm (ev row n) (kid e 0) u).1 - 1 + 1 = -(nm (ev row n) (kid e 0) u).1 by omega] at hsum
    obtain ⟨b, o, hA⟩ := hA (by omega)
    have k0 := hB.kidAt hA (i := 0) (by omega)
    rw [Nat.zero_mul, Nat.add_zero] at k0
    obtain ⟨d0, d1, d2, d3, d4, d5⟩ := k0
    have c5 := hB.six.2.2.2.2.2
    have HU := Lib.hid hU
    have hN : ∀ W' l, Upd W W' g 54 l → W'.cell? ⟨w.heap.size, 0, none⟩ = some (.int .u8 6) := fun W' l k => by have := (hB.next k).six.1; rwa [h6] at this
    have HN := Lib.hid hN
    rw [hA, h1] at c5
    have HF := Lib.hid hfl
    clear hB hU hnode hop hq hE hN hfl
    unfold Lx.val at *
    rw [h6, hA, h1] at hW ⊢
    generalize nm (ev row n) (kid e 0) u = q at *
    go_enter Try.func25, Try.ntmps25
    go_upto_region 1 with fail
    rw [← hW]
    clear hW
    go_wp2_with fail
    refine hc.out.mono ?_
    rintro _ w2 ⟨rfl, u2⟩
    have c0 := HN.out _ _ u2
    have U2 := Lib.hid (HU.out.trans u2)
    clear u2
    go_wp2_with fail
    rw [HF.out]
    refine (hsum _).out.mono ?_
    rintro _ w3 ⟨rfl, b3⟩
    go_wp2_with fail
    go_ret2
    exact ⟨rfl, U2.out.quiet b3⟩
  by_cases h3 : e.op = 3
  case pos =>
    have h2 : e.kids.length = 2 := by rw [h3] at hnode; unfold kidsOf at hnode; simp at hnode; omega
    have hm2 : -9223372036854775808 ≤ (nm (ev row n) (kid e 1) (nm (ev row n) (kid e 0) u).2).1 ∧ (nm (ev row n) (kid e 1) (nm (ev row n) (kid e 0) u).2).1 ≤ 9223372036854775807 := (ev_ok row hr.ok n (kid e 1) _ (ht.sub (by omega)).gd (ht.sub (by omega)).ok).2
    have hq : rk (ev row n) e u = ((nm (ev row n) (kid e 0) u).1 + (nm (ev row n) (kid e 1) (nm (ev row n) (kid e 0) u).2).1, (nm (ev row n) (kid e 1) (nm (ev row n) (kid e 0) u).2).2) := by unfold rk; dsimp only; rw [if_neg h6, if_pos h3]
    rw [hq]
    clear ht hr ho hs
    have hc := Lib.hid (number2_any row A c n hE (kid e 0) u g W (hB.te.sub (by omega)) hB.row hU.own)
    have hc1 := fun W' (k : Upd W W' g 54 (evL (nm (ev row n) (kid e 0) u).2 A row.length c)) => Lib.hid (number2_any row A c n hE (kid e 1) (nm (ev row n) (kid e 0) u).2 g W' ((hB.next k).te.sub (by omega)) (hB.next k).row k.own)
    have hsum := fun W => Lib.hid (sum2_any (nm (ev row n) (kid e 0) u).1 (nm (ev row n) (kid e 1) (nm (ev row n) (kid e 0) u).2).1 hm hm2 W)
    obtain ⟨b, o, hA⟩ := hA (by omega)
    have hK : ∀ W' l, Upd W W' g 54 l → Hid (W'.cell? ⟨w.heap.size, 0, none⟩ = some (.int .u8 3) ∧ W'.cell? ⟨w.heap.size, 5, none⟩ = some (.slice (some ⟨b, o, none⟩) 2 e.cap) ∧ W'.cell? ⟨b, o + 6, none⟩ = some (.int .u8 (kid e 1).op) ∧ W'.cell? ⟨b, o + 6 + 1, none⟩ = some (.int .i64 (kid e 1).col) ∧ W'.cell? ⟨b, o + 6 + 2, none⟩ = some (.bool (kid e 1).c.t) ∧
      W'.cell? ⟨b, o + 6 + 3, none⟩ = some (.int .i64 (kid e 1).c.n) ∧ W'.cell? ⟨b, o + 6 + 4, none⟩ = some (.string (kid e 1).c.s) ∧ W'.cell? ⟨b, o + 6 + 5, none⟩ = some (.slice (kid e 1).A (kid e 1).kids.length (kid e 1).cap)) := fun W' l k => by
      have k1 := (hB.next k).kidAt hA (i := 1) (by omega)
      have c0 := (hB.next k).six.1
      have c5 := (hB.next k).six.2.2.2.2.2
      rw [hA, h2] at c5
      rw [h3] at c0
      rw [Nat.one_mul] at k1
      exact Lib.hid ⟨c0, c5, k1⟩
    have k0 := hB.kidAt hA (i := 0) (by omega)
    rw [Nat.zero_mul, Nat.add_zero] at k0
    obtain ⟨d0, d1, d2, d3, d4, d5⟩ := k0
    have c5 := hB.six.2.2.2.2.2
    have HU := Lib.hid hU
    rw [hA, h2] at c5
    clear hB hU hnode hop hq hE h6 hm hm2 hkl
    unfold Lx.val at *
    rw [h3, hA, h2] at hW ⊢
    generalize nm (ev row n) (kid e 0) u = p at *
    generalize nm (ev row n) (kid e 1) p.2 = q at *
    go_enter Try.func25, Try.ntmps25
    go_upto_region 1 with fail
    rw [← hW]
    clear hW
    go_wp2_with fail
    refine hc.out.mono ?_
    rintro _ w2 ⟨rfl, u2⟩
    have U2 := Lib.hid u2
    obtain ⟨x7, x5, x0, x1, x2, x3, x4, x6⟩ := (hK w2 _ u2).out
    clear u2 c5 d0 d1 d2 d3 d4 d5
    go_wp2_with fail
    refine (hc1 _ U2.out).out.mono ?_
    rintro _ w3 ⟨rfl, u3⟩
    have U3 := Lib.hid (U2.out.trans u3)
    have y7 := (hK w3 _ (U2.out.trans u3)).out.1
    clear u3 x0 x1 x2 x3 x4 x5 x6 x7
    go_wp2_with fail
    refine (hsum _).out.mono ?_
    rintro _ w4 ⟨rfl, b4⟩
    have B4 := Lib.hid b4
    clear b4
    go_wp2_with fail
    go_ret2
    exact ⟨rfl, (HU.out.trans U3.out).quiet B4.out⟩
  by_cases h4 : e.op = 4
  case pos =>
    have h2 : e.kids.length = 2 := by rw [h4] at hnode; unfold kidsOf at hnode; simp at hnode; omega
    have hm2 : -9223372036854775808 ≤ (nm (ev row n) (kid e 1) (nm (ev row n) (kid e 0) u).2).1 ∧ (nm (ev row n) (kid e 1) (nm (ev row n) (kid e 0) u).2).1 ≤ 9223372036854775807 := (ev_ok row hr.ok n (kid e 1) _ (ht.sub (by omega)).gd (ht.sub (by omega)).ok).2
    have hq : rk (ev row n) e u = ((nm (ev row n) (kid e 0) u).1 - (nm (ev row n) (kid e 1) (nm (ev row n) (kid e 0) u).2).1, (nm (ev row n) (kid e 1) (nm (ev row n) (kid e 0) u).2).2) := by unfold rk; dsimp only; rw [if_neg h6, if_neg h3, if_pos h4]
    rw [hq]
    clear ht hr ho hs
    have hc := Lib.hid (number2_any row A c n hE (kid e 0) u g W (hB.te.sub (by omega)) hB.row hU.own)
    have hc1 := fun W' (k : Upd W W' g 54 (evL (nm (ev row n) (kid e 0) u).2 A row.length c)) => Lib.hid (number2_any row A c n hE (kid e 1) (nm (ev row n) (kid e 0) u).2 g W' ((hB.next k).te.sub (by omega)) (hB.next k).row k.own)
    have hfl := bits_flip _ hm2.1 hm2.2
    have hsum := fun W => Lib.hid (sum3_any (nm (ev row n) (kid e 0) u).1 (-(nm (ev row n) (kid e 1) (nm (ev row n) (kid e 0) u).2).1 - 1) 1 hm (by omega) (by omega) W)
    rw [show (nm (ev row n) (kid e 0) u).1 + (-(nm (ev row n) (kid e 1) (nm (ev row n) (kid e 0) u).2).1 - 1) + 1 = (nm (ev row n) (kid e 0) u).1 - (nm (ev row n) (kid e 1) (nm (ev row n) (kid e 0) u).2).1 by omega] at hsum
    have HF := Lib.hid hfl
    clear hfl
    obtain ⟨b, o, hA⟩ := hA (by omega)
    have hK : ∀ W' l, Upd W W' g 54 l → Hid (W'.cell? ⟨w.heap.size, 0, none⟩ = some (.int .u8 4) ∧ W'.cell? ⟨w.heap.size, 5, none⟩ = some (.slice (some ⟨b, o, none⟩) 2 e.cap) ∧ W'.cell? ⟨b, o + 6, none⟩ = some (.int .u8 (kid e 1).op) ∧ W'.cell? ⟨b, o + 6 + 1, none⟩ = some (.int .i64 (kid e 1).col) ∧ W'.cell? ⟨b, o + 6 + 2, none⟩ = some (.bool (kid e 1).c.t) ∧
      W'.cell? ⟨b, o + 6 + 3, none⟩ = some (.int .i64 (kid e 1).c.n) ∧ W'.cell? ⟨b, o + 6 + 4, none⟩ = some (.string (kid e 1).c.s) ∧ W'.cell? ⟨b, o + 6 + 5, none⟩ = some (.slice (kid e 1).A (kid e 1).kids.length (kid e 1).cap)) := fun W' l k => by
      have k1 := (hB.next k).kidAt hA (i := 1) (by omega)
      have c0 := (hB.next k).six.1
      have c5 := (hB.next k).six.2.2.2.2.2
      rw [hA, h2] at c5
      rw [h4] at c0
      rw [Nat.one_mul] at k1
      exact Lib.hid ⟨c0, c5, k1⟩
    have k0 := hB.kidAt hA (i := 0) (by omega)
    rw [Nat.zero_mul, Nat.add_zero] at k0
    obtain ⟨d0, d1, d2, d3, d4, d5⟩ := k0
    have c5 := hB.six.2.2.2.2.2
    have HU := Lib.hid hU
    rw [hA, h2] at c5
    clear hB hU hnode hop hq hE h6 hm hm2 hkl
    unfold Lx.val at *
    rw [h4, hA, h2] at hW ⊢
    generalize nm (ev row n) (kid e 0) u = p at *
    generalize nm (ev row n) (kid e 1) p.2 = q at *
    go_enter Try.func25, Try.ntmps25
    go_upto_region 1 with fail
    rw [← hW]
    clear hW
    go_wp2_with fail
    refine hc.out.mono ?_
    rintro _ w2 ⟨rfl, u2⟩
    have U2 := Lib.hid u2
    obtain ⟨x7, x5, x0, x1, x2, x3, x4, x6⟩ := (hK w2 _ u2).out
    clear u2 c5 d0 d1 d2 d3 d4 d5
    go_wp2_with fail
    refine (hc1 _ U2.out).out.mono ?_
    rintro _ w3 ⟨rfl, u3⟩
    have U3 := Lib.hid (U2.out.trans u3)
    have y7 := (hK w3 _ (U2.out.trans u3)).out.1
    clear u3 x0 x1 x2 x3 x4 x5 x6 x7
    go_wp2_with fail
    rw [HF.out]
    refine (hsum _).out.mono ?_
    rintro _ w4 ⟨rfl, b4⟩
    have B4 := Lib.hid b4
    clear b4
    go_wp2_with fail
    go_ret2
    exact ⟨rfl, (HU.out.trans U3.out).quiet B4.out⟩
  by_cases h5 : e.op = 5
  case pos =>
    have h2 : e.kids.length = 2 := by rw [h5] at hnode; unfold kidsOf at hnode; simp at hnode; omega
    have hm2 : -9223372036854775808 ≤ (nm (ev row n) (kid e 1) (nm (ev row n) (kid e 0) u).2).1 ∧ (nm (ev row n) (kid e 1) (nm (ev row n) (kid e 0) u).2).1 ≤ 9223372036854775807 := (ev_ok row hr.ok n (kid e 1) _ (ht.sub (by omega)).gd (ht.sub (by omega)).ok).2
    have hq : rk (ev row n) e u = ((nm (ev row n) (kid e 0) u).1 * (nm (ev row n) (kid e 1) (nm (ev row n) (kid e 0) u).2).1, (nm (ev row n) (kid e 1) (nm (ev row n) (kid e 0) u).2).2) := by unfold rk; dsimp only; rw [if_neg h6, if_neg h3, if_neg h4]
    rw [hq]
    clear ht hr ho hs
    have hc := Lib.hid (number2_any row A c n hE (kid e 0) u g W (hB.te.sub (by omega)) hB.row hU.own)
    have hc1 := fun W' (k : Upd W W' g 54 (evL (nm (ev row n) (kid e 0) u).2 A row.length c)) => Lib.hid (number2_any row A c n hE (kid e 1) (nm (ev row n) (kid e 0) u).2 g W' ((hB.next k).te.sub (by omega)) (hB.next k).row k.own)
    have hsum := fun W => Lib.hid (dtimes_any (nm (ev row n) (kid e 0) u).1 (nm (ev row n) (kid e 1) (nm (ev row n) (kid e 0) u).2).1 W hm.1 hm.2 hm2.1 hm2.2)
    obtain ⟨b, o, hA⟩ := hA (by omega)
    have hK : ∀ W' l, Upd W W' g 54 l → Hid (W'.cell? ⟨w.heap.size, 0, none⟩ = some (.int .u8 5) ∧ W'.cell? ⟨w.heap.size, 5, none⟩ = some (.slice (some ⟨b, o, none⟩) 2 e.cap) ∧ W'.cell? ⟨b, o + 6, none⟩ = some (.int .u8 (kid e 1).op) ∧ W'.cell? ⟨b, o + 6 + 1, none⟩ = some (.int .i64 (kid e 1).col) ∧ W'.cell? ⟨b, o + 6 + 2, none⟩ = some (.bool (kid e 1).c.t) ∧
      W'.cell? ⟨b, o + 6 + 3, none⟩ = some (.int .i64 (kid e 1).c.n) ∧ W'.cell? ⟨b, o + 6 + 4, none⟩ = some (.string (kid e 1).c.s) ∧ W'.cell? ⟨b, o + 6 + 5, none⟩ = some (.slice (kid e 1).A (kid e 1).kids.length (kid e 1).cap)) := fun W' l k => by
      have k1 := (hB.next k).kidAt hA (i := 1) (by omega)
      have c0 := (hB.next k).six.1
      have c5 := (hB.next k).six.2.2.2.2.2
      rw [hA, h2] at c5
      rw [h5] at c0
      rw [Nat.one_mul] at k1
      exact Lib.hid ⟨c0, c5, k1⟩
    have k0 := hB.kidAt hA (i := 0) (by omega)
    rw [Nat.zero_mul, Nat.add_zero] at k0
    obtain ⟨d0, d1, d2, d3, d4, d5⟩ := k0
    have c5 := hB.six.2.2.2.2.2
    have HU := Lib.hid hU
    rw [hA, h2] at c5
    clear hB hU hnode hop hq hE h6 hm hm2 hkl
    unfold Lx.val at *
    rw [h5, hA, h2] at hW ⊢
    generalize nm (ev row n) (kid e 0) u = p at *
    generalize nm (ev row n) (kid e 1) p.2 = q at *
    go_enter Try.func25, Try.ntmps25
    go_upto_region 1 with fail
    rw [← hW]
    clear hW
    go_wp2_with fail
    refine hc.out.mono ?_
    rintro _ w2 ⟨rfl, u2⟩
    have U2 := Lib.hid u2
    obtain ⟨x7, x5, x0, x1, x2, x3, x4, x6⟩ := (hK w2 _ u2).out
    clear u2 c5 d0 d1 d2 d3 d4 d5
    go_wp2_with fail
    refine (hc1 _ U2.out).out.mono ?_
    rintro _ w3 ⟨rfl, u3⟩
    have U3 := Lib.hid (U2.out.trans u3)
    have y7 := (hK w3 _ (U2.out.trans u3)).out.1
    clear u3 x0 x1 x2 x3 x4 x5 x6 x7
    go_wp2_with fail
    refine (hsum _).out.mono ?_
    rintro _ w4 ⟨rfl, b4⟩
    have B4 := Lib.hid b4
    clear b4
    go_wp2_with fail
    go_ret2
    exact ⟨rfl, (HU.out.trans U3.out).quiet B4.out⟩
  exfalso
  omega
end Go.Proofs.Yticcaogceoahdaa
