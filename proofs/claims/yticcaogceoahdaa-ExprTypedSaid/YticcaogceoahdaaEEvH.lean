/- The evaluation of an expression: what holds. -/
import Derived.Test.YticcaogceoahdaaEEvC
namespace Go.Proofs.Yticcaogceoahdaa
open Go Go.RowKit

/-- an expression that is boxed in block N, those in it, and the row: below g, but for the box -/
structure Bx (row : List Vl) (A : Option Addr) (n : Nat) (e : Lx) (g N : Nat) (W : World) : Prop where
  box : Own W N 27 e.cells
  te : Te (n + 1) e W g
  row : RowIn row A W g
  gN : g < N
section
variable {row : List Vl} {A : Option Addr} {n : Nat} {e : Lx} {g N : Nat} {W W' : World}
theorem Bx.next {t : TypeId} {l : List Value} (h : Bx row A n e g N W) (k : Upd W W' g t l) : Bx row A n e g N W' :=
  have hb := k.below (Nat.le_refl _) (by have := h.box.inside; have := h.gN; omega)
  ⟨k.other (by have := h.gN; omega) h.box, h.te.past hb, h.row.past hb, h.gN⟩
theorem Bx.six (h : Bx row A n e g N W) : W.cell? ⟨N, 0, none⟩ = some (.int .u8 e.op) ∧ W.cell? ⟨N, 1, none⟩ = some (.int .i64 e.col) ∧ W.cell? ⟨N, 2, none⟩ = some (.bool e.c.t) ∧
      W.cell? ⟨N, 3, none⟩ = some (.int .i64 e.c.n) ∧ W.cell? ⟨N, 4, none⟩ = some (.string e.c.s) ∧ W.cell? ⟨N, 5, none⟩ = some (.slice e.A e.kids.length e.cap) := by
  have := (lxAt_own h.box).six
  simpa using this
theorem Bx.kidAt {b o i : Nat} (h : Bx row A n e g N W) (hA : e.A = some ⟨b, o, none⟩) (hi : i < e.kids.length) :
    W.cell? ⟨b, o + i * 6, none⟩ = some (.int .u8 (kid e i).op) ∧ W.cell? ⟨b, o + i * 6 + 1, none⟩ = some (.int .i64 (kid e i).col) ∧ W.cell? ⟨b, o + i * 6 + 2, none⟩ = some (.bool (kid e i).c.t) ∧
      W.cell? ⟨b, o + i * 6 + 3, none⟩ = some (.int .i64 (kid e i).c.n) ∧ W.cell? ⟨b, o + i * 6 + 4, none⟩ = some (.string (kid e i).c.s) ∧ W.cell? ⟨b, o + i * 6 + 5, none⟩ = some (.slice (kid e i).A (kid e i).kids.length (kid e i).cap) := by
  obtain ⟨b', o', hA', _, hx⟩ := h.te.at_ hi
  rw [hA] at hA'
  simp only [Option.some.injEq, Addr.mk.injEq, and_true] at hA'
  obtain ⟨rfl, rfl⟩ := hA'
  exact hx.six
theorem Bx.made {w : World} {c : Nat} {u : Int} (ht : Te (n + 1) e w g) (hr : RowIn row A w g) (ho : Own w g 54 (evL u A row.length c)) :
    ∃ W, W = w.alloc (.cells #[.int .u8 e.op, .int .i64 e.col, .bool e.c.t, .int .i64 e.c.n, .string e.c.s, .slice e.A e.kids.length e.cap] 27) ∧ Bx row A n e g w.heap.size W ∧ Upd w W g 54 (evL u A row.length c) ∧ W.heap.size = w.heap.size + 1 ∧ (0 < e.kids.length → ∃ b o, e.A = some ⟨b, o, none⟩) := by
  have hg := ho.inside
  obtain ⟨W, hW, fb, hs, fk⟩ := lxbox w e
  have fg := fb.mono (show g ≤ w.heap.size by omega)
  exact ⟨W, hW, ⟨fk, ht.past fg, hr.past fg, hg⟩, Upd.after fb (Upd.same (ho.past fb hg)), hs, fun h => by obtain ⟨b, o, hA, _⟩ := ht.at_ h; exact ⟨b, o, hA⟩⟩
end
set_option maxRecDepth 100000 in
set_option maxHeartbeats 3200000 in
theorem holds2_any (row : List Vl) (A : Option Addr) (c n : Nat) (hE : EvC row A c n) (e : Lx) (u : Int) (g : Nat) (w : World) (ht : Te (n + 1) e w g) (hop : 7 ≤ e.op ∧ e.op ≤ 11) (hr : RowIn row A w g) (ho : Own w g 54 (evL u A row.length c)) :
    Calls Try.prog 24 #[.pointer (some ⟨g, 0, none⟩), e.val] w fun x w' =>
      x = .returned (.bool (hd (ev row n) e u).1) ∧ Upd w w' g 54 (evL (hd (ev row n) e u).2 A row.length c) := by
  have hg := ho.inside
  have hnode := ht.node.1
  obtain ⟨W, hW, hB, hU, hs, hA⟩ := Bx.made ht hr ho
  have Hs := Lib.hid hs
  clear ht hr ho hs
  by_cases h7 : e.op = 7
  case pos =>
    have h2 : e.kids.length = 2 := by rw [h7] at hnode; unfold kidsOf at hnode; simp at hnode; omega
    have hc := Lib.hid (compare2_any row A c n hE e u g W hB.te h2 hB.row hU.own)
    have hq : hd (ev row n) e u = (decide ((cp (ev row n) e u).1 < 0), (cp (ev row n) e u).2) := by unfold hd; rw [if_pos h7]
    rw [hq]
    have HU := Lib.hid hU
    clear hB hU hA hnode hop hq hE h2
    unfold Lx.val at *
    rw [h7] at hc hW ⊢
    generalize cp (ev row n) e u = q at *
    go_enter Try.func24, Try.ntmps24
    go_wp2_with fail
    rw [← hW]
    refine hc.out.mono ?_
    rintro _ w2 ⟨rfl, u2⟩
    have U2 := Lib.hid (HU.out.trans u2)
    clear u2
    go_wp2_with fail
    go_ret
    exact ⟨rfl, U2.out⟩
  by_cases h8 : e.op = 8
  case pos =>
    have h2 : e.kids.length = 2 := by rw [h8] at hnode; unfold kidsOf at hnode; simp at hnode; omega
    have hc := Lib.hid (compare2_any row A c n hE e u g W hB.te h2 hB.row hU.own)
    have hq : hd (ev row n) e u = ((cp (ev row n) e u).1 == 0, (cp (ev row n) e u).2) := by unfold hd; rw [if_neg h7, if_pos h8]
    rw [hq]
    have HU := Lib.hid hU
    clear hB hU hA hnode hop hq hE h2 h7
    unfold Lx.val at *
    rw [h8] at hc hW ⊢
    generalize cp (ev row n) e u = q at *
    go_enter Try.func24, Try.ntmps24
    go_wp2_with fail
    rw [← hW]
    refine hc.out.mono ?_
    rintro _ w2 ⟨rfl, u2⟩
    have U2 := Lib.hid (HU.out.trans u2)
    clear u2
    go_wp2_with fail
    go_ret
    exact ⟨rfl, U2.out⟩
  by_cases h11 : e.op = 11
  case pos =>
    have h1 : e.kids.length = 1 := by rw [h11] at hnode; unfold kidsOf at hnode; simp at hnode; omega
    have hq : hd (ev row n) e u = ((nm (ev row n) (kid e 0) u).1 == 0, (nm (ev row n) (kid e 0) u).2) := by unfold hd; rw [if_neg h7, if_neg h8, if_neg (by omega), if_neg (by omega)]
    rw [hq]
    have hc := Lib.hid (number2_any row A c n hE (kid e 0) u g W (hB.te.sub (by omega)) hB.row hU.own)
    obtain ⟨b, o, hA⟩ := hA (by omega)
    have k0 := hB.kidAt hA (i := 0) (by omega)
    rw [Nat.zero_mul, Nat.add_zero] at k0
    obtain ⟨d0, d1, d2, d3, d4, d5⟩ := k0
    have c5 := hB.six.2.2.2.2.2
    have HU := Lib.hid hU
    rw [hA, h1] at c5
    clear hB hU hnode hop hq hE h7 h8
    unfold Lx.val at *
    rw [h11, hA, h1] at hW ⊢
    generalize nm (ev row n) (kid e 0) u = q at *
    go_enter Try.func24, Try.ntmps24
    go_upto_region 1 with fail
    rw [← hW]
    have c0 : W.cell? ⟨w.heap.size, 0, none⟩ = some (.int .u8 11) := by rw [hW]; simp
    clear hW
    go_wp2_with fail
    refine hc.out.mono ?_
    rintro _ w2 ⟨rfl, u2⟩
    have U2 := Lib.hid (HU.out.trans u2)
    clear u2
    go_wp2_with fail
    go_ret
    exact ⟨rfl, U2.out⟩
  by_cases h9 : e.op = 9
  case pos =>
    have h2 : e.kids.length = 2 := by rw [h9] at hnode; unfold kidsOf at hnode; simp at hnode; omega
    have hq : hd (ev row n) e u = (if (nm (ev row n) (kid e 0) u).1 = 0 then (false, (nm (ev row n) (kid e 0) u).2) else ((nm (ev row n) (kid e 1) (nm (ev row n) (kid e 0) u).2).1 != 0, (nm (ev row n) (kid e 1) (nm (ev row n) (kid e 0) u).2).2)) := by unfold hd; rw [if_neg h7, if_neg h8, if_pos h9]
    rw [hq]
    have hc := Lib.hid (number2_any row A c n hE (kid e 0) u g W (hB.te.sub (by omega)) hB.row hU.own)
    have hc1 := fun W' (k : Upd W W' g 54 (evL (nm (ev row n) (kid e 0) u).2 A row.length c)) => Lib.hid (number2_any row A c n hE (kid e 1) (nm (ev row n) (kid e 0) u).2 g W' ((hB.next k).te.sub (by omega)) (hB.next k).row k.own)
    obtain ⟨b, o, hA⟩ := hA (by omega)
    have hK : ∀ W' l, Upd W W' g 54 l → Hid (W'.cell? ⟨w.heap.size, 5, none⟩ = some (.slice (some ⟨b, o, none⟩) 2 e.cap) ∧ W'.cell? ⟨b, o + 6, none⟩ = some (.int .u8 (kid e 1).op) ∧ W'.cell? ⟨b, o + 6 + 1, none⟩ = some (.int .i64 (kid e 1).col) ∧ W'.cell? ⟨b, o + 6 + 2, none⟩ = some (.bool (kid e 1).c.t) ∧
      W'.cell? ⟨b, o + 6 + 3, none⟩ = some (.int .i64 (kid e 1).c.n) ∧ W'.cell? ⟨b, o + 6 + 4, none⟩ = some (.string (kid e 1).c.s) ∧ W'.cell? ⟨b, o + 6 + 5, none⟩ = some (.slice (kid e 1).A (kid e 1).kids.length (kid e 1).cap)) := fun W' l k => by
      have k1 := (hB.next k).kidAt hA (i := 1) (by omega)
      have c5 := (hB.next k).six.2.2.2.2.2
      rw [hA, h2] at c5
      rw [Nat.one_mul] at k1
      exact Lib.hid ⟨c5, k1⟩
    have k0 := hB.kidAt hA (i := 0) (by omega)
    rw [Nat.zero_mul, Nat.add_zero] at k0
    obtain ⟨d0, d1, d2, d3, d4, d5⟩ := k0
    have c5 := hB.six.2.2.2.2.2
    have HU := Lib.hid hU
    rw [hA, h2] at c5
    clear hB hU hnode hop hq hE h7 h8 h11
    unfold Lx.val at *
    rw [h9, hA, h2] at hW ⊢
    generalize nm (ev row n) (kid e 0) u = p at *
    generalize nm (ev row n) (kid e 1) p.2 = q at *
    by_cases hz : p.1 = 0
    all_goals
      first | (have t1 : (p.1 != 0) = false := (by simpa using hz)) | (have t1 : (p.1 != 0) = true := (by simpa using hz))
      first | rw [if_pos hz] | rw [if_neg hz]
      clear hz
      go_enter Try.func24, Try.ntmps24
      go_upto_region 1 with fail
      rw [← hW]
      have c0 : W.cell? ⟨w.heap.size, 0, none⟩ = some (.int .u8 9) := by rw [hW]; simp
      clear hW
      go_wp2_with fail
      refine hc.out.mono ?_
      rintro _ w2 ⟨rfl, u2⟩
      have U2 := Lib.hid u2
      obtain ⟨x5, x0, x1, x2, x3, x4, x6⟩ := (hK w2 _ u2).out
      clear u2 c0 c5 d0 d1 d2 d3 d4 d5
      go_wp2_with fail
      first
      | (go_ret
         exact ⟨rfl, HU.out.trans U2.out⟩)
      | (refine (hc1 _ U2.out).out.mono ?_
         rintro _ w3 ⟨rfl, u3⟩
         have U3 := Lib.hid (U2.out.trans u3)
         clear u3 x0 x1 x2 x3 x4 x5 x6
         go_wp2_with fail
         go_ret
         exact ⟨rfl, HU.out.trans U3.out⟩)
  by_cases h10 : e.op = 10
  case pos =>
    have h2 : e.kids.length = 2 := by rw [h10] at hnode; unfold kidsOf at hnode; simp at hnode; omega
    have hq : hd (ev row n) e u = (if (nm (ev row n) (kid e 0) u).1 = 0 then ((nm (ev row n) (kid e 1) (nm (ev row n) (kid e 0) u).2).1 != 0, (nm (ev row n) (kid e 1) (nm (ev row n) (kid e 0) u).2).2) else (true, (nm (ev row n) (kid e 0) u).2)) := by unfold hd; rw [if_neg h7, if_neg h8, if_neg h9, if_pos h10]
    rw [hq]
    have hc := Lib.hid (number2_any row A c n hE (kid e 0) u g W (hB.te.sub (by omega)) hB.row hU.own)
    have hc1 := fun W' (k : Upd W W' g 54 (evL (nm (ev row n) (kid e 0) u).2 A row.length c)) => Lib.hid (number2_any row A c n hE (kid e 1) (nm (ev row n) (kid e 0) u).2 g W' ((hB.next k).te.sub (by omega)) (hB.next k).row k.own)
    obtain ⟨b, o, hA⟩ := hA (by omega)
    have hK : ∀ W' l, Upd W W' g 54 l → Hid (W'.cell? ⟨w.heap.size, 5, none⟩ = some (.slice (some ⟨b, o, none⟩) 2 e.cap) ∧ W'.cell? ⟨b, o + 6, none⟩ = some (.int .u8 (kid e 1).op) ∧ W'.cell? ⟨b, o + 6 + 1, none⟩ = some (.int .i64 (kid e 1).col) ∧ W'.cell? ⟨b, o + 6 + 2, none⟩ = some (.bool (kid e 1).c.t) ∧
      W'.cell? ⟨b, o + 6 + 3, none⟩ = some (.int .i64 (kid e 1).c.n) ∧ W'.cell? ⟨b, o + 6 + 4, none⟩ = some (.string (kid e 1).c.s) ∧ W'.cell? ⟨b, o + 6 + 5, none⟩ = some (.slice (kid e 1).A (kid e 1).kids.length (kid e 1).cap)) := fun W' l k => by
      have k1 := (hB.next k).kidAt hA (i := 1) (by omega)
      have c5 := (hB.next k).six.2.2.2.2.2
      rw [hA, h2] at c5
      rw [Nat.one_mul] at k1
      exact Lib.hid ⟨c5, k1⟩
    have k0 := hB.kidAt hA (i := 0) (by omega)
    rw [Nat.zero_mul, Nat.add_zero] at k0
    obtain ⟨d0, d1, d2, d3, d4, d5⟩ := k0
    have c5 := hB.six.2.2.2.2.2
    have HU := Lib.hid hU
    rw [hA, h2] at c5
    clear hB hU hnode hop hq hE h7 h8 h9 h11
    unfold Lx.val at *
    rw [h10, hA, h2] at hW ⊢
    generalize nm (ev row n) (kid e 0) u = p at *
    generalize nm (ev row n) (kid e 1) p.2 = q at *
    by_cases hz : p.1 = 0
    all_goals
      first | (have t1 : (p.1 != 0) = false := (by simpa using hz)) | (have t1 : (p.1 != 0) = true := (by simpa using hz))
      first | rw [if_pos hz] | rw [if_neg hz]
      clear hz
      go_enter Try.func24, Try.ntmps24
      go_upto_region 1 with fail
      rw [← hW]
      have c0 : W.cell? ⟨w.heap.size, 0, none⟩ = some (.int .u8 10) := by rw [hW]; simp
      clear hW
      go_wp2_with fail
      refine hc.out.mono ?_
      rintro _ w2 ⟨rfl, u2⟩
      have U2 := Lib.hid u2
      obtain ⟨x5, x0, x1, x2, x3, x4, x6⟩ := (hK w2 _ u2).out
      clear u2 c0 c5 d0 d1 d2 d3 d4 d5
      go_wp2_with fail
      first
      | (go_ret
         exact ⟨rfl, HU.out.trans U2.out⟩)
      | (refine (hc1 _ U2.out).out.mono ?_
         rintro _ w3 ⟨rfl, u3⟩
         have U3 := Lib.hid (U2.out.trans u3)
         clear u3 x0 x1 x2 x3 x4 x5 x6
         go_wp2_with fail
         go_ret
         exact ⟨rfl, HU.out.trans U3.out⟩)
  exfalso
  omega
end Go.Proofs.Yticcaogceoahdaa
