/- The evaluation of an expression. -/
import Derived.Test.YtjidjpmdmcleoaaEEvH
namespace Go.Proofs.Ytjidjpmdmcleoaa
open Go Go.RowKit

theorem Bx.made2 {row : List Vl} {A : Option Addr} {n : Nat} {e : Lx} {g : Nat} {w : World} {c : Nat} {u : Int} (ht : Te (n + 1) e w g) (hr : RowIn row A w g) (ho : Own w g 71 (evL u A row.length c)) :
    ∃ W, W = (w.alloc (.cells #[.int .u8 e.op, .int .i64 e.col, .bool e.c.t, .int .i64 e.c.n, .string e.c.s, .slice e.A e.kids.length e.cap] 27)).alloc (.cells #[.bool false, .int .i64 0, .string ⟨#[]⟩] 24) ∧ Bx row A n e g w.heap.size W ∧ Upd w W g 71 (evL u A row.length c) ∧
      Own W (w.heap.size + 1) 24 [.bool false, .int .i64 0, .string ⟨#[]⟩] ∧ (0 < e.kids.length → ∃ b o, e.A = some ⟨b, o, none⟩) := by
  obtain ⟨W, hW, hB, hU, hs, hA⟩ := Bx.made ht hr ho
  rw [← hW]
  have hz := Own.made W 24 [.bool false, .int .i64 0, .string ⟨#[]⟩]
  rw [hs] at hz
  exact ⟨_, rfl, hB.next ((Upd.same hU.own).more _), hU.more _, hz, hA⟩
theorem zero_reads {w : World} {N : Nat} {t : TypeId} (h : Own w N t [.bool false, .int .i64 0, .string ⟨#[]⟩]) :
    (w.cell? ⟨N, 0, none⟩ = some (.bool false) ∧ w.cell? ⟨N, 1, none⟩ = some (.int .i64 0) ∧ w.cell? ⟨N, 2, none⟩ = some (.string ⟨#[]⟩)) ∧ (w.frozen? ⟨N, 0, none⟩ = false ∧ w.frozen? ⟨N, 1, none⟩ = false ∧ w.frozen? ⟨N, 2, none⟩ = false) :=
  ⟨⟨h.at_ 0, h.at_ 1, h.at_ 2⟩, h.open_ 0, h.open_ 1, h.open_ 2⟩
set_option maxRecDepth 100000 in
set_option maxHeartbeats 3200000 in
theorem eval_next (row : List Vl) (A : Option Addr) (c n : Nat) (hE : EvC row A c n) : EvC row A c (n + 1) := by
  intro e u g w ht hr ho
  have hg := ho.inside
  have hnode := ht.node.1
  have hgN : w.heap.size + 1 ≠ g := by omega
  have hNN : w.heap.size ≤ w.heap.size + 1 := by omega
  obtain ⟨W, hW, hB, hU, hz, hA⟩ := Bx.made2 ht hr ho
  obtain ⟨⟨y0, y1, y2⟩, z0, z1, z2⟩ := zero_reads hz
  have hzi := hz.inside
  have HZ := Lib.hid hz
  have HU := Lib.hid hU
  by_cases h1 : e.op = 1
  case pos =>
    have hq : ev row (n + 1) e u = ((if 0 ≤ e.col ∧ e.col < row.length then row.getD e.col.toNat default else Vl.zero), (if 0 ≤ e.col ∧ e.col < row.length then u else fl u 1)) := by
      unfold ev; rw [if_pos h1]; split <;> rfl
    rw [hq]
    have hc := Lib.hid (column_any row A c u e.col g W hB.row hU.own)
    have c0 := hB.six.1
    have c1 := hB.six.2.1
    rw [h1] at c0
    clear ht hr ho hB hU hz hA hnode hE hq
    unfold Lx.val
    rw [h1] at hW ⊢
    generalize (if 0 ≤ e.col ∧ e.col < row.length then row.getD e.col.toNat default else Vl.zero) = x at *
    generalize (if 0 ≤ e.col ∧ e.col < row.length then u else fl u 1) = u1 at *
    unfold Vl.val at *
    go_enter Try.func28, Try.ntmps28
    go_upto_region 1 with fail
    rw [← hW]
    clear hW
    go_wp2_with fail
    refine hc.out.mono ?_
    rintro _ w2 ⟨rfl, u2⟩
    have HZ2 := Lib.hid (u2.other hgN HZ.out)
    have U2 := Lib.hid (HU.out.trans u2)
    clear u2 c0 c1 y0 y1 y2 z0 z1 z2
    obtain ⟨⟨y0, y1, y2⟩, z0, z1, z2⟩ := zero_reads (HZ2.out)
    go_wp2_with fail
    obtain ⟨e0, e1, e2⟩ := (HZ2.out).stored3 (.bool x.t) (.int .i64 x.n) (.string x.s)
    exact bodyPost_ret (v := .agg #[.bool x.t, .int .i64 x.n, .string x.s]) (by simp [results, Try.results28, go_sem, e0, e1, e2]) rfl ⟨rfl, (U2.out).put3 hNN hg _ _ _⟩
  by_cases h2 : e.op = 2
  case pos =>
    have hq : ev row (n + 1) e u = (e.c, u) := by unfold ev; rw [if_neg h1, if_pos h2]
    rw [hq]
    obtain ⟨c0, c1, c2, c3, c4, c5⟩ := hB.six
    rw [h2] at c0
    clear ht hr ho hB hU hz hA hnode hE hq
    unfold Lx.val
    rw [h2] at hW ⊢
    unfold Vl.val
    go_enter Try.func28, Try.ntmps28
    go_upto_region 1 with fail
    rw [← hW]
    clear hW
    go_wp2_with fail
    obtain ⟨e0, e1, e2⟩ := (HZ.out).stored3 (.bool e.c.t) (.int .i64 e.c.n) (.string e.c.s)
    exact bodyPost_ret (v := .agg #[.bool e.c.t, .int .i64 e.c.n, .string e.c.s]) (by simp [results, Try.results28, go_sem, e0, e1, e2]) rfl ⟨rfl, (HU.out).put3 hNN hg _ _ _⟩
  by_cases h12 : e.op = 12
  case pos =>
    have h3 : e.kids.length = 3 := by rw [h12] at hnode; unfold kidsOf at hnode; simp at hnode; omega
    have hq : ev row (n + 1) e u = (if (nm (ev row n) (kid e 0) u).1 = 0 then ev row n (kid e 2) (nm (ev row n) (kid e 0) u).2 else ev row n (kid e 1) (nm (ev row n) (kid e 0) u).2) := by
      conv => lhs; unfold ev
      rw [if_neg h1, if_neg h2, if_pos h12]
    rw [hq]
    have hc := Lib.hid (number2_any row A c n hE (kid e 0) u g W (hB.te.sub (by omega)) hB.row hU.own)
    obtain ⟨b, o, hA⟩ := hA (by omega)
    have k0 := hB.kidAt hA (i := 0) (by omega)
    rw [Nat.zero_mul, Nat.add_zero] at k0
    obtain ⟨d0, d1, d2, d3, d4, d5⟩ := k0
    by_cases hz0 : (nm (ev row n) (kid e 0) u).1 = 0
    case pos =>
      rw [if_pos hz0]
      have hc1 := fun W' (k : Upd W W' g 71 (evL (nm (ev row n) (kid e 0) u).2 A row.length c)) => Lib.hid (hE (kid e 2) (nm (ev row n) (kid e 0) u).2 g W' ((hB.next k).te.sub (by omega)) (hB.next k).row k.own)
      have hK : ∀ W' l, Upd W W' g 71 l → Hid (W'.cell? ⟨w.heap.size, 5, none⟩ = some (.slice (some ⟨b, o, none⟩) 3 e.cap) ∧ W'.cell? ⟨b, o + 12, none⟩ = some (.int .u8 (kid e 2).op) ∧ W'.cell? ⟨b, o + 12 + 1, none⟩ = some (.int .i64 (kid e 2).col) ∧ W'.cell? ⟨b, o + 12 + 2, none⟩ = some (.bool (kid e 2).c.t) ∧ W'.cell? ⟨b, o + 12 + 3, none⟩ = some (.int .i64 (kid e 2).c.n) ∧ W'.cell? ⟨b, o + 12 + 4, none⟩ = some (.string (kid e 2).c.s) ∧ W'.cell? ⟨b, o + 12 + 5, none⟩ = some (.slice (kid e 2).A (kid e 2).kids.length (kid e 2).cap)) := fun W' l k => by
        have k1 := (hB.next k).kidAt hA (i := 2) (by omega)
        have c5 := (hB.next k).six.2.2.2.2.2
        rw [hA, h3] at c5
        rw [show 2 * 6 = 12 from rfl] at k1
        exact Lib.hid ⟨c5, k1⟩
      have c0 := hB.six.1
      rw [h12] at c0
      have c5 := hB.six.2.2.2.2.2
      rw [hA, h3] at c5
      clear ht hr ho hB hU hz hnode hE hq
      unfold Lx.val at *
      rw [h12, hA, h3] at hW ⊢
      generalize nm (ev row n) (kid e 0) u = p at *
      generalize ev row n (kid e 2) p.2 = q at *
      have t1 : (p.1 != 0) = false := by simpa using hz0
      clear hz0
      unfold Vl.val at *
      go_enter Try.func28, Try.ntmps28
      go_upto_region 1 with fail
      rw [← hW]
      clear hW
      go_wp2_with fail
      refine hc.out.mono ?_
      rintro _ w2 ⟨rfl, u2⟩
      have U2 := Lib.hid u2
      obtain ⟨x5, x0, x1, x2, x3, x4, x6⟩ := (hK w2 _ u2).out
      clear u2 c0 c5 d0 d1 d2 d3 d4 d5
      go_wp2_with fail
      refine (hc1 _ U2.out).out.mono ?_
      rintro _ w3 ⟨rfl, u3⟩
      have U3 := Lib.hid (U2.out.trans u3)
      have HZ3 := Lib.hid ((U2.out.trans u3).other hgN HZ.out)
      clear u3 x0 x1 x2 x3 x4 x5 x6 y0 y1 y2 z0 z1 z2
      obtain ⟨⟨y0, y1, y2⟩, z0, z1, z2⟩ := zero_reads (HZ3.out)
      go_wp2_with fail
      obtain ⟨e0, e1, e2⟩ := (HZ3.out).stored3 (.bool q.1.t) (.int .i64 q.1.n) (.string q.1.s)
      exact bodyPost_ret (v := .agg #[.bool q.1.t, .int .i64 q.1.n, .string q.1.s]) (by simp [results, Try.results28, go_sem, e0, e1, e2]) rfl ⟨rfl, (HU.out.trans U3.out).put3 hNN hg _ _ _⟩
    case neg =>
      rw [if_neg hz0]
      have hc1 := fun W' (k : Upd W W' g 71 (evL (nm (ev row n) (kid e 0) u).2 A row.length c)) => Lib.hid (hE (kid e 1) (nm (ev row n) (kid e 0) u).2 g W' ((hB.next k).te.sub (by omega)) (hB.next k).row k.own)
      have hK : ∀ W' l, Upd W W' g 71 l → Hid (W'.cell? ⟨w.heap.size, 5, none⟩ = some (.slice (some ⟨b, o, none⟩) 3 e.cap) ∧ W'.cell? ⟨b, o + 6, none⟩ = some (.int .u8 (kid e 1).op) ∧ W'.cell? ⟨b, o + 6 + 1, none⟩ = some (.int .i64 (kid e 1).col) ∧ W'.cell? ⟨b, o + 6 + 2, none⟩ = some (.bool (kid e 1).c.t) ∧ W'.cell? ⟨b, o + 6 + 3, none⟩ = some (.int .i64 (kid e 1).c.n) ∧ W'.cell? ⟨b, o + 6 + 4, none⟩ = some (.string (kid e 1).c.s) ∧ W'.cell? ⟨b, o + 6 + 5, none⟩ = some (.slice (kid e 1).A (kid e 1).kids.length (kid e 1).cap)) := fun W' l k => by
        have k1 := (hB.next k).kidAt hA (i := 1) (by omega)
        have c5 := (hB.next k).six.2.2.2.2.2
        rw [hA, h3] at c5
        rw [show 1 * 6 = 6 from rfl] at k1
        exact Lib.hid ⟨c5, k1⟩
      have c0 := hB.six.1
      rw [h12] at c0
      have c5 := hB.six.2.2.2.2.2
      rw [hA, h3] at c5
      clear ht hr ho hB hU hz hnode hE hq
      unfold Lx.val at *
      rw [h12, hA, h3] at hW ⊢
      generalize nm (ev row n) (kid e 0) u = p at *
      generalize ev row n (kid e 1) p.2 = q at *
      have t1 : (p.1 != 0) = true := by simpa using hz0
      clear hz0
      unfold Vl.val at *
      go_enter Try.func28, Try.ntmps28
      go_upto_region 1 with fail
      rw [← hW]
      clear hW
      go_wp2_with fail
      refine hc.out.mono ?_
      rintro _ w2 ⟨rfl, u2⟩
      have U2 := Lib.hid u2
      obtain ⟨x5, x0, x1, x2, x3, x4, x6⟩ := (hK w2 _ u2).out
      clear u2 c0 c5 d0 d1 d2 d3 d4 d5
      go_wp2_with fail
      refine (hc1 _ U2.out).out.mono ?_
      rintro _ w3 ⟨rfl, u3⟩
      have U3 := Lib.hid (U2.out.trans u3)
      have HZ3 := Lib.hid ((U2.out.trans u3).other hgN HZ.out)
      clear u3 x0 x1 x2 x3 x4 x5 x6 y0 y1 y2 z0 z1 z2
      obtain ⟨⟨y0, y1, y2⟩, z0, z1, z2⟩ := zero_reads (HZ3.out)
      go_wp2_with fail
      obtain ⟨e0, e1, e2⟩ := (HZ3.out).stored3 (.bool q.1.t) (.int .i64 q.1.n) (.string q.1.s)
      exact bodyPost_ret (v := .agg #[.bool q.1.t, .int .i64 q.1.n, .string q.1.s]) (by simp [results, Try.results28, go_sem, e0, e1, e2]) rfl ⟨rfl, (HU.out.trans U3.out).put3 hNN hg _ _ _⟩
  by_cases h7 : 7 ≤ e.op
  case pos =>
    have h11 : e.op ≤ 11 := by
      have := hnode
      unfold kidsOf at this
      repeat' split at this
      all_goals omega
    have hq : ev row (n + 1) e u = (Vl.num (if (hd (ev row n) e u).1 then 1 else 0), (hd (ev row n) e u).2) := by
      conv => lhs; unfold ev
      rw [if_neg h1, if_neg h2, if_neg h12, if_pos h7]
    rw [hq]
    have hc := Lib.hid (holds2_any row A c n hE e u g W hB.te ⟨h7, h11⟩ hB.row hU.own)
    obtain ⟨c0, c1, c2, c3, c4, c5⟩ := hB.six
    clear ht hr ho hB hU hz hA hnode hE hq
    unfold Lx.val at *
    generalize hd (ev row n) e u = q at *
    obtain ⟨p, u1⟩ := q
    have ho : e.op = 7 ∨ e.op = 8 ∨ e.op = 9 ∨ e.op = 10 ∨ e.op = 11 := by omega
    clear h1 h2 h12 h7 h11
    unfold Vl.val Vl.num
    dsimp only at hc ⊢
    cases p
    all_goals
      simp only [Bool.false_eq_true, if_false, if_true]
      rcases ho with h7 | h7 | h7 | h7 | h7
      all_goals
        rw [h7] at hW hc c0 ⊢
        go_enter Try.func28, Try.ntmps28
        go_upto_region 1 with fail
        rw [← hW]
        clear hW
        go_wp2_with fail
        refine hc.out.mono ?_
        rintro _ w2 ⟨rfl, u2⟩
        have HZ2 := Lib.hid (u2.other hgN HZ.out)
        have U2 := Lib.hid (HU.out.trans u2)
        clear u2 c0 c1 c2 c3 c4 c5 y0 y1 y2 z0 z1 z2
        obtain ⟨⟨y0, y1, y2⟩, z0, z1, z2⟩ := zero_reads (HZ2.out)
        go_wp2_with fail
        first
        | (obtain ⟨e0, e1, e2⟩ := HZ2.out.stored3 (.bool false) (.int .i64 0) (.string ⟨#[]⟩)
           exact bodyPost_ret (v := .agg #[.bool false, .int .i64 0, .string ⟨#[]⟩]) (by simp [results, Try.results28, go_sem, e0, e1, e2]) rfl ⟨rfl, U2.out.put3 hNN hg _ _ _⟩)
        | (obtain ⟨e0, e1, e2⟩ := HZ2.out.stored3 (.bool false) (.int .i64 1) (.string ⟨#[]⟩)
           exact bodyPost_ret (v := .agg #[.bool false, .int .i64 1, .string ⟨#[]⟩]) (by simp [results, Try.results28, go_sem, e0, e1, e2]) rfl ⟨rfl, U2.out.put3 hNN hg _ _ _⟩)
  have h36 : 3 ≤ e.op ∧ e.op ≤ 6 := by
    have := hnode
    unfold kidsOf at this
    repeat' split at this
    all_goals omega
  have hq : ev row (n + 1) e u = (Vl.num (fitN (rk (ev row n) e u).1), fl (rk (ev row n) e u).2 (fitE (rk (ev row n) e u).1)) := by
    conv => lhs; unfold ev
    rw [if_neg h1, if_neg h2, if_neg h12, if_neg h7]
  rw [hq]
  have hc := Lib.hid (reckon2_any row A c n hE e u g W hB.te h36 hB.row hU.own)
  obtain ⟨c0, c1, c2, c3, c4, c5⟩ := hB.six
  clear ht hr ho hB hU hz hA hnode hE hq
  unfold Lx.val at *
  generalize rk (ev row n) e u = q at *
  have ho : e.op = 3 ∨ e.op = 4 ∨ e.op = 5 ∨ e.op = 6 := by omega
  clear h1 h2 h12 h7 h36
  unfold Vl.val Vl.num
  dsimp only
  rcases ho with h7 | h7 | h7 | h7
  all_goals
    rw [h7] at hW hc c0 ⊢
    go_enter Try.func28, Try.ntmps28
    go_upto_region 1 with fail
    rw [← hW]
    clear hW
    go_wp2_with fail
    refine hc.out.mono ?_
    rintro _ w2 ⟨rfl, u2⟩
    have HZ2 := Lib.hid (u2.other hgN HZ.out)
    have U2 := Lib.hid (HU.out.trans u2)
    clear u2 c0 c1 c2 c3 c4 c5 y0 y1 y2 z0 z1 z2
    go_wp2_with fail
    refine (fail_any g _ _ _ _ _ U2.out.own).mono ?_
    rintro _ w3 ⟨rfl, u3⟩
    have HZ3 := Lib.hid (u3.other hgN HZ2.out)
    have U3 := Lib.hid (U2.out.trans u3)
    clear u3
    obtain ⟨⟨y0, y1, y2⟩, z0, z1, z2⟩ := zero_reads (HZ3.out)
    go_wp2_with fail
    obtain ⟨e0, e1, e2⟩ := (HZ3.out).stored3 (.bool false) (.int .i64 (fitN q.1)) (.string ⟨#[]⟩)
    exact bodyPost_ret (v := .agg #[.bool false, .int .i64 (fitN q.1), .string ⟨#[]⟩]) (by simp [results, Try.results28, go_sem, e0, e1, e2]) rfl ⟨rfl, (U3.out).put3 hNN hg _ _ _⟩
theorem eval_any (row : List Vl) (A : Option Addr) (c : Nat) : ∀ n, EvC row A c n
  | 0 => fun e u g w ht _ _ => by have := ht.gd; cases this
  | n + 1 => eval_next row A c n (eval_any row A c n)
end Go.Proofs.Ytjidjpmdmcleoaa
