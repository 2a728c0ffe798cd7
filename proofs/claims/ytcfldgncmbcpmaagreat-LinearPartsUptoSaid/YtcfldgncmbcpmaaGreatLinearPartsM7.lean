/- Part 7 of the texts on which LinearParts rests: facts and contracts. -/
import Derived.Test.YtcfldgncmbcpmaaGreatLinearPartsM6
namespace Go.Proofs.YtcfldgncmbcpmaaGreat
open Go Go.RowKit

theorem Bx.made2 {row : List Vl} {A : Option Addr} {n : Nat} {e : Lx} {g : Nat} {w : World} {c : Nat} {u : Int} (ht : Te (n + 1) e w g) (hr : RowIn row A w g) (ho : Own w g 169 (evL u A row.length c)) :
    ∃ W, W = (w.alloc (.cells #[.int .u8 e.op, .int .i64 e.col, .bool e.c.t, .int .i64 e.c.n, .string e.c.s, .slice e.A e.kids.length e.cap] 141)).alloc (.cells #[.bool false, .int .i64 0, .string ⟨#[]⟩] 46) ∧ Bx row A n e g w.heap.size W ∧ Upd w W g 169 (evL u A row.length c) ∧
      Own W (w.heap.size + 1) 46 [.bool false, .int .i64 0, .string ⟨#[]⟩] ∧ (0 < e.kids.length → ∃ b o, e.A = some ⟨b, o, none⟩) := by
  obtain ⟨W, hW, hB, hU, hs, hA⟩ := Bx.made ht hr ho
  rw [← hW]
  have hz := Own.made W 46 [.bool false, .int .i64 0, .string ⟨#[]⟩]
  rw [hs] at hz
  exact ⟨_, rfl, hB.next ((Upd.same hU.own).more _), hU.more _, hz, hA⟩
theorem zero_reads {w : World} {N : Nat} {t : TypeId} (h : Own w N t [.bool false, .int .i64 0, .string ⟨#[]⟩]) :
    (w.cell? ⟨N, 0, none⟩ = some (.bool false) ∧ w.cell? ⟨N, 1, none⟩ = some (.int .i64 0) ∧ w.cell? ⟨N, 2, none⟩ = some (.string ⟨#[]⟩)) ∧ (w.frozen? ⟨N, 0, none⟩ = false ∧ w.frozen? ⟨N, 1, none⟩ = false ∧ w.frozen? ⟨N, 2, none⟩ = false) :=
  ⟨⟨h.at_ 0, h.at_ 1, h.at_ 2⟩, h.open_ 0, h.open_ 1, h.open_ 2⟩
set_option maxRecDepth 100000 in
set_option maxHeartbeats 3200000 in
theorem eval_next (row : List Vl) (A : Option Addr) (c n : Nat) (hE : EvC row A c n) : EvC row A c (n + 1) := by
  intro e u g w ht hr ho
  have hg := ho.inside
  have hnode := ht.node.1
  have hgN : w.heap.size + 1 ≠ g := by omega
  have hNN : w.heap.size ≤ w.heap.size + 1 := by omega
  obtain ⟨W, hW, hB, hU, hz, hA⟩ := Bx.made2 ht hr ho
  obtain ⟨⟨y0, y1, y2⟩, z0, z1, z2⟩ := zero_reads hz
  have hzi := hz.inside
  have HZ := Lib.hid hz
  have HU := Lib.hid hU
  by_cases h1 : e.op = 1
  case pos =>
    have hq : ev row (n + 1) e u = ((if 0 ≤ e.col ∧ e.col < row.length then row.getD e.col.toNat default else Vl.zero), (if 0 ≤ e.col ∧ e.col < row.length then u else fl u 1)) := by
      unfold ev; rw [if_pos h1]; split <;> rfl
    rw [hq]
    have hc := Lib.hid (column_any row A c u e.col g W hB.row hU.own)
    have c0 := hB.six.1
    have c1 := hB.six.2.1
    rw [h1] at c0
    clear ht hr ho hB hU hz hA hnode hE hq
    unfold Lx.val
    rw [h1] at hW ⊢
    generalize (if 0 ≤ e.col ∧ e.col < row.length then row.getD e.col.toNat default else Vl.zero) = x at *
    generalize (if 0 ≤ e.col ∧ e.col < row.length then u else fl u 1) = u1 at *
    unfold Vl.val at *
    go_enter Tryz.func98, Tryz.ntmps98
    go_upto_region 1 with fail
    rw [← hW]
    clear hW
    go_wp2_with fail
    refine hc.out.mono ?_
    rintro _ w2 ⟨rfl, u2⟩
    have HZ2 := Lib.hid (u2.other hgN HZ.out)
    have U2 := Lib.hid (HU.out.trans u2)
    clear u2 c0 c1 y0 y1 y2 z0 z1 z2
    obtain ⟨⟨y0, y1, y2⟩, z0, z1, z2⟩ := zero_reads (HZ2.out)
    go_wp2_with fail
    obtain ⟨e0, e1, e2⟩ := (HZ2.out).stored3 (.bool x.t) (.int .i64 x.n) (.string x.s)
    exact bodyPost_ret (v := .agg #[.bool x.t, .int .i64 x.n, .string x.s]) (by simp [results, Tryz.results98, go_sem, e0, e1, e2]) rfl ⟨rfl, (U2.out).put3 hNN hg _ _ _⟩
  by_cases h2 : e.op = 2
  case pos =>
    have hq : ev row (n + 1) e u = (e.c, u) := by unfold ev; rw [if_neg h1, if_pos h2]
    rw [hq]
    obtain ⟨c0, c1, c2, c3, c4, c5⟩ := hB.six
    rw [h2] at c0
    clear ht hr ho hB hU hz hA hnode hE hq
    unfold Lx.val
    rw [h2] at hW ⊢
    unfold Vl.val
    go_enter Tryz.func98, Tryz.ntmps98
    go_upto_region 1 with fail
    rw [← hW]
    clear hW
    go_wp2_with fail
    obtain ⟨e0, e1, e2⟩ := (HZ.out).stored3 (.bool e.c.t) (.int .i64 e.c.n) (.string e.c.s)
    exact bodyPost_ret (v := .agg #[.bool e.c.t, .int .i64 e.c.n, .string e.c.s]) (by simp [results, Tryz.results98, go_sem, e0, e1, e2]) rfl ⟨rfl, (HU.out).put3 hNN hg _ _ _⟩
  by_cases h12 : e.op = 12
  case pos =>
    have h3 : e.kids.length = 3 := by rw [h12] at hnode; unfold kidsOf at hnode; simp at hnode; omega
    have hq : ev row (n + 1) e u = (if (nm (ev row n) (kid e 0) u).1 = 0 then ev row n (kid e 2) (nm (ev row n) (kid e 0) u).2 else ev row n (kid e 1) (nm (ev row n) (kid e 0) u).2) := by
      conv => lhs; unfold ev
      rw [if_neg h1, if_neg h2, if_pos h12]
    rw [hq]
    have hc := Lib.hid (number2_any row A c n hE (kid e 0) u g W (hB.te.sub (by omega)) hB.row hU.own)
    obtain ⟨b, o, hA⟩ := hA (by omega)
    have k0 := hB.kidAt hA (i := 0) (by omega)
    rw [Nat.zero_mul, Nat.add_zero] at k0
    obtain ⟨d0, d1, d2, d3, d4, d5⟩ := k0
    by_cases hz0 : (nm (ev row n) (kid e 0) u).1 = 0
    case pos =>
      rw [if_pos hz0]
      have hc1 := fun W' (k : Upd W W' g 169 (evL (nm (ev row n) (kid e 0) u).2 A row.length c)) => Lib.hid (hE (kid e 2) (nm (ev row n) (kid e 0) u).2 g W' ((hB.next k).te.sub (by omega)) (hB.next k).row k.own)
      have hK : ∀ W' l, Upd W W' g 169 l → Hid (W'.cell? ⟨w.heap.size, 5, none⟩ = some (.slice (some ⟨b, o, none⟩) 3 e.cap) ∧ W'.cell? ⟨b, o + 12, none⟩ = some (.int .u8 (kid e 2).op) ∧ W'.cell? ⟨b, o + 12 + 1, none⟩ = some (.int .i64 (kid e 2).col) ∧ W'.cell? ⟨b, o + 12 + 2, none⟩ = some (.bool (kid e 2).c.t) ∧ W'.cell? ⟨b, o + 12 + 3, none⟩ = some (.int .i64 (kid e 2).c.n) ∧ W'.cell? ⟨b, o + 12 + 4, none⟩ = some (.string (kid e 2).c.s) ∧ W'.cell? ⟨b, o + 12 + 5, none⟩ = some (.slice (kid e 2).A (kid e 2).kids.length (kid e 2).cap)) := fun W' l k => by
        have k1 := (hB.next k).kidAt hA (i := 2) (by omega)
        have c5 := (hB.next k).six.2.2.2.2.2
        rw [hA, h3] at c5
        rw [show 2 * 6 = 12 from rfl] at k1
        exact Lib.hid ⟨c5, k1⟩
      have c0 := hB.six.1
      rw [h12] at c0
      have c5 := hB.six.2.2.2.2.2
      rw [hA, h3] at c5
      clear ht hr ho hB hU hz hnode hE hq
      unfold Lx.val at *
      rw [h12, hA, h3] at hW ⊢
      generalize nm (ev row n) (kid e 0) u = p at *
      generalize ev row n (kid e 2) p.2 = q at *
      have t1 : (p.1 != 0) = false := by simpa using hz0
      clear hz0
      unfold Vl.val at *
      go_enter Tryz.func98, Tryz.ntmps98
      go_upto_region 1 with fail
      rw [← hW]
      clear hW
      go_wp2_with fail
      refine hc.out.mono ?_
      rintro _ w2 ⟨rfl, u2⟩
      have U2 := Lib.hid u2
      obtain ⟨x5, x0, x1, x2, x3, x4, x6⟩ := (hK w2 _ u2).out
      clear u2 c0 c5 d0 d1 d2 d3 d4 d5
      go_wp2_with fail
      refine (hc1 _ U2.out).out.mono ?_
      rintro _ w3 ⟨rfl, u3⟩
      have U3 := Lib.hid (U2.out.trans u3)
      have HZ3 := Lib.hid ((U2.out.trans u3).other hgN HZ.out)
      clear u3 x0 x1 x2 x3 x4 x5 x6 y0 y1 y2 z0 z1 z2
      obtain ⟨⟨y0, y1, y2⟩, z0, z1, z2⟩ := zero_reads (HZ3.out)
      go_wp2_with fail
      obtain ⟨e0, e1, e2⟩ := (HZ3.out).stored3 (.bool q.1.t) (.int .i64 q.1.n) (.string q.1.s)
      exact bodyPost_ret (v := .agg #[.bool q.1.t, .int .i64 q.1.n, .string q.1.s]) (by simp [results, Tryz.results98, go_sem, e0, e1, e2]) rfl ⟨rfl, (HU.out.trans U3.out).put3 hNN hg _ _ _⟩
    case neg =>
      rw [if_neg hz0]
      have hc1 := fun W' (k : Upd W W' g 169 (evL (nm (ev row n) (kid e 0) u).2 A row.length c)) => Lib.hid (hE (kid e 1) (nm (ev row n) (kid e 0) u).2 g W' ((hB.next k).te.sub (by omega)) (hB.next k).row k.own)
      have hK : ∀ W' l, Upd W W' g 169 l → Hid (W'.cell? ⟨w.heap.size, 5, none⟩ = some (.slice (some ⟨b, o, none⟩) 3 e.cap) ∧ W'.cell? ⟨b, o + 6, none⟩ = some (.int .u8 (kid e 1).op) ∧ W'.cell? ⟨b, o + 6 + 1, none⟩ = some (.int .i64 (kid e 1).col) ∧ W'.cell? ⟨b, o + 6 + 2, none⟩ = some (.bool (kid e 1).c.t) ∧ W'.cell? ⟨b, o + 6 + 3, none⟩ = some (.int .i64 (kid e 1).c.n) ∧ W'.cell? ⟨b, o + 6 + 4, none⟩ = some (.string (kid e 1).c.s) ∧ W'.cell? ⟨b, o + 6 + 5, none⟩ = some (.slice (kid e 1).A (kid e 1).kids.length (kid e 1).cap)) := fun W' l k => by
        have k1 := (hB.next k).kidAt hA (i := 1) (by omega)
        have c5 := (hB.next k).six.2.2.2.2.2
        rw [hA, h3] at c5
        rw [show 1 * 6 = 6 from rfl] at k1
        exact Lib.hid ⟨c5, k1⟩
      have c0 := hB.six.1
      rw [h12] at c0
      have c5 := hB.six.2.2.2.2.2
      rw [hA, h3] at c5
      clear ht hr ho hB hU hz hnode hE hq
      unfold Lx.val at *
      rw [h12, hA, h3] at hW ⊢
      generalize nm (ev row n) (kid e 0) u = p at *
      generalize ev row n (kid e 1) p.2 = q at *
      have t1 : (p.1 != 0) = true := by simpa using hz0
      clear hz0
      unfold Vl.val at *
      go_enter Tryz.func98, Tryz.ntmps98
      go_upto_region 1 with fail
      rw [← hW]
      clear hW
      go_wp2_with fail
      refine hc.out.mono ?_
      rintro _ w2 ⟨rfl, u2⟩
      have U2 := Lib.hid u2
      obtain ⟨x5, x0, x1, x2, x3, x4, x6⟩ := (hK w2 _ u2).out
      clear u2 c0 c5 d0 d1 d2 d3 d4 d5
      go_wp2_with fail
      refine (hc1 _ U2.out).out.mono ?_
      rintro _ w3 ⟨rfl, u3⟩
      have U3 := Lib.hid (U2.out.trans u3)
      have HZ3 := Lib.hid ((U2.out.trans u3).other hgN HZ.out)
      clear u3 x0 x1 x2 x3 x4 x5 x6 y0 y1 y2 z0 z1 z2
      obtain ⟨⟨y0, y1, y2⟩, z0, z1, z2⟩ := zero_reads (HZ3.out)
      go_wp2_with fail
      obtain ⟨e0, e1, e2⟩ := (HZ3.out).stored3 (.bool q.1.t) (.int .i64 q.1.n) (.string q.1.s)
      exact bodyPost_ret (v := .agg #[.bool q.1.t, .int .i64 q.1.n, .string q.1.s]) (by simp [results, Tryz.results98, go_sem, e0, e1, e2]) rfl ⟨rfl, (HU.out.trans U3.out).put3 hNN hg _ _ _⟩
  by_cases h7 : 7 ≤ e.op
  case pos =>
    have h11 : e.op ≤ 11 := by
      have := hnode
      unfold kidsOf at this
      repeat' split at this
      all_goals omega
    have hq : ev row (n + 1) e u = (Vl.num (if (hd (ev row n) e u).1 then 1 else 0), (hd (ev row n) e u).2) := by
      conv => lhs; unfold ev
      rw [if_neg h1, if_neg h2, if_neg h12, if_pos h7]
    rw [hq]
    have hc := Lib.hid (holds2_any row A c n hE e u g W hB.te ⟨h7, h11⟩ hB.row hU.own)
    obtain ⟨c0, c1, c2, c3, c4, c5⟩ := hB.six
    clear ht hr ho hB hU hz hA hnode hE hq
    unfold Lx.val at *
    generalize hd (ev row n) e u = q at *
    obtain ⟨p, u1⟩ := q
    have ho : e.op = 7 ∨ e.op = 8 ∨ e.op = 9 ∨ e.op = 10 ∨ e.op = 11 := by omega
    clear h1 h2 h12 h7 h11
    unfold Vl.val Vl.num
    dsimp only at hc ⊢
    cases p
    all_goals
      simp only [Bool.false_eq_true, if_false, if_true]
      rcases ho with h7 | h7 | h7 | h7 | h7
      all_goals
        rw [h7] at hW hc c0 ⊢
        go_enter Tryz.func98, Tryz.ntmps98
        go_upto_region 1 with fail
        rw [← hW]
        clear hW
        go_wp2_with fail
        refine hc.out.mono ?_
        rintro _ w2 ⟨rfl, u2⟩
        have HZ2 := Lib.hid (u2.other hgN HZ.out)
        have U2 := Lib.hid (HU.out.trans u2)
        clear u2 c0 c1 c2 c3 c4 c5 y0 y1 y2 z0 z1 z2
        obtain ⟨⟨y0, y1, y2⟩, z0, z1, z2⟩ := zero_reads (HZ2.out)
        go_wp2_with fail
        first
        | (obtain ⟨e0, e1, e2⟩ := HZ2.out.stored3 (.bool false) (.int .i64 0) (.string ⟨#[]⟩)
           exact bodyPost_ret (v := .agg #[.bool false, .int .i64 0, .string ⟨#[]⟩]) (by simp [results, Tryz.results98, go_sem, e0, e1, e2]) rfl ⟨rfl, U2.out.put3 hNN hg _ _ _⟩)
        | (obtain ⟨e0, e1, e2⟩ := HZ2.out.stored3 (.bool false) (.int .i64 1) (.string ⟨#[]⟩)
           exact bodyPost_ret (v := .agg #[.bool false, .int .i64 1, .string ⟨#[]⟩]) (by simp [results, Tryz.results98, go_sem, e0, e1, e2]) rfl ⟨rfl, U2.out.put3 hNN hg _ _ _⟩)
  have h36 : 3 ≤ e.op ∧ e.op ≤ 6 := by
    have := hnode
    unfold kidsOf at this
    repeat' split at this
    all_goals omega
  have hq : ev row (n + 1) e u = (Vl.num (fitN (rk (ev row n) e u).1), fl (rk (ev row n) e u).2 (fitE (rk (ev row n) e u).1)) := by
    conv => lhs; unfold ev
    rw [if_neg h1, if_neg h2, if_neg h12, if_neg h7]
  rw [hq]
  have hc := Lib.hid (reckon2_any row A c n hE e u g W hB.te h36 hB.row hU.own)
  obtain ⟨c0, c1, c2, c3, c4, c5⟩ := hB.six
  clear ht hr ho hB hU hz hA hnode hE hq
  unfold Lx.val at *
  generalize rk (ev row n) e u = q at *
  have ho : e.op = 3 ∨ e.op = 4 ∨ e.op = 5 ∨ e.op = 6 := by omega
  clear h1 h2 h12 h7 h36
  unfold Vl.val Vl.num
  dsimp only
  rcases ho with h7 | h7 | h7 | h7
  all_goals
    rw [h7] at hW hc c0 ⊢
    go_enter Tryz.func98, Tryz.ntmps98
    go_upto_region 1 with fail
    rw [← hW]
    clear hW
    go_wp2_with fail
    refine hc.out.mono ?_
    rintro _ w2 ⟨rfl, u2⟩
    have HZ2 := Lib.hid (u2.other hgN HZ.out)
    have U2 := Lib.hid (HU.out.trans u2)
    clear u2 c0 c1 c2 c3 c4 c5 y0 y1 y2 z0 z1 z2
    go_wp2_with fail
    refine (fail_any g _ _ _ _ _ U2.out.own).mono ?_
    rintro _ w3 ⟨rfl, u3⟩
    have HZ3 := Lib.hid (u3.other hgN HZ2.out)
    have U3 := Lib.hid (U2.out.trans u3)
    clear u3
    obtain ⟨⟨y0, y1, y2⟩, z0, z1, z2⟩ := zero_reads (HZ3.out)
    go_wp2_with fail
    obtain ⟨e0, e1, e2⟩ := (HZ3.out).stored3 (.bool false) (.int .i64 (fitN q.1)) (.string ⟨#[]⟩)
    exact bodyPost_ret (v := .agg #[.bool false, .int .i64 (fitN q.1), .string ⟨#[]⟩]) (by simp [results, Tryz.results98, go_sem, e0, e1, e2]) rfl ⟨rfl, (U3.out).put3 hNN hg _ _ _⟩
theorem eval_any (row : List Vl) (A : Option Addr) (c : Nat) : ∀ n, EvC row A c n
  | 0 => fun e u g w ht _ _ => by have := ht.gd; cases this
  | n + 1 => eval_next row A c n (eval_any row A c n)
end Go.Proofs.YtcfldgncmbcpmaaGreat
namespace Go.Proofs.YtcfldgncmbcpmaaGreat
open Go Go.RowKit

/-- what an expression comes to of a row, and what is told instead -/
def evalE (row : List Vl) (e : Lx) : Vl × Int :=
  if checkE e = 0 then (if chkRow row = 0 then (if (ev row 16 e 0).2 = 0 then ((ev row 16 e 0).1, 0) else (Vl.zero, (ev row 16 e 0).2)) else (Vl.zero, chkRow row)) else (Vl.zero, checkE e)
theorem evbox (w : World) (u : Int) (A : Option Addr) (n c : Nat) : ∃ W, W = w.alloc (.cells #[.int .i64 u, .slice A n c] 169) ∧ Below w.heap.size w W ∧ W.heap.size = w.heap.size + 1 ∧ Own W w.heap.size 169 (evL u A n c) :=
  ⟨_, rfl, (Below.refl _ _).alloc (Nat.le_refl _) _, by simp, by have := Own.made w 169 (evL u A n c); simpa [evL] using this⟩
theorem lxbox2v (w : World) (e : Lx) : ∃ W, W = (w.alloc (.cells #[.int .u8 e.op, .int .i64 e.col, .bool e.c.t, .int .i64 e.c.n, .string e.c.s, .slice e.A e.kids.length e.cap] 141)).alloc (.cells #[.bool false, .int .i64 0, .string ⟨#[]⟩] 46) ∧ Below w.heap.size w W ∧ W.heap.size = w.heap.size + 2 ∧
    Own W w.heap.size 141 e.cells ∧ Own W (w.heap.size + 1) 46 [.bool false, .int .i64 0, .string ⟨#[]⟩] := lxbox2 w e 46 [.bool false, .int .i64 0, .string ⟨#[]⟩]
theorem ret_pair {a b : Vl} {x y : Int} (h : (a, x) = (b, y)) : Ending.returned (.tuple #[.agg #[.bool a.t, .int .i64 a.n, .string a.s], .int .i64 x]) = .returned (.tuple #[.agg #[.bool b.t, .int .i64 b.n, .string b.s], .int .i64 y]) := by
  injection h with h1 h2; subst h1 h2; rfl
set_option maxRecDepth 100000 in
set_option maxHeartbeats 3200000 in
theorem evalE_any (e : Lx) (A : Option Addr) (c : Nat) (row : List Vl) (w : World) (hok : LxOk 17 e) (hin : LxIn w w.heap.size 17 e) (hl : Vals w w.heap.size A row) (hn : row.length ≤ maxLen) (hr : ∀ v ∈ row, VOk v) :
    Calls Tryz.prog 72 #[e.val, .slice A row.length c] w fun x w' => x = .returned (.tuple #[(evalE row e).1.val, .int .i64 (evalE row e).2]) ∧ Below w.heap.size w w' := by
  obtain ⟨W, hW, fb, hs, fk, fz⟩ := lxbox2v w e
  have hck := Lib.hid (echeck_any e W hok ((hin.past fb (Nat.le_refl _)).wide (by omega)))
  have hcr := fun W' (h : Below W.heap.size W W') => Lib.hid (vcheck_any A c row W' ((hl.past (fb.trans (h.mono (by omega))) (Nat.le_refl _)).wide (by have := h.size; omega)) hn fun v hv => (hr v hv).1)
  have hev : ∀ w3, Below W.heap.size W w3 → good 16 e = true → Hid (Calls Tryz.prog 98 #[.pointer (some ⟨w3.heap.size, 0, none⟩), e.val] (w3.alloc (.cells #[.int .i64 0, .slice A row.length c] 169)) fun x w' =>
      x = .returned (ev row 16 e 0).1.val ∧ Upd (w3.alloc (.cells #[.int .i64 0, .slice A row.length c] 169)) w' w3.heap.size 169 (evL (ev row 16 e 0).2 A row.length c)) := fun w3 h hg => by
    obtain ⟨V, hV, vb, vs, vo⟩ := evbox w3 0 A row.length c
    rw [← hV]
    have hb := fb.trans ((h.mono (show w.heap.size ≤ W.heap.size by omega)).trans (vb.mono (by have := h.size; omega)))
    exact Lib.hid (eval_any row A c 16 e 0 w3.heap.size V ⟨hg, hok.less (by omega), ((hin.less (by omega)).past hb (Nat.le_refl _)).wide (by have := h.size; omega)⟩
      ⟨(hl.past hb (Nat.le_refl _)).wide (by have := h.size; omega), hn, hr⟩ vo)
  have HE : evalE row e = if checkE e = 0 then (if chkRow row = 0 then (if (ev row 16 e 0).2 = 0 then ((ev row 16 e 0).1, 0) else (Vl.zero, (ev row 16 e 0).2)) else (Vl.zero, chkRow row)) else (Vl.zero, checkE e) := rfl
  have hgood := fun h => ((checkE_ok e).1 h).1
  generalize evalE row e = R at *
  generalize ev row 16 e 0 = q at *
  generalize checkE e = k at *
  generalize chkRow row = k2 at *
  have HF := Lib.hid (And.intro fb (And.intro fk fz))
  obtain ⟨⟨y0, y1, y2⟩, z0, z1, z2⟩ := zero_reads fz
  have hzi := fz.inside
  have Hs := Lib.hid hs
  clear hin hok hl fb fk fz hs hn hr
  unfold Lx.val Vl.val at *
  by_cases hk : k = 0
  case neg =>
    rw [if_neg hk] at HE
    subst HE
    have t1 : (k != 0) = true := by simpa using hk
    clear hk hgood hev hcr
    go_enter Tryz.func72, Tryz.ntmps72
    go_upto_region 1 with fail
    rw [← hW]
    have c6 := (lxAt_own HF.out.2.1).six
    simp only [Nat.zero_add] at c6
    obtain ⟨c0, c1, c2, c3, c4, c5⟩ := c6
    clear hW
    go_wp2_with fail
    refine hck.out.mono ?_
    rintro _ w2 ⟨rfl, b2⟩
    have B2 := Lib.hid b2
    have HZ2 := Lib.hid (HF.out.2.2.past b2 hzi)
    clear b2 y0 y1 y2 z0 z1 z2 c0 c1 c2 c3 c4 c5
    obtain ⟨⟨y0, y1, y2⟩, z0, z1, z2⟩ := zero_reads HZ2.out
    go_wp2_with fail
    obtain ⟨e0, e1, e2⟩ := (HZ2.out).stored3 (.bool false) (.int .i64 0) (.string ⟨#[]⟩)
    exact bodyPost_ret (v := .tuple #[.agg #[.bool false, .int .i64 0, .string ⟨#[]⟩], .int .i64 k]) (by simp [results, Tryz.results72, go_sem, e0, e1, e2]) rfl ⟨rfl, below_set3 (HF.out.1.trans (B2.out.mono (by have := Hs.out; omega))) (by omega) _ _ _⟩
  case pos =>
    subst hk
    rw [if_pos rfl] at HE
    by_cases hk2 : k2 = 0
    case neg =>
      rw [if_neg hk2] at HE
      subst HE
      have t2 : (k2 != 0) = true := by simpa using hk2
      clear hk2 hgood hev
      go_enter Tryz.func72, Tryz.ntmps72
      go_upto_region 1 with fail
      rw [← hW]
      have c6 := (lxAt_own HF.out.2.1).six
      simp only [Nat.zero_add] at c6
      obtain ⟨c0, c1, c2, c3, c4, c5⟩ := c6
      clear hW
      go_wp2_with fail
      refine hck.out.mono ?_
      rintro _ w2 ⟨rfl, b2⟩
      have B2 := Lib.hid b2
      have HZ2 := Lib.hid (HF.out.2.2.past b2 hzi)
      have HK2 := Lib.hid (HF.out.2.1.past b2 (by omega))
      clear b2 y0 y1 y2 z0 z1 z2 c0 c1 c2 c3 c4 c5
      obtain ⟨⟨y0, y1, y2⟩, z0, z1, z2⟩ := zero_reads HZ2.out
      go_wp2_with fail
      refine (hcr _ B2.out).out.mono ?_
      rintro _ w3 ⟨rfl, b3⟩
      have B3 := Lib.hid (belows B2.out b3)
      have HZ3 := Lib.hid (HZ2.out.past b3 HZ2.out.inside)
      clear b3 y0 y1 y2 z0 z1 z2
      obtain ⟨⟨y0, y1, y2⟩, z0, z1, z2⟩ := zero_reads HZ3.out
      go_wp2_with fail
      obtain ⟨e0, e1, e2⟩ := (HZ3.out).stored3 (.bool false) (.int .i64 0) (.string ⟨#[]⟩)
      exact bodyPost_ret (v := .tuple #[.agg #[.bool false, .int .i64 0, .string ⟨#[]⟩], .int .i64 k2]) (by simp [results, Tryz.results72, go_sem, e0, e1, e2]) rfl ⟨rfl, below_set3 (HF.out.1.trans (B3.out.mono (by have := Hs.out; omega))) (by omega) _ _ _⟩
    case pos =>
      subst hk2
      rw [if_pos rfl] at HE
      have hgd := hgood rfl
      go_enter Tryz.func72, Tryz.ntmps72
      go_upto_region 1 with fail
      rw [← hW]
      have c6 := (lxAt_own HF.out.2.1).six
      simp only [Nat.zero_add] at c6
      obtain ⟨c0, c1, c2, c3, c4, c5⟩ := c6
      clear hW
      go_wp2_with fail
      refine hck.out.mono ?_
      rintro _ w2 ⟨rfl, b2⟩
      have B2 := Lib.hid b2
      have HZ2 := Lib.hid (HF.out.2.2.past b2 hzi)
      have HK2 := Lib.hid (HF.out.2.1.past b2 (by omega))
      clear b2 y0 y1 y2 z0 z1 z2 c0 c1 c2 c3 c4 c5
      obtain ⟨⟨y0, y1, y2⟩, z0, z1, z2⟩ := zero_reads HZ2.out
      go_wp2_with fail
      refine (hcr _ B2.out).out.mono ?_
      rintro _ w3 ⟨rfl, b3⟩
      have B3 := Lib.hid (belows B2.out b3)
      have HZ3 := Lib.hid (HZ2.out.past b3 HZ2.out.inside)
      have HK3 := Lib.hid (HK2.out.past b3 HK2.out.inside)
      clear b3 y0 y1 y2 z0 z1 z2
      have c6 := (lxAt_own (HK3.out.more (.cells #[.int .i64 0, .slice A row.length c] 169))).six
      simp only [Nat.zero_add] at c6
      obtain ⟨c0, c1, c2, c3, c4, c5⟩ := c6
      have hev := hev w3 B3.out hgd
      go_wp2_with fail
      refine hev.out.mono ?_
      rintro _ w4 ⟨rfl, u4⟩
      have hz4 := u4.other (k := w.heap.size + 1) (by have := HZ3.out.inside; omega) (HZ3.out.more _)
      have hb4 : Below w.heap.size w w4 := ((HF.out.1.trans (B3.out.mono (by have := Hs.out; omega))).alloc (by have := HZ3.out.inside; omega) _).trans (u4.below (by have := HZ3.out.inside; omega) (by simp))
      have x0 := (u4.own.more (.cells #[.bool q.1.t, .int .i64 q.1.n, .string q.1.s] 46)).at_ 0
      have hv := Own.made w4 46 [.bool q.1.t, .int .i64 q.1.n, .string q.1.s]
      obtain ⟨V, hV⟩ : ∃ V, V = w4.alloc (.cells #[.bool q.1.t, .int .i64 q.1.n, .string q.1.s] 46) := ⟨_, rfl⟩
      have HZ4 := Lib.hid (hz4.more (.cells #[.bool q.1.t, .int .i64 q.1.n, .string q.1.s] 46))
      have B4 := Lib.hid (hb4.alloc hb4.size (.cells #[.bool q.1.t, .int .i64 q.1.n, .string q.1.s] 46))
      have HV := Lib.hid hv
      have hsz4 := hb4.size
      clear u4 hz4 hb4 c0 c1 c2 c3 c4 c5 hv
      simp only [evL, List.getElem?_cons_zero] at x0
      go_upto_region 9 with fail
      rw [← hV] at x0 HZ4 B4 ⊢
      rw [show w4.alloc (.cells [.bool q.1.t, .int .i64 q.1.n, .string q.1.s].toArray 46) = V from hV.symm] at HV
      clear hV
      obtain ⟨⟨y0, y1, y2⟩, z0, z1, z2⟩ := zero_reads HZ4.out
      have v0 := HV.out.at_ 0
      have v1 := HV.out.at_ 1
      have v2 := HV.out.at_ 2
      simp only [List.getElem?_cons_zero, List.getElem?_cons_succ] at v0 v1 v2
      by_cases hq : q.2 = 0
      case pos =>
        rw [if_pos hq] at HE
        subst HE
        have t3 : (q.2 != 0) = false := by simpa using hq
        clear hq
        go_wp2_with fail
        obtain ⟨e0, e1, e2⟩ := (HZ4.out).stored3 (.bool q.1.t) (.int .i64 q.1.n) (.string q.1.s)
        exact bodyPost_ret (v := .tuple #[.agg #[.bool q.1.t, .int .i64 q.1.n, .string q.1.s], .int .i64 0]) (by simp [results, Tryz.results72, go_sem, e0, e1, e2]) rfl ⟨rfl, below_set3 (B4.out) (by omega) _ _ _⟩
      case neg =>
        rw [if_neg hq] at HE
        subst HE
        have t3 : (q.2 != 0) = true := by simpa using hq
        clear hq
        go_wp2_with fail
        have hn1 : w3.heap.size ≠ w.heap.size + 1 := by have := HZ3.out.inside; omega
        have hn2 : w.heap.size + 1 ≠ w3.heap.size := by omega
        go_region_held3 (fun w' => w'.cell? ⟨w3.heap.size, 0, none⟩ = some (.int .i64 q.2)) (go_keep) (fail)
        all_goals
          go_wp2_with fail
          obtain ⟨e0, e1, e2⟩ := HZ4.out.stored3 (.bool false) (.int .i64 0) (.string ⟨#[]⟩)
          exact bodyPost_ret (v := .tuple #[.agg #[.bool false, .int .i64 0, .string ⟨#[]⟩], .int .i64 q.2]) (by simp [results, Tryz.results72, go_sem, e0, e1, e2]) rfl ⟨rfl, (below_set3 B4.out (by omega) _ _ _).drew⟩
end Go.Proofs.YtcfldgncmbcpmaaGreat
namespace Go.Proofs.YtcfldgncmbcpmaaGreat
open Go Go.RowKit

/-- the first error -/
def vErr (row : List Vl) : List Lx → Int
  | [] => 0
  | e :: l => if (evalE row e).2 = 0 then vErr row l else (evalE row e).2
theorem vErr_take {row : List Vl} {l : List Lx} {k : Nat} {e : Lx} (h : l[k]? = some e) (h0 : vErr row (l.take k) = 0) : vErr row (l.take (k + 1)) = (evalE row e).2 := by
  induction l generalizing k with
  | nil => simp at h
  | cons x l ih =>
    cases k with
    | zero =>
      obtain rfl : x = e := by simpa using h
      simp only [List.take_succ_cons, List.take_zero, vErr]
      split <;> simp [*]
    | succ k =>
      simp only [List.take_succ_cons, vErr] at h0 ⊢
      split at h0
      · rename_i hx
        rw [if_pos hx]
        exact ih (by simpa using h) h0
      · rename_i hx; exact absurd h0 hx
theorem vErr_bad {row : List Vl} {l : List Lx} {k : Nat} {e : Lx} (h : l[k]? = some e) (h0 : vErr row (l.take k) = 0) (hu : (evalE row e).2 ≠ 0) : vErr row l = (evalE row e).2 := by
  induction l generalizing k with
  | nil => simp at h
  | cons x l ih =>
    cases k with
    | zero =>
      obtain rfl : x = e := by simpa using h
      simp only [vErr]
      rw [if_neg hu]
    | succ k =>
      simp only [List.take_succ_cons, vErr] at h0 ⊢
      split at h0
      · rename_i hx
        rw [if_pos hx]
        exact ih (by simpa using h) h0
      · rename_i hx; exact absurd h0 hx
theorem vErr_all {row : List Vl} {l : List Lx} (h : vErr row l = 0) : ∀ e ∈ l, (evalE row e).2 = 0 := by
  induction l with
  | nil => intro u hu; cases hu
  | cons x l ih =>
    simp only [vErr] at h
    split at h
    · rename_i hx
      intro u hu
      rcases List.mem_cons.1 hu with rfl | hu
      · exact hx
      · exact ih h u hu
    · rename_i hx; exact absurd h hx
def valsE (es : List Lx) (row : List Vl) : List Vl × Int := if 8 < es.length then ([], 4) else if vErr row es = 0 then (es.map fun e => (evalE row e).1, 0) else ([], vErr row es)
def badV (v : Vl) : Bool := v.t || v.n == 0
def holdsE (es : List Lx) (row : List Vl) : Bool × Int := if (valsE es row).2 = 0 then (!((valsE es row).1.any badV), 0) else (false, (valsE es row).2)
/-- expressions as they lie -/
structure Exs (w : World) (B : Nat) (A : Option Addr) (es : List Lx) : Prop where
  head : Lies 6 Lx.cells w B A es
  each_ : ∀ e ∈ es, LxOk 17 e ∧ LxIn w B 17 e
theorem Exs.past {w w' : World} {B B' : Nat} {A : Option Addr} {es : List Lx} (h : Exs w B A es) (hb : Below B' w w') (hB : B ≤ B') : Exs w' B A es := ⟨h.head.past hb hB, fun e he => ⟨(h.each_ e he).1, (h.each_ e he).2.past hb hB⟩⟩
theorem Exs.wide {w : World} {B B' : Nat} {A : Option Addr} {es : List Lx} (h : Exs w B A es) (hB : B ≤ B') : Exs w B' A es := ⟨h.head.wide hB, fun e he => ⟨(h.each_ e he).1, (h.each_ e he).2.wide hB⟩⟩
theorem Exs.keep {w w' : World} {A : Option Addr} {es : List Lx} (h : Exs w w.heap.size A es) (hb : Below w.heap.size w w') : Exs w' w'.heap.size A es := (h.past hb (Nat.le_refl _)).wide hb.size
def ValsSays (l : List Vl) (e : Int) (w : World) (x : Ending) (w' : World) : Prop :=
  ∃ v, x = .returned (.tuple #[v, .int .i64 e]) ∧ w'.ownsRow w.heap.size 46 3 v l.length (l.flatMap Vl.cells) ∧ Below w.heap.size w w'
theorem valbox (w : World) (v : Vl) : ∃ W, W = w.alloc (.cells #[.bool v.t, .int .i64 v.n, .string v.s] 46) ∧ Below w.heap.size w W ∧ W.heap.size = w.heap.size + 1 ∧ Own W w.heap.size 46 v.cells :=
  ⟨_, rfl, (Below.refl _ _).alloc (Nat.le_refl _) _, by simp, Own.made w 46 v.cells⟩
theorem vals_made (w : World) (v : Vl) : Vals (w.alloc (.cells #[.bool v.t, .int .i64 v.n, .string v.s] 46)) (w.heap.size + 1) (some ⟨w.heap.size, 0, none⟩) [v] := fun _ => by
  have ho := Own.made w 46 v.cells
  refine ⟨w.heap.size, 0, rfl, Nat.lt_succ_self _, fun i x hx => ?_⟩
  match i, hx with
  | 0, hx =>
    obtain rfl : v = x := by simpa using hx
    exact ⟨ho.at_ 0, ho.at_ 1, ho.at_ 2⟩
set_option maxRecDepth 100000 in
set_option maxHeartbeats 6400000 in
theorem values_any (A' : Option Addr) (c' : Nat) (es : List Lx) (A : Option Addr) (c : Nat) (row : List Vl) (w : World) (hx : Exs w w.heap.size A' es) (hl : Vals w w.heap.size A row) (hn : row.length ≤ maxLen) (hr : ∀ v ∈ row, VOk v) :
    Calls Tryz.prog 59 #[.slice A' es.length c', .slice A row.length c] w (ValsSays (valsE es row).1 (valsE es row).2 w) := by
  have HL := Lib.hid (And.intro hx (And.intro hl (And.intro hn hr)))
  clear hx hl hn hr
  by_cases h8 : 8 < es.length
  · have t1 : decide ((8 : Int) < (es.length : Int)) = true := decide_eq_true (by omega)
    have H8 := Lib.hid h8
    clear h8
    go_enter Tryz.func59, Tryz.ntmps59
    go_wp2_with fail
    go_ret2
    exact ⟨.slice none 0 0, by unfold valsE; rw [if_pos H8.out]; rfl, by unfold valsE; rw [if_pos H8.out]; exact World.ownsRow_nil _ _ _ _, Below.refl _ _⟩
  have t1 : decide ((8 : Int) < (es.length : Int)) = false := decide_eq_false (by omega)
  go_enter Tryz.func59, Tryz.ntmps59
  go_wp2_with fail
  go_loopw [6, 16] (fun v6 v16 wr => ∃ j : Nat, v16 = .int .i64 (j : Int) ∧ j ≤ es.length ∧ wr.ownsRow w.heap.size 46 3 v6 j (((es.take j).map fun e => (evalE row e).1).flatMap Vl.cells) ∧ Below w.heap.size w wr ∧ vErr row (es.take j) = 0)
    (fun _ v16 _ => es.length - (intOf v16).toNat)
  case atStart => exact ⟨0, rfl, Nat.zero_le _, World.ownsRow_nil _ _ _ _, Below.refl _ _, rfl⟩
  case round =>
    obtain ⟨j, rfl, hj, hown, hb, her⟩ := hrel
    obtain ⟨wi, hwi⟩ : ∃ wi, wi = wr := ⟨_, rfl⟩
    subst hwi
    obtain ⟨us, hus⟩ : ∃ us, ((es.take j).map fun e => (evalE row e).1) = us := ⟨_, rfl⟩
    rw [hus] at hown
    have HUS := Lib.hid hus
    clear hus
    by_cases hlt : j < es.length
    · have hy : es[j]? = some es[j] := List.getElem?_eq_getElem hlt
      have hym := List.mem_of_getElem? hy
      have hbad := fun h => vErr_bad (row := row) hy her h
      have hnx := vErr_take (row := row) hy her
      generalize es[j] = e at *
      obtain ⟨b, o, rfl, hB, hys⟩ := lies_lx HL.out.1.head (by omega)
      obtain ⟨e0, e1, e2, e3, e4, e5⟩ := ((hys j e hy).past hb hB).six
      obtain ⟨V3, hV3, hb3, hs3, ho3⟩ := lxbox wi e
      have hbV : Below w.heap.size w V3 := hb.trans (hb3.mono hb.size)
      have hev := Lib.hid (evalE_any e A c row V3 (HL.out.1.each_ e hym).1 (((HL.out.1.each_ e hym).2.past hbV (Nat.le_refl _)).wide hbV.size) ((HL.out.2.1.past hbV (Nat.le_refl _)).wide hbV.size) HL.out.2.2.1 HL.out.2.2.2)
      have htk : es.take (j + 1) = es.take j ++ [e] := by rw [List.take_add_one, hy]; rfl
      obtain ⟨v, hv⟩ : ∃ v, (evalE row e).1 = v := ⟨_, rfl⟩
      obtain ⟨E, hE⟩ : ∃ E, (evalE row e).2 = E := ⟨_, rfl⟩
      rw [hv, hE] at hev
      rw [hE] at hbad hnx
      rw [show e.val = .agg #[.int .u8 e.op, .int .i64 e.col, .bool e.c.t, .int .i64 e.c.n, .string e.c.s, .slice e.A e.kids.length e.cap] from rfl, show v.val = .agg #[.bool v.t, .int .i64 v.n, .string v.s] from rfl] at hev
      have HJ := Lib.hid (And.intro (own_below hown hb3) (And.intro hbV (And.intro hbad (And.intro hnx (And.intro htk hv)))))
      obtain ⟨f0, f1, f2, f3, f4, f5⟩ := (show V3.cell? ⟨wi.heap.size, 0, none⟩ = some (.int .u8 e.op) ∧ V3.cell? ⟨wi.heap.size, 1, none⟩ = some (.int .i64 e.col) ∧ V3.cell? ⟨wi.heap.size, 2, none⟩ = some (.bool e.c.t) ∧ V3.cell? ⟨wi.heap.size, 3, none⟩ = some (.int .i64 e.c.n) ∧ V3.cell? ⟨wi.heap.size, 4, none⟩ = some (.string e.c.s) ∧ V3.cell? ⟨wi.heap.size, 5, none⟩ = some (.slice e.A e.kids.length e.cap) from ⟨ho3.at_ 0, ho3.at_ 1, ho3.at_ 2, ho3.at_ 3, ho3.at_ 4, ho3.at_ 5⟩)
      have q3 : (0 : Int) ≤ (j : Int) := by omega
      have q4 : (j : Int) < (es.length : Int) := by omega
      have q5 : decide ((j : Int) < (es.length : Int)) = true := decide_eq_true q4
      clear hy hym hys hbad hnx hbV htk hv hE hown hb her hb3 hs3 ho3
      go_upto_region 7 with fail
      rw [← hV3]
      clear hV3 e0 e1 e2 e3 e4 e5
      go_wp2_with fail
      refine hev.out.mono ?_
      rintro _ w4 ⟨rfl, b4⟩
      obtain ⟨V5, hV5, hb5, hs5, ho5⟩ := valbox w4 v
      have hb5' := b4.trans (hb5.mono b4.size)
      have H4 := Lib.hid (And.intro (own_below HJ.out.1 hb5') (HJ.out.2.1.trans (hb5'.mono HJ.out.2.1.size)))
      obtain ⟨g0, g1, g2⟩ := (show V5.cell? ⟨w4.heap.size, 0, none⟩ = some (.bool v.t) ∧ V5.cell? ⟨w4.heap.size, 1, none⟩ = some (.int .i64 v.n) ∧ V5.cell? ⟨w4.heap.size, 2, none⟩ = some (.string v.s) from ⟨ho5.at_ 0, ho5.at_ 1, ho5.at_ 2⟩)
      clear f0 f1 f2 f3 f4 f5 hev b4 hb5 hb5' ho5 hs5
      by_cases hE0 : E = 0
      case neg =>
        have t2 : (E != 0) = true := bne_iff_ne.2 hE0
        have HE0 := Lib.hid hE0
        clear hE0
        go_upto_region 8 with fail
        rw [← hV5]
        clear hV5
        go_wp2_with fail
        go_ret2
        have hve : valsE es row = ([], E) := by unfold valsE; rw [if_neg h8, if_neg (by rw [HJ.out.2.2.1 HE0.out]; exact HE0.out), HJ.out.2.2.1 HE0.out]
        exact ⟨.slice none 0 0, by rw [hve]; rfl, by rw [hve]; exact World.ownsRow_nil _ _ _ _, H4.out.2⟩
      subst hE0
      have hrw := Lib.hid (own_below H4.out.1 ((Below.refl _ V5).alloc (Nat.le_refl _) (.cells #[.bool v.t, .int .i64 v.n, .string v.s] 46)))
      have hvm := Lib.hid (vals_made V5 v)
      have hsz : w.heap.size ≤ V5.heap.size := H4.out.2.size
      go_upto_region 8 with fail
      rw [← hV5]
      clear hV5
      go_wp2_with (at_builtin; refine wpList_append_vl _ rfl (.tmp 29) (.tmp 31) rfl w.heap.size _ _ _ rfl hrw.out _ _ 1 [v] rfl hvm.out ?m1 ?m2 ?m3)
      case m1 => show (j + 1) * 32 ≤ 140737488355328; omega
      case m2 => simp; omega
      intro v' w' ho' hb'
      have HA := Lib.hid (And.intro ho' ((H4.out.2.alloc hsz _).trans hb'))
      clear ho' hb' g0 g1 g2
      go_wp2_with fail
      go_roundw
      case rel =>
        refine ⟨j + 1, by go_num, by omega, ?_, HA.out.2, by rw [HJ.out.2.2.2.1]⟩
        rw [HJ.out.2.2.2.2.1, List.map_append, List.flatMap_append, List.map_cons, List.map_nil, HJ.out.2.2.2.2.2, HUS.out, List.flatMap_cons, List.flatMap_nil, List.append_nil]
        exact HA.out.1
      case measure => simp [intOf]; omega
    · have hj2 : j = es.length := by omega
      have q5 : decide ((j : Int) < (es.length : Int)) = false := decide_eq_false (by omega)
      have hus := HUS.out
      rw [hj2, List.take_length] at her hus
      rw [hj2, ← hus] at hown
      clear hus
      have HF := Lib.hid (And.intro hown (And.intro hb her))
      clear hown hb her hj2
      go_wp2_with fail
      go_ret2
      have hve : valsE es row = (es.map fun e => (evalE row e).1, 0) := by unfold valsE; rw [if_neg h8, if_pos HF.out.2.2]
      exact ⟨_, by rw [hve]; rfl, by rw [hve, List.length_map]; exact HF.out.1, HF.out.2.1⟩
set_option maxRecDepth 100000 in
set_option maxHeartbeats 1600000 in
theorem bad_any (v : Vl) (w : World) : Calls Tryz.prog 74 #[.agg #[.bool v.t, .int .i64 v.n, .string v.s]] w fun x w' => x = .returned (.bool (badV v)) ∧ Below w.heap.size w w' := by
  obtain ⟨V, hV, hb, hs, ho⟩ := valbox w v
  obtain ⟨g0, g1, g2⟩ := (show V.cell? ⟨w.heap.size, 0, none⟩ = some (.bool v.t) ∧ V.cell? ⟨w.heap.size, 1, none⟩ = some (.int .i64 v.n) ∧ V.cell? ⟨w.heap.size, 2, none⟩ = some (.string v.s) from ⟨ho.at_ 0, ho.at_ 1, ho.at_ 2⟩)
  have HB := Lib.hid hb
  have hbd := Lib.hid (show badV v = (v.t || v.n == 0) from rfl)
  clear hb hs ho
  cases ht : v.t
  · rw [ht] at g0
    go_enter Tryz.func74, Tryz.ntmps74
    go_upto_region 1 with fail
    rw [ht] at hV
    rw [← hV]
    clear hV
    go_wp2_with fail
    go_ret
    exact ⟨by rw [hbd.out, ht]; simp, HB.out⟩
  · rw [ht] at g0
    go_enter Tryz.func74, Tryz.ntmps74
    go_upto_region 1 with fail
    rw [ht] at hV
    rw [← hV]
    clear hV
    go_wp2_with fail
    go_ret
    exact ⟨by rw [hbd.out, ht]; simp, HB.out⟩
end Go.Proofs.YtcfldgncmbcpmaaGreat
namespace Go.Proofs.YtcfldgncmbcpmaaGreat
open Go Go.RowKit

theorem anyV_next {l : List Vl} {k : Nat} {t : Vl} (h : l[k]? = some t) : (l.take (k + 1)).any badV = ((l.take k).any badV || badV t) := by
  rw [List.take_add_one, h]; simp
theorem anyV_hit {l : List Vl} {k : Nat} {t : Vl} (h : l[k]? = some t) (hb : badV t = true) : l.any badV = true := List.any_eq_true.2 ⟨t, List.mem_of_getElem? h, hb⟩
set_option maxRecDepth 100000 in
set_option maxHeartbeats 3200000 in
theorem indexV_any (A : Option Addr) (c : Nat) (l : List Vl) (w : World) (hl : Vals w w.heap.size A l) (hn : l.length ≤ maxLen) :
    Calls Tryz.prog 99 #[.slice A l.length c, .func (.func 74) #[] #[]] w fun x w' => ∃ r : Int, x = .returned (.int .i64 r) ∧ decide (0 ≤ r) = l.any badV ∧ Below w.heap.size w w' := by
  unfold maxLen at hn
  have Hl := Lib.hid hl
  have hu := fun t W => Lib.hid (bad_any t W)
  clear hl
  go_enter Tryz.func99, Tryz.ntmps99
  go_wp2_with fail
  go_loopw [8] (fun i wr => ∃ k : Nat, i = .int .i64 (k : Int) ∧ k ≤ l.length ∧ Below w.heap.size w wr ∧ (l.take k).any badV = false)
    (fun i _ => l.length - (intOf i).toNat)
  case atStart => exact ⟨0, rfl, by omega, Below.refl _ _, rfl⟩
  case round =>
    obtain ⟨k, rfl, hk, hb, he⟩ := hrel
    by_cases hlt : k < l.length
    · have hx : l[k]? = some l[k] := List.getElem?_eq_getElem hlt
      obtain ⟨b, o, rfl, hB, hc⟩ := Hl.out (by omega)
      obtain ⟨c0, c1, c2⟩ := hc k _ hx
      have c0 := (hb.cell (p := ⟨b, o + k * 3, none⟩) hB).trans c0
      have c1 := (hb.cell (p := ⟨b, o + k * 3 + 1, none⟩) hB).trans c1
      have c2 := (hb.cell (p := ⟨b, o + k * 3 + 2, none⟩) hB).trans c2
      have hnx := anyV_next hx
      have hit := anyV_hit hx
      generalize l[k] = t at *
      have hut := hu t
      have HH := Lib.hid (And.intro hb (And.intro he (And.intro hnx hit)))
      have q0 : (0 : Int) ≤ (k : Int) := by omega
      have q1 : (k : Int) < (l.length : Int) := by omega
      clear hb he hx hc hnx hit hu
      obtain ⟨B, hB⟩ : ∃ B, badV t = B := ⟨_, rfl⟩
      rw [hB] at hut
      have HT := Lib.hid hB
      clear hB
      cases B with
      | true =>
        go_wp2_with fail
        refine (hut _).out.mono ?_
        rintro _ w2 ⟨rfl, b2⟩
        have H2 := Lib.hid (HH.out.1.trans (b2.mono HH.out.1.size))
        clear b2 c0 c1 c2
        go_wp2_with fail
        go_ret
        exact ⟨_, rfl, by rw [HH.out.2.2.2 HT.out]; simp, H2.out⟩
      | false =>
        go_wp2_with fail
        refine (hut _).out.mono ?_
        rintro _ w2 ⟨rfl, b2⟩
        have H2 := Lib.hid (HH.out.1.trans (b2.mono HH.out.1.size))
        clear b2 c0 c1 c2
        go_wp2_with fail
        go_roundw
        case rel => exact ⟨k + 1, by go_num, by omega, H2.out, by rw [HH.out.2.2.1, HH.out.2.1, HT.out]; rfl⟩
        case measure => simp [intOf]; omega
    · have hk2 : k = l.length := by omega
      subst hk2
      rw [List.take_length] at he
      have HH := Lib.hid (And.intro hb he)
      clear hb he
      go_wp2_with fail
      go_ret
      exact ⟨_, rfl, by rw [HH.out.2]; decide, HH.out.1⟩
set_option maxRecDepth 100000 in
set_option maxHeartbeats 1600000 in
theorem containsV_any (A : Option Addr) (c : Nat) (l : List Vl) (w : World) (hl : Vals w w.heap.size A l) (hn : l.length ≤ maxLen) :
    Calls Tryz.prog 73 #[.slice A l.length c, .func (.func 74) #[] #[]] w fun x w' => x = .returned (.bool (l.any badV)) ∧ Below w.heap.size w w' := by
  have hi := Lib.hid (indexV_any A c l w hl hn)
  clear hl hn
  generalize l.any badV = B at *
  go_enter Tryz.func73, Tryz.ntmps73
  go_wp2_with fail
  refine hi.out.mono ?_
  rintro _ w2 ⟨r, rfl, hr, b2⟩
  have H2 := Lib.hid b2
  clear b2
  go_wp2_with fail
  go_ret
  exact ⟨rfl, H2.out⟩
theorem valsE_len (es : List Lx) (row : List Vl) : (valsE es row).1.length ≤ 8 := by
  unfold valsE
  split
  · simp
  · split
    · simp only [List.length_map]; omega
    · simp
set_option maxRecDepth 100000 in
set_option maxHeartbeats 1600000 in
theorem holds_any (A' : Option Addr) (c' : Nat) (es : List Lx) (A : Option Addr) (c : Nat) (row : List Vl) (w : World) (hx : Exs w w.heap.size A' es) (hl : Vals w w.heap.size A row) (hn : row.length ≤ maxLen) (hr : ∀ v ∈ row, VOk v) :
    Calls Tryz.prog 60 #[.slice A' es.length c', .slice A row.length c] w fun x w' => x = .returned (.tuple #[.bool (holdsE es row).1, .int .i64 (holdsE es row).2]) ∧ Below w.heap.size w w' := by
  have y1 := values_any A' c' es A c row w hx hl hn hr
  unfold ValsSays at y1
  obtain ⟨vs, hvs⟩ : ∃ vs, (valsE es row).1 = vs := ⟨_, rfl⟩
  obtain ⟨E, hE⟩ : ∃ E, (valsE es row).2 = E := ⟨_, rfl⟩
  have hlen := valsE_len es row
  rw [hvs] at hlen
  rw [hvs, hE] at y1
  have Y1 := Lib.hid y1
  have HH := Lib.hid (show holdsE es row = if E = 0 then (!(vs.any badV), 0) else (false, E) by unfold holdsE; rw [hvs, hE])
  clear y1 hvs hE hx hl hn hr
  go_enter Tryz.func60, Tryz.ntmps60
  go_wp2_with fail
  refine Y1.out.mono ?_
  rintro _ w1 ⟨v, rfl, ho, b1⟩
  obtain ⟨A1, c1, rfl, _, _, hv1⟩ := vals_of_own rfl ho
  have Hc := Lib.hid (containsV_any A1 c1 vs w1 hv1 (by unfold maxLen; omega))
  have H1 := Lib.hid b1
  clear ho hv1 b1 Y1
  by_cases hE0 : E = 0
  · subst hE0
    generalize vs.any badV = B at *
    go_wp2_with fail
    refine Hc.out.mono ?_
    rintro _ w2 ⟨rfl, b2⟩
    have H2 := Lib.hid (H1.out.trans (b2.mono H1.out.size))
    clear b2 Hc
    go_wp2_with fail
    go_ret2
    exact ⟨by rw [HH.out]; rfl, H2.out⟩
  · have t1 : (E != 0) = true := bne_iff_ne.2 hE0
    have HE0 := Lib.hid hE0
    clear hE0
    go_wp2_with fail
    go_ret2
    exact ⟨by rw [HH.out, if_neg HE0.out]; rfl, H1.out⟩
end Go.Proofs.YtcfldgncmbcpmaaGreat
namespace Go.Proofs.YtcfldgncmbcpmaaGreat
open Go Go.RowKit

theorem num_right {n : Int} (h : -9223372036854775808 ≤ n ∧ n ≤ 9223372036854775807) : (Vl.num n).right = true ∧ VOk (Vl.num n) := ⟨by unfold Vl.num Vl.right; simp, Nat.zero_le _, h⟩
theorem kid_mem {e : Lx} {i : Nat} (h : i < e.kids.length) : kid e i ∈ e.kids := by
  unfold kid
  rw [List.getD_eq_getElem?_getD, List.getElem?_eq_getElem h]
  exact List.getElem_mem h
theorem ev_right (row : List Vl) (hr : ∀ v ∈ row, v.right = true ∧ VOk v) : ∀ (n : Nat) (e : Lx) (u : Int), good n e = true → LxOk n e → (ev row n e u).1.right = true ∧ VOk (ev row n e u).1
  | 0, _, _, h, _ => by cases h
  | n + 1, e, u, hg, ho => by
    simp only [good, Bool.and_eq_true, List.all_eq_true] at hg
    obtain ⟨h1, h2⟩ := hg
    unfold nodeOk at h1
    simp only [Bool.and_eq_true, beq_iff_eq] at h1
    unfold ev
    split
    · split
      · rename_i hc
        rw [List.getD_eq_getElem?_getD, List.getElem?_eq_getElem (show e.col.toNat < row.length by omega)]
        exact hr _ (List.getElem_mem _)
      · exact num_right (n := 0) (by omega)
    · split
      · rename_i hop
        refine ⟨?_, ho.1⟩
        have h3 := h1.2.2
        unfold constOk at h3
        rw [if_pos hop] at h3
        have h4 := chkRow_zero (by simpa using h3 : chkRow [e.c] = 0)
        simpa using h4.1
      · split
        · rename_i hop
          have hl : (e.kids.length : Int) = 3 := by rw [h1.1, hop]; rfl
          have k2 := kid_mem (e := e) (i := 2) (by omega)
          have k1 := kid_mem (e := e) (i := 1) (by omega)
          split
          · exact ev_right row hr n _ _ (h2 _ k2) (ho.2.2.2.2 _ k2)
          · exact ev_right row hr n _ _ (h2 _ k1) (ho.2.2.2.2 _ k1)
        · split
          · refine num_right ?_
            split <;> omega
          · exact num_right (fitN_in _)
theorem evalE_right {row : List Vl} {e : Lx} (hr : ∀ v ∈ row, VOk v) (ho : LxOk 17 e) (h : (evalE row e).2 = 0) (hg : checkE e = 0 → good 16 e = true) : (evalE row e).1.right = true ∧ VOk (evalE row e).1 := by
  unfold evalE at h ⊢
  split at h
  · rename_i h1
    rw [if_pos h1]
    split at h
    · rename_i h2
      rw [if_pos h2]
      split at h
      · rename_i h3
        rw [if_pos h3]
        exact ev_right row (fun v hv => ⟨List.all_eq_true.1 (chkRow_zero h2).1 v hv, hr v hv⟩) 16 e 0 (hg h1) (ho.less (by omega))
      · rename_i h3; exact absurd h h3
    · rename_i h2; exact absurd h h2
  · rename_i h1; exact absurd h h1
end Go.Proofs.YtcfldgncmbcpmaaGreat
namespace Go.Proofs.YtcfldgncmbcpmaaGreat
open Go Go.RowKit

theorem own_atM {w : World} {P : Nat} {t : TypeId} {l : List Value} (h : Own w P t l) (i : Nat) (f : Value) :
    ∃ X, X = w.setCell ⟨P, i, none⟩ f ∧ Own X P t (l.set i f) ∧ (∀ B u, Below B u w → B ≤ P → Below B u X) ∧ X.heap.size = w.heap.size ∧ (∀ Q t' l, Q ≠ P → Own w Q t' l → Own X Q t' l) :=
  ⟨_, rfl, h.set_ i f, fun B u hb hB => hb.setCell (p := ⟨P, i, none⟩) hB _, by simp [World.setCell], fun Q t' l hQ ho => ho.other (p := ⟨P, i, none⟩) (fun e => hQ e.symm) _⟩
def mkMap (es : List Lx) : Mk := fun u => ((valsE es u.row).1, u.d, (valsE es u.row).2)
def mkFil (es : List Lx) : Mk := fun u => (u.row, if (holdsE es u.row).1 = true then u.d else 0, (holdsE es u.row).2)
theorem vals_ok {es : List Lx} {row : List Vl} (hr : ∀ v ∈ row, VOk v) (ho : ∀ e ∈ es, LxOk 17 e) : ∀ v ∈ (valsE es row).1, v.right = true ∧ VOk v := by
  unfold valsE
  split
  · intro v hv; cases hv
  · split
    · rename_i h
      intro v hv
      obtain ⟨e, he, rfl⟩ := List.mem_map.1 hv
      exact evalE_right hr (ho e he) (vErr_all h e he) fun h => ((checkE_ok e).1 h).1
    · intro v hv; cases hv
theorem vals_row {es : List Lx} {row : List Vl} (hr : ∀ v ∈ row, VOk v) (ho : ∀ e ∈ es, LxOk 17 e) : chkRow (valsE es row).1 = 0 := by
  unfold chkRow
  rw [if_pos]
  rw [Bool.and_eq_true, List.all_eq_true]
  exact ⟨fun v hv => (vals_ok hr ho v hv).1, by simpa using valsE_len es row⟩
set_option maxRecDepth 100000 in
set_option maxHeartbeats 3200000 in
theorem mapped_any (k n a r : Int) (A1 A2 A3 A4 : Option Addr) (l1 l3 l4 c1 c2 c3 c4 : Nat) (es : List Lx) (u : Up) (w : World) (hx : Exs w w.heap.size A2 es) (hu : UIn w w.heap.size u) (ok : UOk u) :
    Calls Tryz.prog 38 #[.agg #[.int .u8 k, .int .i64 n, .slice A1 l1 c1, .slice A2 es.length c2, .slice A3 l3 c3, .slice A4 l4 c4, .int .u8 a, .int .i64 r], u.val] w (MadeSays u (valsE es u.row).1 u.d (valsE es u.row).2 w) := by
  obtain ⟨V, hV, hvb, hvs, hvp, hvu, hvz⟩ := kbox w k n a r A1 A2 A3 A4 l1 es.length l3 l4 c1 c2 c3 c4 u
  rw [show u.val = .agg #[.slice u.kA u.key.length u.kc, .slice u.rA u.row.length u.rc, .int .u64 (u.t.e : Int), .int .u64 (u.t.a : Int), .int .u64 (u.t.b : Int), .int .i64 u.d] from rfl]
  obtain ⟨e0, e1, e2, e3, e4, e5⟩ := own6 hvu
  have p3 : V.cell? ⟨w.heap.size, 3, none⟩ = some (.slice A2 es.length c2) := hvp.at_ 3
  have y1 := values_any A2 c2 es u.rA u.rc u.row V (hx.keep hvb) (hu.keep hvb).row (maxn ok.rn) ok.rs
  unfold ValsSays at y1
  have hvo := vals_ok (es := es) (row := u.row) ok.rs fun e he => (hx.each_ e he).1
  have hvl := valsE_len es u.row
  obtain ⟨R, hR⟩ : ∃ R, (valsE es u.row).1 = R := ⟨_, rfl⟩
  obtain ⟨E, hE⟩ : ∃ E, (valsE es u.row).2 = E := ⟨_, rfl⟩
  rw [hR, hE] at y1 ⊢
  rw [hR] at hvo hvl
  have Y1 := Lib.hid y1
  have HV := Lib.hid (And.intro hvb (And.intro hvu (And.intro hvz (And.intro hu (And.intro ok (And.intro hvo (And.intro hvl hvs)))))))
  clear hu ok hvb hvs hvp hvu hvz hR hE y1 hx hvo hvl
  go_enter Tryz.func38, Tryz.ntmps38
  go_upto_region 1 with fail
  rw [← hV]
  clear hV
  go_wp2_with fail
  refine Y1.out.mono ?_
  rintro _ w1 ⟨v, rfl, ho1, b1⟩
  obtain ⟨RA, rc, rfl, _, _, hv1⟩ := vals_of_own rfl ho1
  have hRA : ∀ b o, RA = some ⟨b, o, none⟩ → V.heap.size ≤ b := fun b o e => by subst e; exact (ho1.lt b rfl).1
  have hu1 := HV.out.2.1.past b1 HV.out.2.1.inside
  have hz1 := HV.out.2.2.1.past b1 HV.out.2.2.1.inside
  obtain ⟨X, hX, hXo, hXb, hXs, hXr⟩ := own_atM hu1 1 (.slice RA R.length rc)
  have hXo : Own X (w.heap.size + 1) 44 [.slice u.kA u.key.length u.kc, .slice RA R.length rc, .int .u64 (u.t.e : Int), .int .u64 (u.t.a : Int), .int .u64 (u.t.b : Int), .int .i64 u.d] := hXo
  have hzX := hXr _ _ _ (by omega) hz1
  have hkX : PKeep w1 X (w.heap.size + 1) (.slice none 0 0) := hX ▸ pk_set w1 (w.heap.size + 1) 1 _ _
  obtain ⟨Y, hY, hYo, hYb, hYs, hYh⟩ := own_six hzX (.slice u.kA u.key.length u.kc) (.slice RA R.length rc) (.int .u64 (u.t.e : Int)) (.int .u64 (u.t.a : Int)) (.int .u64 (u.t.b : Int)) (.int .i64 u.d)
  have hbY : Below w.heap.size w Y := hYb _ _ (hXb _ _ (HV.out.1.trans (b1.mono HV.out.1.size)) (by omega)) (by omega)
  have hvX : Vals X X.heap.size RA R := vals_pk hv1 hkX fun _ b o e => ⟨by have := hRA b o e; have := HV.out.2.2.2.2.2.2.2; omega, by simp [Value.ownBlock]⟩
  have hvY : Vals Y Y.heap.size RA R := vals_other hvX (fun b o e => by have := hRA b o e; have := HV.out.2.2.2.2.2.2.2; omega) hYs hYh
  have HY := Lib.hid (And.intro hYo (And.intro hbY (And.intro hvY (fun b o e => by have := hRA b o e; have := HV.out.2.2.2.2.2.2.2; omega : ∀ b o, RA = some ⟨b, o, none⟩ → w.heap.size + 3 ≤ b))))
  have g1 := (own6 hu1).2.1
  have k1 := (own_frozen6 hu1).2.1
  obtain ⟨f0, f1, f2, f3, f4, f5⟩ := own6 hXo
  obtain ⟨z0, z1, z2, z3, z4, z5⟩ := own6 hzX
  obtain ⟨j0, j1, j2, j3, j4, j5⟩ := own_frozen6 hzX
  obtain ⟨x0, x1, x2, x3, x4, x5⟩ := own6 hYo
  clear e0 e1 e2 e3 e4 e5 p3 hu1 hz1 hXo hXb hXs hXr hzX hkX hvX hvY hYo hYb hYs hYh hbY b1 Y1 hv1 ho1 hRA
  go_upto_region 3 with fail
  rw [← hX]
  clear hX
  go_wp2_with fail
  rw [← hY]
  clear hY
  exact bodyPost_ret (v := .tuple #[.agg #[.slice u.kA u.key.length u.kc, .slice RA R.length rc, .int .u64 (u.t.e : Int), .int .u64 (u.t.a : Int), .int .u64 (u.t.b : Int), .int .i64 u.d], .int .i64 E]) (by simp [results, Tryz.results38, go_sem, x0, x1, x2, x3, x4, x5]) rfl
    ⟨⟨u.kA, u.kc, u.key, RA, rc, R, u.t, u.d⟩, rfl, rfl, rfl, rfl, ⟨(HV.out.2.2.2.1.past HY.out.2.1 (Nat.le_refl _)).key.wide HY.out.2.1.size, HY.out.2.2.1⟩, ⟨HV.out.2.2.2.2.1.kn, Nat.le_trans HV.out.2.2.2.2.2.2.1 (by omega), HV.out.2.2.2.2.1.ks, fun v hv => (HV.out.2.2.2.2.2.1 v hv).2, HV.out.2.2.2.2.1.dn⟩, fun Q hq h => ⟨h.1, fun _ b o e => hq b (Nat.le_trans (Nat.le_add_right _ 3) (HY.out.2.2.2 b o e))⟩, HY.out.2.1⟩
set_option maxRecDepth 100000 in
set_option maxHeartbeats 3200000 in
theorem filtered_any (k n a r : Int) (A1 A2 A3 A4 : Option Addr) (l1 l3 l4 c1 c2 c3 c4 : Nat) (es : List Lx) (u : Up) (w : World) (hx : Exs w w.heap.size A2 es) (hu : UIn w w.heap.size u) (ok : UOk u) :
    Calls Tryz.prog 39 #[.agg #[.int .u8 k, .int .i64 n, .slice A1 l1 c1, .slice A2 es.length c2, .slice A3 l3 c3, .slice A4 l4 c4, .int .u8 a, .int .i64 r], u.val] w (MadeSays u u.row (if (holdsE es u.row).1 = true then u.d else 0) (holdsE es u.row).2 w) := by
  obtain ⟨V, hV, hvb, hvs, hvp, hvu, hvz⟩ := kbox w k n a r A1 A2 A3 A4 l1 es.length l3 l4 c1 c2 c3 c4 u
  rw [show u.val = .agg #[.slice u.kA u.key.length u.kc, .slice u.rA u.row.length u.rc, .int .u64 (u.t.e : Int), .int .u64 (u.t.a : Int), .int .u64 (u.t.b : Int), .int .i64 u.d] from rfl]
  obtain ⟨e0, e1, e2, e3, e4, e5⟩ := own6 hvu
  have p3 : V.cell? ⟨w.heap.size, 3, none⟩ = some (.slice A2 es.length c2) := hvp.at_ 3
  have y1 := holds_any A2 c2 es u.rA u.rc u.row V (hx.keep hvb) (hu.keep hvb).row (maxn ok.rn) ok.rs
  obtain ⟨B, hB⟩ : ∃ B, (holdsE es u.row).1 = B := ⟨_, rfl⟩
  obtain ⟨E, hE⟩ : ∃ E, (holdsE es u.row).2 = E := ⟨_, rfl⟩
  rw [hB, hE] at y1 ⊢
  have Y1 := Lib.hid y1
  have HV := Lib.hid (And.intro hvb (And.intro hvu (And.intro hvz (And.intro hu ok))))
  clear hu ok hvb hvs hvp hvu hvz hB hE y1 hx
  cases B
  · go_enter Tryz.func39, Tryz.ntmps39
    go_upto_region 1 with fail
    rw [← hV]
    clear hV
    go_wp2_with fail
    refine Y1.out.mono ?_
    rintro _ w1 ⟨rfl, b1⟩
    have hu1 := HV.out.2.1.past b1 HV.out.2.1.inside
    have hz1 := HV.out.2.2.1.past b1 HV.out.2.2.1.inside
    obtain ⟨X, hX, hXo, hXb, hXs, hXr⟩ := own_five hu1 (.int .i64 0)
    have hzX := hXr _ _ _ (by omega) hz1
    have hbX := hXb w.heap.size w (HV.out.1.trans (b1.mono HV.out.1.size)) (by omega)
    have g5 := (own6 hu1).2.2.2.2.2
    have k5 := (own_frozen6 hu1).2.2.2.2.2
    obtain ⟨Y, hY, hYo, hYb, hYs, hYh⟩ := own_six hzX (.slice u.kA u.key.length u.kc) (.slice u.rA u.row.length u.rc) (.int .u64 (u.t.e : Int)) (.int .u64 (u.t.a : Int)) (.int .u64 (u.t.b : Int)) (.int .i64 0)
    have hbY : Below w.heap.size w Y := hYb _ _ hbX (by omega)
    have HY := Lib.hid (And.intro hYo hbY)
    obtain ⟨f0, f1, f2, f3, f4, f5⟩ := own6 hXo
    obtain ⟨z0, z1, z2, z3, z4, z5⟩ := own6 hzX
    obtain ⟨j0, j1, j2, j3, j4, j5⟩ := own_frozen6 hzX
    obtain ⟨x0, x1, x2, x3, x4, x5⟩ := own6 hYo
    clear e0 e1 e2 e3 e4 e5 p3 hu1 hz1 hXo hzX hYo hYb hYs hYh hbY hbX b1 Y1
    clear hXb hXs hXr
    go_upto_region 4 with fail
    rw [← hX]
    clear hX
    go_wp2_with fail
    rw [← hY]
    clear hY
    exact bodyPost_ret (v := .tuple #[.agg #[.slice u.kA u.key.length u.kc, .slice u.rA u.row.length u.rc, .int .u64 (u.t.e : Int), .int .u64 (u.t.a : Int), .int .u64 (u.t.b : Int), .int .i64 0], .int .i64 E]) (by simp [results, Tryz.results39, go_sem, x0, x1, x2, x3, x4, x5]) rfl
      ⟨⟨u.kA, u.kc, u.key, u.rA, u.rc, u.row, u.t, 0⟩, rfl, rfl, rfl, rfl, ⟨(HV.out.2.2.2.1.past HY.out.2 (Nat.le_refl _)).key.wide HY.out.2.size, (HV.out.2.2.2.1.past HY.out.2 (Nat.le_refl _)).row.wide HY.out.2.size⟩, ⟨HV.out.2.2.2.2.kn, HV.out.2.2.2.2.rn, HV.out.2.2.2.2.ks, HV.out.2.2.2.2.rs, by show (-9223372036854775808 : Int) ≤ 0 ∧ (0 : Int) ≤ 9223372036854775807; decide⟩, fun Q _ h => h, HY.out.2⟩
  · go_enter Tryz.func39, Tryz.ntmps39
    go_upto_region 1 with fail
    rw [← hV]
    clear hV
    go_wp2_with fail
    refine Y1.out.mono ?_
    rintro _ w1 ⟨rfl, b1⟩
    have hu1 := HV.out.2.1.past b1 HV.out.2.1.inside
    have hz1 := HV.out.2.2.1.past b1 HV.out.2.2.1.inside
    obtain ⟨X, hX⟩ : ∃ X, X = w1 := ⟨_, rfl⟩
    subst hX
    have hXo := hu1
    have hzX := hz1
    have hbX := HV.out.1.trans (b1.mono HV.out.1.size)
    obtain ⟨Y, hY, hYo, hYb, hYs, hYh⟩ := own_six hzX (.slice u.kA u.key.length u.kc) (.slice u.rA u.row.length u.rc) (.int .u64 (u.t.e : Int)) (.int .u64 (u.t.a : Int)) (.int .u64 (u.t.b : Int)) (.int .i64 u.d)
    have hbY : Below w.heap.size w Y := hYb _ _ hbX (by omega)
    have HY := Lib.hid (And.intro hYo hbY)
    obtain ⟨f0, f1, f2, f3, f4, f5⟩ := own6 hXo
    obtain ⟨z0, z1, z2, z3, z4, z5⟩ := own6 hzX
    obtain ⟨j0, j1, j2, j3, j4, j5⟩ := own_frozen6 hzX
    obtain ⟨x0, x1, x2, x3, x4, x5⟩ := own6 hYo
    clear e0 e1 e2 e3 e4 e5 p3 hu1 hz1 hXo hzX hYo hYb hYs hYh hbY hbX b1 Y1
    go_wp2_with fail
    rw [← hY]
    clear hY
    exact bodyPost_ret (v := .tuple #[.agg #[.slice u.kA u.key.length u.kc, .slice u.rA u.row.length u.rc, .int .u64 (u.t.e : Int), .int .u64 (u.t.a : Int), .int .u64 (u.t.b : Int), .int .i64 u.d], .int .i64 E]) (by simp [results, Tryz.results39, go_sem, x0, x1, x2, x3, x4, x5]) rfl
      ⟨⟨u.kA, u.kc, u.key, u.rA, u.rc, u.row, u.t, u.d⟩, rfl, rfl, rfl, rfl, ⟨(HV.out.2.2.2.1.past HY.out.2 (Nat.le_refl _)).key.wide HY.out.2.size, (HV.out.2.2.2.1.past HY.out.2 (Nat.le_refl _)).row.wide HY.out.2.size⟩, ⟨HV.out.2.2.2.2.kn, HV.out.2.2.2.2.rn, HV.out.2.2.2.2.ks, HV.out.2.2.2.2.rs, HV.out.2.2.2.2.dn⟩, fun Q _ h => h, HY.out.2⟩
set_option maxRecDepth 100000 in
set_option maxHeartbeats 16000000 in
theorem do_mapped (n a r : Int) (A1 A2 A3 A4 : Option Addr) (l1 l3 l4 c1 c2 c3 c4 : Nat) (es : List Lx) (A : Option Addr) (c : Nat) (l : List Up) (w : World) (hx : Exs w w.heap.size A2 es) (hl : Ups w w.heap.size A l) (hok : ∀ u ∈ l, UOk u) (hn : l.length ≤ 1099511627776) :
    Calls Tryz.prog 8 #[.agg #[.int .u8 3, .int .i64 n, .slice A1 l1 c1, .slice A2 es.length c2, .slice A3 l3 c3, .slice A4 l4 c4, .int .u8 a, .int .i64 r], .slice A l.length c] w (DoSays (mkMap es) l w) := by
  obtain ⟨V, hV, hvb, hvs, hvp, hvt⟩ := pbox w 3 n a r A1 A2 A3 A4 l1 es.length l3 l4 c1 c2 c3 c4
  have hck := dcheck_any A c l V (hl.keep hvb) (by omega) hok
  obtain ⟨K, hK⟩ : ∃ K, chkUs l = K := ⟨_, rfl⟩
  rw [hK] at hck
  have Hck := Lib.hid hck
  have HXs := Lib.hid hx
  clear hx
  have HL := Lib.hid (And.intro hl (And.intro hok hK))
  have HV := Lib.hid (And.intro hvb (And.intro hvp (And.intro hvt hvs)))
  clear hl hok hK hck hvb hvp hvt hvs
  go_enter Tryz.func8, Tryz.ntmps8
  go_upto_region 1 with fail
  rw [← hV]
  clear hV
  go_wp2_with fail
  refine Hck.out.mono ?_
  rintro _ w1 ⟨rfl, b1⟩
  have H1 := Lib.hid (And.intro (belows HV.out.1 b1) (And.intro (HV.out.2.1.past b1 HV.out.2.1.inside) (And.intro (HV.out.2.2.1.past b1 HV.out.2.2.1.inside) (show w.heap.size + 2 ≤ w1.heap.size by have := HV.out.2.2.2; have := b1.size; omega))))
  clear b1 Hck
  by_cases hK0 : K = 0
  case neg =>
    have t1 : (K != 0) = true := bne_iff_ne.2 hK0
    obtain ⟨X, hX, hXo, hXk, hXs⟩ := own_three H1.out.2.2.1 (.int .u64 0) (.int .u64 0) (.int .u64 0)
    have hbX : Below w.heap.size w X := H1.out.1.trans (hXk.below (by have := H1.out.2.2.2; omega) (Nat.le_succ _) (fun k e => by simp [Value.ownBlock] at e))
    obtain ⟨z0, z1, z2⟩ : w1.cell? ⟨w.heap.size + 1, 0, none⟩ = some (.int .u64 0) ∧ w1.cell? ⟨w.heap.size + 1, 1, none⟩ = some (.int .u64 0) ∧ w1.cell? ⟨w.heap.size + 1, 2, none⟩ = some (.int .u64 0) := ⟨H1.out.2.2.1.at_ 0, H1.out.2.2.1.at_ 1, H1.out.2.2.1.at_ 2⟩
    have f0 := H1.out.2.2.1.open_ 0
    have f1 := H1.out.2.2.1.open_ 1
    have f2 := H1.out.2.2.1.open_ 2
    obtain ⟨x0, x1, x2⟩ : X.cell? ⟨w.heap.size + 1, 0, none⟩ = some (.int .u64 0) ∧ X.cell? ⟨w.heap.size + 1, 1, none⟩ = some (.int .u64 0) ∧ X.cell? ⟨w.heap.size + 1, 2, none⟩ = some (.int .u64 0) := ⟨hXo.at_ 0, hXo.at_ 1, hXo.at_ 2⟩
    have HB := Lib.hid hbX
    have HK0 := Lib.hid hK0
    clear hXo hXk hXs hbX hK0
    go_wp2_with fail
    rw [← hX]
    clear hX
    exact bodyPost_ret (v := .tuple #[.slice none 0 0, .agg #[.int .u64 0, .int .u64 0, .int .u64 0], .int .i64 K]) (by simp [results, Tryz.results8, go_sem, x0, x1, x2]) rfl
      ⟨none, 0, [], ⟨0, 0, 0⟩, K, rfl, ⟨fun e => absurd e HK0.out, fun e => absurd (HL.out.2.2.symm.trans e.1) HK0.out⟩, fun e => absurd e HK0.out, ⟨Lies.nil_, fun u hu => (by cases hu)⟩, fun u hu => (by cases hu), HB.out, fun b o e => (by cases e), fun u hu => (by cases hu), Nat.zero_le _⟩
  subst hK0
  have hchk := chkUs_all.1 HL.out.2.2
  have HC := Lib.hid hchk
  obtain ⟨p0, p1, p2, p3, p4, p5, p6, p7⟩ : w1.cell? ⟨w.heap.size, 0, none⟩ = some (.int .u8 3) ∧ w1.cell? ⟨w.heap.size, 1, none⟩ = some (.int .i64 n) ∧ w1.cell? ⟨w.heap.size, 2, none⟩ = some (.slice A1 l1 c1) ∧ w1.cell? ⟨w.heap.size, 3, none⟩ = some (.slice A2 es.length c2) ∧ w1.cell? ⟨w.heap.size, 4, none⟩ = some (.slice A3 l3 c3) ∧ w1.cell? ⟨w.heap.size, 5, none⟩ = some (.slice A4 l4 c4) ∧ w1.cell? ⟨w.heap.size, 6, none⟩ = some (.int .u8 a) ∧ w1.cell? ⟨w.heap.size, 7, none⟩ = some (.int .i64 r) :=
    ⟨H1.out.2.1.at_ 0, H1.out.2.1.at_ 1, H1.out.2.1.at_ 2, H1.out.2.1.at_ 3, H1.out.2.1.at_ 4, H1.out.2.1.at_ 5, H1.out.2.1.at_ 6, H1.out.2.1.at_ 7⟩
  have hmk := fun W => Lib.hid (makers_any W)
  unfold MakersSays at hmk
  clear hchk
  go_upto_region 4 with fail
  have hself : Bl w1 w1 := Bl.refl _
  have HP := Lib.hid (fun W (h : Bl w1 W) => (H1.out.2.1.past h H1.out.2.1.inside).at_ 0)
  simp only [List.getElem?_cons_zero] at HP
  go_region_held3 (fun w' => Bl w1 w' ∧ (w'.cell? ⟨w.heap.size, 0, none⟩ = some (.int .u8 3)))
    ((refine (fun h => And.intro h (HP.out _ h)) ?_; repeat (first | with_reducible exact hb2 | with_reducible exact hself | with_reducible refine Bl.more ?_ _ | with_reducible refine Bl.drew ?_)))
    (first | (go_at_call 20; refine (hmk _).out.mono ?_; rintro _ w2 ⟨G, rfl, b2, hlook⟩; have hb2 : Bl w1 w2 := Bl.call (by repeat (first | with_reducible exact hself | with_reducible refine Bl.more ?_ _ | with_reducible refine Bl.drew ?_)) b2; have hlk := hlook w2 (Below.refl _ _) 3 (by decide); rw [show mkV 3 = .func (.func 38) #[] #[] from rfl, show (mkF 3).isSome = true from rfl] at hlk))
  clear hlook b2 hmk hlk p0 p1 p2 p3 p4 p5 p6 p7
  obtain ⟨V2, hV2, hb3, hs3, hpr⟩ := prbox w2
  have H2 := Lib.hid (And.intro (H1.out.1.trans (hb2.below.mono (Nat.le_trans (by have := H1.out.2.2.2; omega) (Nat.le_refl _)))) (And.intro (H1.out.2.1.past hb2 H1.out.2.1.inside) (And.intro (H1.out.2.2.1.past hb2 H1.out.2.2.1.inside) (show w.heap.size + 2 ≤ w2.heap.size from Nat.le_trans H1.out.2.2.2 hb2.size))))
  have HR := Lib.hid (And.intro hb3 (And.intro hs3 hpr))
  clear hb2 hb3 hs3 hpr hself
  go_upto_region 8 with fail
  rw [← hV2]
  clear hV2
  go_wp2_with fail
  go_loopw [33] (fun v33 wr => ∃ (j : Nat) (t' : Tm) (why' : Int) (v : Value) (M : List Up), v33 = .int .i64 (j : Int) ∧ j ≤ l.length ∧ Prod wr w2.heap.size t' why' v M ∧ Below w2.heap.size w2 wr ∧ (why' = 0 ∨ why' = 10) ∧ (why' = 0 ↔ okAll (mkMap es) (l.take j) = true) ∧ (okAll (mkMap es) (l.take j) = true → M.map Up.p = (l.take j).map (madeP (mkMap es))) ∧ (∀ u ∈ M, chkU u = 0) ∧ M.length ≤ j)
    (fun v33 _ => l.length - (intOf v33).toNat)
  case atStart => exact ⟨0, ⟨0, 0, 0⟩, 0, .slice none 0 0, [], rfl, Nat.zero_le _, HR.out.2.2, HR.out.1, .inl rfl, ⟨fun _ => rfl, fun _ => rfl⟩, fun _ => rfl, fun u hu => (by cases hu), Nat.le_refl _⟩
  case round =>
    obtain ⟨j, t', why', v, M, rfl, hj, hpr, hbw, hwy, hwf, hmap, hcm, hlen⟩ := hrel
    obtain ⟨wi, hwi⟩ : ∃ wi, wi = wr := ⟨_, rfl⟩
    subst hwi
    have HO := Lib.hid (And.intro hpr (And.intro hbw (And.intro hwy (And.intro hwf (And.intro hmap (And.intro hcm hlen))))))
    clear hpr hbw hwy hwf hmap hcm hlen
    by_cases hlt : j < l.length
    · have hy : l[j]? = some l[j] := List.getElem?_eq_getElem hlt
      have hym := List.mem_of_getElem? hy
      generalize l[j] = u at *
      obtain ⟨b, o, rfl, hB, hys⟩ := lies_up HL.out.1.head (by omega)
      have hbwi : Below w.heap.size w wi := H2.out.1.trans (HO.out.2.1.mono (by have := H2.out.2.2.2; omega))
      obtain ⟨e0, e1, e2, e3, e4, e5⟩ := ((hys j u hy).past_ hbwi hB).six
      obtain ⟨V3, hV3, hb3, hs3, ho3⟩ := upbox wi u
      have hin : UIn w w.heap.size u := HL.out.1.each_ u hym
      have hoku : UOk u := HL.out.2.1 u hym
      have hchu : chkU u = 0 := HC.out u hym
      have hbV : Below wi.heap.size wi V3 := hb3
      have hpl : Own V3 w.heap.size 37 [.int .u8 3, .int .i64 n, .slice A1 l1 c1, .slice A2 es.length c2, .slice A3 l3 c3, .slice A4 l4 c4, .int .u8 a, .int .i64 r] := (H2.out.2.1.past HO.out.2.1 (by have := H2.out.2.2.2; omega)).past hb3 (by have := HO.out.2.1.size; have := H2.out.2.2.2; omega)
      have hinV : UIn V3 V3.heap.size u := ((hin.past hbwi (Nat.le_refl _)).wide hbwi.size).keep hb3
      have Hmade := Lib.hid (mapped_any 3 n a r A1 A2 A3 A4 l1 l3 l4 c1 c2 c3 c4 es u V3 ((HXs.out.past (hbwi.trans (hb3.mono hbwi.size)) (Nat.le_refl _)).wide (hbwi.trans (hb3.mono hbwi.size)).size) hinV hoku)
      have htk : l.take (j + 1) = l.take j ++ [u] := by rw [List.take_add_one, hy]; rfl
      rw [show u.val = .agg #[.slice u.kA u.key.length u.kc, .slice u.rA u.row.length u.rc, .int .u64 (u.t.e : Int), .int .u64 (u.t.a : Int), .int .u64 (u.t.b : Int), .int .i64 u.d] from rfl] at Hmade
      obtain ⟨E, hE⟩ : ∃ E, ((mkMap es) u).2.2 = E := ⟨_, rfl⟩
      obtain ⟨R, hR⟩ : ∃ R, ((mkMap es) u).1 = R := ⟨_, rfl⟩
      obtain ⟨D, hD⟩ : ∃ D, ((mkMap es) u).2.1 = D := ⟨_, rfl⟩
      have Hmade : Hid (Calls Tryz.prog 38 #[.agg #[.int .u8 3, .int .i64 n, .slice A1 l1 c1, .slice A2 es.length c2, .slice A3 l3 c3, .slice A4 l4 c4, .int .u8 a, .int .i64 r], .agg #[.slice u.kA u.key.length u.kc, .slice u.rA u.row.length u.rc, .int .u64 (u.t.e : Int), .int .u64 (u.t.a : Int), .int .u64 (u.t.b : Int), .int .i64 u.d]] V3 (MadeSays u R D E V3)) := by
        rw [← hE, ← hR, ← hD]
        exact Hmade
      unfold MadeSays at Hmade
      have hrow : E = 0 → chkRow R = 0 := fun _ => by
        rw [← hR]
        exact vals_row hoku.rs fun e he => (HXs.out.each_ e he).1
      have HM := Lib.hid (And.intro hE (And.intro hR (And.intro hD (And.intro hrow (And.intro hchu (And.intro htk hin))))))
      have H3 := Lib.hid (And.intro hb3 (And.intro hs3 ho3))
      obtain ⟨p0, p1, p2, p3, p4, p5, p6, p7⟩ : V3.cell? ⟨w.heap.size, 0, none⟩ = some (.int .u8 3) ∧ V3.cell? ⟨w.heap.size, 1, none⟩ = some (.int .i64 n) ∧ V3.cell? ⟨w.heap.size, 2, none⟩ = some (.slice A1 l1 c1) ∧ V3.cell? ⟨w.heap.size, 3, none⟩ = some (.slice A2 es.length c2) ∧ V3.cell? ⟨w.heap.size, 4, none⟩ = some (.slice A3 l3 c3) ∧ V3.cell? ⟨w.heap.size, 5, none⟩ = some (.slice A4 l4 c4) ∧ V3.cell? ⟨w.heap.size, 6, none⟩ = some (.int .u8 a) ∧ V3.cell? ⟨w.heap.size, 7, none⟩ = some (.int .i64 r) :=
        ⟨hpl.at_ 0, hpl.at_ 1, hpl.at_ 2, hpl.at_ 3, hpl.at_ 4, hpl.at_ 5, hpl.at_ 6, hpl.at_ 7⟩
      have q3 : (0 : Int) ≤ (j : Int) := by omega
      have q4 : (j : Int) < (l.length : Int) := by omega
      have q5 : decide ((j : Int) < (l.length : Int)) = true := decide_eq_true q4
      clear hy hym hys hin hoku hchu hbV hpl hinV htk hE hR hD hrow hb3 hs3 hbwi
      go_upto_region 11 with fail
      rw [← hV3]
      clear hV3 e0 e1 e2 e3 e4 e5
      obtain ⟨e0, e1, e2, e3, e4, e5⟩ := own6 ho3
      clear ho3
      go_wp2_with fail
      refine Hmade.out.mono ?_
      rintro _ w4 ⟨u', rfl, hr', ht', hd', hin', hok', hQ, b4⟩
      rw [show u'.val = .agg #[.slice u'.kA u'.key.length u'.kc, .slice u'.rA u'.row.length u'.rc, .int .u64 (u'.t.e : Int), .int .u64 (u'.t.a : Int), .int .u64 (u'.t.b : Int), .int .i64 u'.d] from rfl]
      obtain ⟨V5, hV5, hb5, hs5, ho5⟩ := upbox w4 u'
      obtain ⟨X, hX, hXo, hXb, hXs⟩ := own_zeroth ho5 (.slice none 0 0)
      have z0 := (own6 ho5).1
      have k0 := (own_frozen6 ho5).1
      have hbX : Below wi.heap.size wi X := hXb _ _ (belows (belows H3.out.1 b4) hb5) (Nat.le_trans (belows H3.out.1 b4).size (Nat.le_refl _))
      have hb4X : Below w4.heap.size w4 X := hXb _ _ hb5 (Nat.le_refl _)
      have hprX := HO.out.1.quiet hbX
      have huX : UIn X X.heap.size (nokey u') := ⟨Vals.nil_, (hin'.keep hb4X).row⟩
      have hokX : UOk (nokey u') := ⟨Nat.zero_le _, hok'.rn, fun v hv => (by cases hv), hok'.rs, hok'.dn⟩
      have hPBi : w2.heap.size < wi.heap.size := HO.out.1.own.inside
      have haX : Aw w2.heap.size v (nokey u') := by
        have hq := hQ (fun b => b ≠ w2.heap.size ∧ v.ownBlock ≠ some b) (fun b hb => ⟨by have := H3.out.1.size; omega, fun e => by have := (HO.out.1.later b e).2; have := H3.out.1.size; omega⟩)
          ((awn_lt HM.out.2.2.2.2.2.2).imp fun b hb => ⟨by have := H2.out.2.2.2; omega, fun e => by have := (HO.out.1.later b e).1; have := H2.out.2.2.2; omega⟩)
        exact ⟨fun hp => absurd hp (by show ¬ 0 < 0; omega), hq.2⟩
      have Hpr := Lib.hid (produce_any w2.heap.size t' why' v M (nokey u') E X hprX HO.out.2.2.1 huX hokX haX (by have := HO.out.2.2.2.2.2.2; omega))
      unfold ProdSays at Hpr
      have Hpr : Hid (Calls Tryz.prog 21 #[.pointer (some ⟨w2.heap.size, 0, none⟩), .agg #[.slice none 0 0, .slice u'.rA u'.row.length u'.rc, .int .u64 (u'.t.e : Int), .int .u64 (u'.t.a : Int), .int .u64 (u'.t.b : Int), .int .i64 u'.d], .int .i64 E] X fun e w' => e = .returned (.tuple #[]) ∧ ∃ t'' v', Prod w' w2.heap.size t'' (if E = 0 then why' else 10) v' (if E = 0 then M ++ [nokey u'] else M) ∧ PKeep X w' w2.heap.size v ∧ Grew X v v') := Hpr
      have H5 := Lib.hid (And.intro hbX (And.intro hr' (And.intro ht' (And.intro hd' (And.intro hPBi hprX)))))
      obtain ⟨y0, y1, y2, y3, y4, y5⟩ := own6 hXo
      clear hr' ht' hd' hin' hok' hQ b4 hb5 hs5 hXo hXb hXs hbX hb4X hprX huX hokX hPBi haX e0 e1 e2 e3 e4 e5 p0 p1 p2 p3 p4 p5 p6 p7 Hmade
      go_upto_region 12 with fail
      rw [← hV5]
      clear hV5
      go_upto_region 13 with fail
      rw [← hX]
      clear hX z0 k0 ho5
      go_wp2_with fail
      refine Hpr.out.mono ?_
      rintro _ w6 ⟨rfl, t6, v6, hp6, hk6, hg6⟩
      have H6 := Lib.hid (And.intro hp6 hk6)
      clear hp6 hk6 hg6 Hpr y0 y1 y2 y3 y4 y5
      go_wp2_with fail
      go_roundw
      case rel =>
        obtain ⟨g1, g2⟩ := H6.out
        obtain ⟨m1, m2, m3, m4, m5, m6, m7⟩ := HM.out
        obtain ⟨n1, n2, n3, n4, n5, n6⟩ := H5.out
        obtain ⟨o1, o2, o3, o4, o5, o6, o7⟩ := HO.out
        have hb6 : Below w2.heap.size w2 w6 := o2.trans ((n1.mono (Nat.le_of_lt n5)).trans (g2.below (Nat.le_of_lt n6.own.inside) (Nat.le_refl _) fun k e => Nat.le_of_succ_le (n6.later k e).1))
        have hoks : okAll (mkMap es) (l.take (j + 1)) = (okAll (mkMap es) (l.take j) && (E == 0)) := by
          rw [m6]
          unfold okAll
          rw [List.all_append]
          simp [m1]
        by_cases hE0 : E = 0
        · rw [if_pos hE0, if_pos hE0] at g1
          refine ⟨j + 1, t6, why', v6, M ++ [nokey u'], by go_num, by omega, g1, hb6, o3, ?_, fun hf => ?_, fun y hy => ?_, by rw [List.length_append, List.length_singleton]; omega⟩
          · rw [hoks, hE0]
            simpa using o4
          · rw [hoks, hE0] at hf
            have hf' : okAll (mkMap es) (l.take j) = true := by simpa using hf
            rw [List.map_append, o5 hf', m6, List.map_append]
            congr 1
            rw [List.map_cons, List.map_cons, List.map_nil, List.map_nil]
            unfold madeP
            rw [m2, m3, ← n2, ← n4, ← n3]
            rfl
          · rcases List.mem_append.1 hy with hy | hy
            · exact o6 y hy
            · obtain rfl : y = nokey u' := by simpa using hy
              exact chk_nokey (by rw [n2]; exact m4 hE0) (by rw [n3]; exact (chkK_zero m5).2.2)
        · rw [if_neg hE0, if_neg hE0] at g1
          have hff : okAll (mkMap es) (l.take (j + 1)) = false := by
            rw [hoks]
            have : (E == 0) = false := by simpa using hE0
            rw [this, Bool.and_false]
          refine ⟨j + 1, t6, 10, v6, M, by go_num, by omega, g1, hb6, .inr rfl, ?_, fun hf => ?_, o6, by omega⟩
          · rw [hff]
            exact ⟨fun e => absurd e (by decide), fun e => absurd e (by decide)⟩
          · rw [hff] at hf
            cases hf
      case measure => simp [intOf]; omega
    · have hj2 : j = l.length := by omega
      have Hend := Lib.hid (end_any w2.heap.size t' why' v M wi HO.out.1 HO.out.2.2.1 HO.out.2.2.2.2.2.1 (by have := HO.out.2.2.2.2.2.2; omega))
      unfold EndSays at Hend
      have hRP : w.heap.size + 1 ≠ w2.heap.size := by have := H2.out.2.2.2; omega
      have hRB : Own wi (w.heap.size + 1) 27 [.int .u64 0, .int .u64 0, .int .u64 0] := H2.out.2.2.1.past HO.out.2.1 (by have := H2.out.2.2.2; omega)
      have HRB := Lib.hid hRB
      have HJ2 := Lib.hid hj2
      have q5 : decide ((j : Int) < (l.length : Int)) = false := decide_eq_false (by omega)
      clear hRB hj2
      go_wp2_with fail
      refine Hend.out.mono ?_
      rintro _ w7 ⟨A7, c7, outL, t7, E, rfl, hE7, hEi, hEo, hu7, hok7, hk7, hA7, hlo7, hln7⟩
      have hvne : ∀ b, v.ownBlock = some b → w2.heap.size + 1 ≤ b := fun b e => (HO.out.1.later b e).1
      have hR7 : Own w7 (w.heap.size + 1) 27 [.int .u64 0, .int .u64 0, .int .u64 0] := (hk7.block _ HRB.out.inside hRP (fun e => by have := hvne _ e; have := H2.out.2.2.2; omega)).trans HRB.out
      obtain ⟨X, hX, hXo, hXk, hXs⟩ := own_three hR7 (.int .u64 (t7.e : Int)) (.int .u64 (t7.a : Int)) (.int .u64 (t7.b : Int))
      obtain ⟨z0, z1, z2⟩ : w7.cell? ⟨w.heap.size + 1, 0, none⟩ = some (.int .u64 0) ∧ w7.cell? ⟨w.heap.size + 1, 1, none⟩ = some (.int .u64 0) ∧ w7.cell? ⟨w.heap.size + 1, 2, none⟩ = some (.int .u64 0) := ⟨hR7.at_ 0, hR7.at_ 1, hR7.at_ 2⟩
      have f0 := hR7.open_ 0
      have f1 := hR7.open_ 1
      have f2 := hR7.open_ 2
      obtain ⟨x0, x1, x2⟩ : X.cell? ⟨w.heap.size + 1, 0, none⟩ = some (.int .u64 (t7.e : Int)) ∧ X.cell? ⟨w.heap.size + 1, 1, none⟩ = some (.int .u64 (t7.a : Int)) ∧ X.cell? ⟨w.heap.size + 1, 2, none⟩ = some (.int .u64 (t7.b : Int)) := ⟨hXo.at_ 0, hXo.at_ 1, hXo.at_ 2⟩
      have hszi : w.heap.size + 2 ≤ wi.heap.size := Nat.le_trans H2.out.2.2.2 HO.out.2.1.size
      have huX : Ups X X.heap.size A7 outL := ⟨lies_pk hu7.head hXk fun _ b o e => ⟨by have := hA7 b o e; omega, by simp [Value.ownBlock]⟩, fun u hu => uin_pk (hu7.each_ u hu) ((hlo7 u hu).imp fun b hb => ⟨by omega, by simp [Value.ownBlock]⟩) hXk⟩
      have hb7 : Below w.heap.size w X := (H2.out.1.trans (HO.out.2.1.mono (by have := H2.out.2.2.2; omega))).trans ((hk7.below (by omega) (by have := H2.out.2.2.2; omega) fun b e => by have := hvne b e; have := H2.out.2.2.2; omega).trans (hXk.below (by have := hk7.size; omega) (Nat.le_succ _) fun b e => by simp [Value.ownBlock] at e))
      have HF := Lib.hid (And.intro huX (And.intro hb7 (And.intro hok7 (And.intro (fun b o e => by have := hA7 b o e; omega : ∀ b o, A7 = some ⟨b, o, none⟩ → w.heap.size ≤ b) (fun u hu => (hlo7 u hu).imp fun b hb => by omega : ∀ u ∈ outL, Awn (fun b => w.heap.size ≤ b) u)))))
      have HLn := Lib.hid (show outL.length ≤ l.length by have := HO.out.2.2.2.2.2.2; have := HJ2.out; omega)
      have HE := Lib.hid (And.intro hE7 (And.intro hEi hEo))
      clear hE7 hEi hEo hu7 hok7 hk7 hA7 hlo7 hln7 hvne hR7 hXo hXk hXs hszi huX hb7 Hend
      go_wp2_with fail
      rw [← hX]
      clear hX
      have htl : l.take j = l := by rw [HJ2.out, List.take_length]
      have hmm : okAll (mkMap es) l = true → M.map Up.p = l.map (madeP (mkMap es)) := by
        have := HO.out.2.2.2.2.1
        rwa [htl] at this
      have hwf : why' = 0 ↔ okAll (mkMap es) l = true := by
        have := HO.out.2.2.2.1
        rwa [htl] at this
      have hfu : okAll (mkMap es) l = true → fitU M = fitP (l.map (madeP (mkMap es))) := fun h => by unfold fitU fitP; rw [hmm h]
      exact bodyPost_ret (v := .tuple #[.slice A7 outL.length c7, .agg #[.int .u64 (t7.e : Int), .int .u64 (t7.a : Int), .int .u64 (t7.b : Int)], .int .i64 E]) (by simp [results, Tryz.results8, go_sem, x0, x1, x2]) rfl
        ⟨A7, c7, outL, t7, E, rfl, ⟨fun e => by
          obtain ⟨h1, h2⟩ := HE.out.2.1.1 e
          have h3 := hwf.1 h1
          exact ⟨HL.out.2.2, h3, by rw [← hfu h3]; exact h2⟩, fun e => HE.out.2.1.2 ⟨hwf.2 e.2.1, by rw [hfu e.2.1]; exact e.2.2⟩⟩, fun e => by
          obtain ⟨h1, h2⟩ := HE.out.2.1.1 e
          have h3 := HE.out.2.2 e
          rw [hmm (hwf.1 h1)] at h3
          exact h3, HF.out.1, HF.out.2.2.1, HF.out.2.1, HF.out.2.2.2.1, HF.out.2.2.2.2, HLn.out⟩
set_option maxRecDepth 100000 in
set_option maxHeartbeats 16000000 in
theorem do_filtered (n a r : Int) (A1 A2 A3 A4 : Option Addr) (l1 l3 l4 c1 c2 c3 c4 : Nat) (es : List Lx) (A : Option Addr) (c : Nat) (l : List Up) (w : World) (hx : Exs w w.heap.size A2 es) (hl : Ups w w.heap.size A l) (hok : ∀ u ∈ l, UOk u) (hn : l.length ≤ 1099511627776) :
    Calls Tryz.prog 8 #[.agg #[.int .u8 4, .int .i64 n, .slice A1 l1 c1, .slice A2 es.length c2, .slice A3 l3 c3, .slice A4 l4 c4, .int .u8 a, .int .i64 r], .slice A l.length c] w (DoSays (mkFil es) l w) := by
  obtain ⟨V, hV, hvb, hvs, hvp, hvt⟩ := pbox w 4 n a r A1 A2 A3 A4 l1 es.length l3 l4 c1 c2 c3 c4
  have hck := dcheck_any A c l V (hl.keep hvb) (by omega) hok
  obtain ⟨K, hK⟩ : ∃ K, chkUs l = K := ⟨_, rfl⟩
  rw [hK] at hck
  have Hck := Lib.hid hck
  have HXs := Lib.hid hx
  clear hx
  have HL := Lib.hid (And.intro hl (And.intro hok hK))
  have HV := Lib.hid (And.intro hvb (And.intro hvp (And.intro hvt hvs)))
  clear hl hok hK hck hvb hvp hvt hvs
  go_enter Tryz.func8, Tryz.ntmps8
  go_upto_region 1 with fail
  rw [← hV]
  clear hV
  go_wp2_with fail
  refine Hck.out.mono ?_
  rintro _ w1 ⟨rfl, b1⟩
  have H1 := Lib.hid (And.intro (belows HV.out.1 b1) (And.intro (HV.out.2.1.past b1 HV.out.2.1.inside) (And.intro (HV.out.2.2.1.past b1 HV.out.2.2.1.inside) (show w.heap.size + 2 ≤ w1.heap.size by have := HV.out.2.2.2; have := b1.size; omega))))
  clear b1 Hck
  by_cases hK0 : K = 0
  case neg =>
    have t1 : (K != 0) = true := bne_iff_ne.2 hK0
    obtain ⟨X, hX, hXo, hXk, hXs⟩ := own_three H1.out.2.2.1 (.int .u64 0) (.int .u64 0) (.int .u64 0)
    have hbX : Below w.heap.size w X := H1.out.1.trans (hXk.below (by have := H1.out.2.2.2; omega) (Nat.le_succ _) (fun k e => by simp [Value.ownBlock] at e))
    obtain ⟨z0, z1, z2⟩ : w1.cell? ⟨w.heap.size + 1, 0, none⟩ = some (.int .u64 0) ∧ w1.cell? ⟨w.heap.size + 1, 1, none⟩ = some (.int .u64 0) ∧ w1.cell? ⟨w.heap.size + 1, 2, none⟩ = some (.int .u64 0) := ⟨H1.out.2.2.1.at_ 0, H1.out.2.2.1.at_ 1, H1.out.2.2.1.at_ 2⟩
    have f0 := H1.out.2.2.1.open_ 0
    have f1 := H1.out.2.2.1.open_ 1
    have f2 := H1.out.2.2.1.open_ 2
    obtain ⟨x0, x1, x2⟩ : X.cell? ⟨w.heap.size + 1, 0, none⟩ = some (.int .u64 0) ∧ X.cell? ⟨w.heap.size + 1, 1, none⟩ = some (.int .u64 0) ∧ X.cell? ⟨w.heap.size + 1, 2, none⟩ = some (.int .u64 0) := ⟨hXo.at_ 0, hXo.at_ 1, hXo.at_ 2⟩
    have HB := Lib.hid hbX
    have HK0 := Lib.hid hK0
    clear hXo hXk hXs hbX hK0
    go_wp2_with fail
    rw [← hX]
    clear hX
    exact bodyPost_ret (v := .tuple #[.slice none 0 0, .agg #[.int .u64 0, .int .u64 0, .int .u64 0], .int .i64 K]) (by simp [results, Tryz.results8, go_sem, x0, x1, x2]) rfl
      ⟨none, 0, [], ⟨0, 0, 0⟩, K, rfl, ⟨fun e => absurd e HK0.out, fun e => absurd (HL.out.2.2.symm.trans e.1) HK0.out⟩, fun e => absurd e HK0.out, ⟨Lies.nil_, fun u hu => (by cases hu)⟩, fun u hu => (by cases hu), HB.out, fun b o e => (by cases e), fun u hu => (by cases hu), Nat.zero_le _⟩
  subst hK0
  have hchk := chkUs_all.1 HL.out.2.2
  have HC := Lib.hid hchk
  obtain ⟨p0, p1, p2, p3, p4, p5, p6, p7⟩ : w1.cell? ⟨w.heap.size, 0, none⟩ = some (.int .u8 4) ∧ w1.cell? ⟨w.heap.size, 1, none⟩ = some (.int .i64 n) ∧ w1.cell? ⟨w.heap.size, 2, none⟩ = some (.slice A1 l1 c1) ∧ w1.cell? ⟨w.heap.size, 3, none⟩ = some (.slice A2 es.length c2) ∧ w1.cell? ⟨w.heap.size, 4, none⟩ = some (.slice A3 l3 c3) ∧ w1.cell? ⟨w.heap.size, 5, none⟩ = some (.slice A4 l4 c4) ∧ w1.cell? ⟨w.heap.size, 6, none⟩ = some (.int .u8 a) ∧ w1.cell? ⟨w.heap.size, 7, none⟩ = some (.int .i64 r) :=
    ⟨H1.out.2.1.at_ 0, H1.out.2.1.at_ 1, H1.out.2.1.at_ 2, H1.out.2.1.at_ 3, H1.out.2.1.at_ 4, H1.out.2.1.at_ 5, H1.out.2.1.at_ 6, H1.out.2.1.at_ 7⟩
  have hmk := fun W => Lib.hid (makers_any W)
  unfold MakersSays at hmk
  clear hchk
  go_upto_region 4 with fail
  have hself : Bl w1 w1 := Bl.refl _
  have HP := Lib.hid (fun W (h : Bl w1 W) => (H1.out.2.1.past h H1.out.2.1.inside).at_ 0)
  simp only [List.getElem?_cons_zero] at HP
  go_region_held3 (fun w' => Bl w1 w' ∧ (w'.cell? ⟨w.heap.size, 0, none⟩ = some (.int .u8 4)))
    ((refine (fun h => And.intro h (HP.out _ h)) ?_; repeat (first | with_reducible exact hb2 | with_reducible exact hself | with_reducible refine Bl.more ?_ _ | with_reducible refine Bl.drew ?_)))
    (first | (go_at_call 20; refine (hmk _).out.mono ?_; rintro _ w2 ⟨G, rfl, b2, hlook⟩; have hb2 : Bl w1 w2 := Bl.call (by repeat (first | with_reducible exact hself | with_reducible refine Bl.more ?_ _ | with_reducible refine Bl.drew ?_)) b2; have hlk := hlook w2 (Below.refl _ _) 4 (by decide); rw [show mkV 4 = .func (.func 39) #[] #[] from rfl, show (mkF 4).isSome = true from rfl] at hlk))
  clear hlook b2 hmk hlk p0 p1 p2 p3 p4 p5 p6 p7
  obtain ⟨V2, hV2, hb3, hs3, hpr⟩ := prbox w2
  have H2 := Lib.hid (And.intro (H1.out.1.trans (hb2.below.mono (Nat.le_trans (by have := H1.out.2.2.2; omega) (Nat.le_refl _)))) (And.intro (H1.out.2.1.past hb2 H1.out.2.1.inside) (And.intro (H1.out.2.2.1.past hb2 H1.out.2.2.1.inside) (show w.heap.size + 2 ≤ w2.heap.size from Nat.le_trans H1.out.2.2.2 hb2.size))))
  have HR := Lib.hid (And.intro hb3 (And.intro hs3 hpr))
  clear hb2 hb3 hs3 hpr hself
  go_upto_region 8 with fail
  rw [← hV2]
  clear hV2
  go_wp2_with fail
  go_loopw [33] (fun v33 wr => ∃ (j : Nat) (t' : Tm) (why' : Int) (v : Value) (M : List Up), v33 = .int .i64 (j : Int) ∧ j ≤ l.length ∧ Prod wr w2.heap.size t' why' v M ∧ Below w2.heap.size w2 wr ∧ (why' = 0 ∨ why' = 10) ∧ (why' = 0 ↔ okAll (mkFil es) (l.take j) = true) ∧ (okAll (mkFil es) (l.take j) = true → M.map Up.p = (l.take j).map (madeP (mkFil es))) ∧ (∀ u ∈ M, chkU u = 0) ∧ M.length ≤ j)
    (fun v33 _ => l.length - (intOf v33).toNat)
  case atStart => exact ⟨0, ⟨0, 0, 0⟩, 0, .slice none 0 0, [], rfl, Nat.zero_le _, HR.out.2.2, HR.out.1, .inl rfl, ⟨fun _ => rfl, fun _ => rfl⟩, fun _ => rfl, fun u hu => (by cases hu), Nat.le_refl _⟩
  case round =>
    obtain ⟨j, t', why', v, M, rfl, hj, hpr, hbw, hwy, hwf, hmap, hcm, hlen⟩ := hrel
    obtain ⟨wi, hwi⟩ : ∃ wi, wi = wr := ⟨_, rfl⟩
    subst hwi
    have HO := Lib.hid (And.intro hpr (And.intro hbw (And.intro hwy (And.intro hwf (And.intro hmap (And.intro hcm hlen))))))
    clear hpr hbw hwy hwf hmap hcm hlen
    by_cases hlt : j < l.length
    · have hy : l[j]? = some l[j] := List.getElem?_eq_getElem hlt
      have hym := List.mem_of_getElem? hy
      generalize l[j] = u at *
      obtain ⟨b, o, rfl, hB, hys⟩ := lies_up HL.out.1.head (by omega)
      have hbwi : Below w.heap.size w wi := H2.out.1.trans (HO.out.2.1.mono (by have := H2.out.2.2.2; omega))
      obtain ⟨e0, e1, e2, e3, e4, e5⟩ := ((hys j u hy).past_ hbwi hB).six
      obtain ⟨V3, hV3, hb3, hs3, ho3⟩ := upbox wi u
      have hin : UIn w w.heap.size u := HL.out.1.each_ u hym
      have hoku : UOk u := HL.out.2.1 u hym
      have hchu : chkU u = 0 := HC.out u hym
      have hbV : Below wi.heap.size wi V3 := hb3
      have hpl : Own V3 w.heap.size 37 [.int .u8 4, .int .i64 n, .slice A1 l1 c1, .slice A2 es.length c2, .slice A3 l3 c3, .slice A4 l4 c4, .int .u8 a, .int .i64 r] := (H2.out.2.1.past HO.out.2.1 (by have := H2.out.2.2.2; omega)).past hb3 (by have := HO.out.2.1.size; have := H2.out.2.2.2; omega)
      have hinV : UIn V3 V3.heap.size u := ((hin.past hbwi (Nat.le_refl _)).wide hbwi.size).keep hb3
      have Hmade := Lib.hid (filtered_any 4 n a r A1 A2 A3 A4 l1 l3 l4 c1 c2 c3 c4 es u V3 ((HXs.out.past (hbwi.trans (hb3.mono hbwi.size)) (Nat.le_refl _)).wide (hbwi.trans (hb3.mono hbwi.size)).size) hinV hoku)
      have htk : l.take (j + 1) = l.take j ++ [u] := by rw [List.take_add_one, hy]; rfl
      rw [show u.val = .agg #[.slice u.kA u.key.length u.kc, .slice u.rA u.row.length u.rc, .int .u64 (u.t.e : Int), .int .u64 (u.t.a : Int), .int .u64 (u.t.b : Int), .int .i64 u.d] from rfl] at Hmade
      obtain ⟨E, hE⟩ : ∃ E, ((mkFil es) u).2.2 = E := ⟨_, rfl⟩
      obtain ⟨R, hR⟩ : ∃ R, ((mkFil es) u).1 = R := ⟨_, rfl⟩
      obtain ⟨D, hD⟩ : ∃ D, ((mkFil es) u).2.1 = D := ⟨_, rfl⟩
      have Hmade : Hid (Calls Tryz.prog 39 #[.agg #[.int .u8 4, .int .i64 n, .slice A1 l1 c1, .slice A2 es.length c2, .slice A3 l3 c3, .slice A4 l4 c4, .int .u8 a, .int .i64 r], .agg #[.slice u.kA u.key.length u.kc, .slice u.rA u.row.length u.rc, .int .u64 (u.t.e : Int), .int .u64 (u.t.a : Int), .int .u64 (u.t.b : Int), .int .i64 u.d]] V3 (MadeSays u R D E V3)) := by
        rw [← hE, ← hR, ← hD]
        exact Hmade
      unfold MadeSays at Hmade
      have hrow : E = 0 → chkRow R = 0 := fun _ => by
        rw [← hR]
        exact (chkK_zero hchu).2.1
      have HM := Lib.hid (And.intro hE (And.intro hR (And.intro hD (And.intro hrow (And.intro hchu (And.intro htk hin))))))
      have H3 := Lib.hid (And.intro hb3 (And.intro hs3 ho3))
      obtain ⟨p0, p1, p2, p3, p4, p5, p6, p7⟩ : V3.cell? ⟨w.heap.size, 0, none⟩ = some (.int .u8 4) ∧ V3.cell? ⟨w.heap.size, 1, none⟩ = some (.int .i64 n) ∧ V3.cell? ⟨w.heap.size, 2, none⟩ = some (.slice A1 l1 c1) ∧ V3.cell? ⟨w.heap.size, 3, none⟩ = some (.slice A2 es.length c2) ∧ V3.cell? ⟨w.heap.size, 4, none⟩ = some (.slice A3 l3 c3) ∧ V3.cell? ⟨w.heap.size, 5, none⟩ = some (.slice A4 l4 c4) ∧ V3.cell? ⟨w.heap.size, 6, none⟩ = some (.int .u8 a) ∧ V3.cell? ⟨w.heap.size, 7, none⟩ = some (.int .i64 r) :=
        ⟨hpl.at_ 0, hpl.at_ 1, hpl.at_ 2, hpl.at_ 3, hpl.at_ 4, hpl.at_ 5, hpl.at_ 6, hpl.at_ 7⟩
      have q3 : (0 : Int) ≤ (j : Int) := by omega
      have q4 : (j : Int) < (l.length : Int) := by omega
      have q5 : decide ((j : Int) < (l.length : Int)) = true := decide_eq_true q4
      clear hy hym hys hin hoku hchu hbV hpl hinV htk hE hR hD hrow hb3 hs3 hbwi
      go_upto_region 11 with fail
      rw [← hV3]
      clear hV3 e0 e1 e2 e3 e4 e5
      obtain ⟨e0, e1, e2, e3, e4, e5⟩ := own6 ho3
      clear ho3
      go_wp2_with fail
      refine Hmade.out.mono ?_
      rintro _ w4 ⟨u', rfl, hr', ht', hd', hin', hok', hQ, b4⟩
      rw [show u'.val = .agg #[.slice u'.kA u'.key.length u'.kc, .slice u'.rA u'.row.length u'.rc, .int .u64 (u'.t.e : Int), .int .u64 (u'.t.a : Int), .int .u64 (u'.t.b : Int), .int .i64 u'.d] from rfl]
      obtain ⟨V5, hV5, hb5, hs5, ho5⟩ := upbox w4 u'
      obtain ⟨X, hX, hXo, hXb, hXs⟩ := own_zeroth ho5 (.slice none 0 0)
      have z0 := (own6 ho5).1
      have k0 := (own_frozen6 ho5).1
      have hbX : Below wi.heap.size wi X := hXb _ _ (belows (belows H3.out.1 b4) hb5) (Nat.le_trans (belows H3.out.1 b4).size (Nat.le_refl _))
      have hb4X : Below w4.heap.size w4 X := hXb _ _ hb5 (Nat.le_refl _)
      have hprX := HO.out.1.quiet hbX
      have huX : UIn X X.heap.size (nokey u') := ⟨Vals.nil_, (hin'.keep hb4X).row⟩
      have hokX : UOk (nokey u') := ⟨Nat.zero_le _, hok'.rn, fun v hv => (by cases hv), hok'.rs, hok'.dn⟩
      have hPBi : w2.heap.size < wi.heap.size := HO.out.1.own.inside
      have haX : Aw w2.heap.size v (nokey u') := by
        have hq := hQ (fun b => b ≠ w2.heap.size ∧ v.ownBlock ≠ some b) (fun b hb => ⟨by have := H3.out.1.size; omega, fun e => by have := (HO.out.1.later b e).2; have := H3.out.1.size; omega⟩)
          ((awn_lt HM.out.2.2.2.2.2.2).imp fun b hb => ⟨by have := H2.out.2.2.2; omega, fun e => by have := (HO.out.1.later b e).1; have := H2.out.2.2.2; omega⟩)
        exact ⟨fun hp => absurd hp (by show ¬ 0 < 0; omega), hq.2⟩
      have Hpr := Lib.hid (produce_any w2.heap.size t' why' v M (nokey u') E X hprX HO.out.2.2.1 huX hokX haX (by have := HO.out.2.2.2.2.2.2; omega))
      unfold ProdSays at Hpr
      have Hpr : Hid (Calls Tryz.prog 21 #[.pointer (some ⟨w2.heap.size, 0, none⟩), .agg #[.slice none 0 0, .slice u'.rA u'.row.length u'.rc, .int .u64 (u'.t.e : Int), .int .u64 (u'.t.a : Int), .int .u64 (u'.t.b : Int), .int .i64 u'.d], .int .i64 E] X fun e w' => e = .returned (.tuple #[]) ∧ ∃ t'' v', Prod w' w2.heap.size t'' (if E = 0 then why' else 10) v' (if E = 0 then M ++ [nokey u'] else M) ∧ PKeep X w' w2.heap.size v ∧ Grew X v v') := Hpr
      have H5 := Lib.hid (And.intro hbX (And.intro hr' (And.intro ht' (And.intro hd' (And.intro hPBi hprX)))))
      obtain ⟨y0, y1, y2, y3, y4, y5⟩ := own6 hXo
      clear hr' ht' hd' hin' hok' hQ b4 hb5 hs5 hXo hXb hXs hbX hb4X hprX huX hokX hPBi haX e0 e1 e2 e3 e4 e5 p0 p1 p2 p3 p4 p5 p6 p7 Hmade
      go_upto_region 12 with fail
      rw [← hV5]
      clear hV5
      go_upto_region 13 with fail
      rw [← hX]
      clear hX z0 k0 ho5
      go_wp2_with fail
      refine Hpr.out.mono ?_
      rintro _ w6 ⟨rfl, t6, v6, hp6, hk6, hg6⟩
      have H6 := Lib.hid (And.intro hp6 hk6)
      clear hp6 hk6 hg6 Hpr y0 y1 y2 y3 y4 y5
      go_wp2_with fail
      go_roundw
      case rel =>
        obtain ⟨g1, g2⟩ := H6.out
        obtain ⟨m1, m2, m3, m4, m5, m6, m7⟩ := HM.out
        obtain ⟨n1, n2, n3, n4, n5, n6⟩ := H5.out
        obtain ⟨o1, o2, o3, o4, o5, o6, o7⟩ := HO.out
        have hb6 : Below w2.heap.size w2 w6 := o2.trans ((n1.mono (Nat.le_of_lt n5)).trans (g2.below (Nat.le_of_lt n6.own.inside) (Nat.le_refl _) fun k e => Nat.le_of_succ_le (n6.later k e).1))
        have hoks : okAll (mkFil es) (l.take (j + 1)) = (okAll (mkFil es) (l.take j) && (E == 0)) := by
          rw [m6]
          unfold okAll
          rw [List.all_append]
          simp [m1]
        by_cases hE0 : E = 0
        · rw [if_pos hE0, if_pos hE0] at g1
          refine ⟨j + 1, t6, why', v6, M ++ [nokey u'], by go_num, by omega, g1, hb6, o3, ?_, fun hf => ?_, fun y hy => ?_, by rw [List.length_append, List.length_singleton]; omega⟩
          · rw [hoks, hE0]
            simpa using o4
          · rw [hoks, hE0] at hf
            have hf' : okAll (mkFil es) (l.take j) = true := by simpa using hf
            rw [List.map_append, o5 hf', m6, List.map_append]
            congr 1
            rw [List.map_cons, List.map_cons, List.map_nil, List.map_nil]
            unfold madeP
            rw [m2, m3, ← n2, ← n4, ← n3]
            rfl
          · rcases List.mem_append.1 hy with hy | hy
            · exact o6 y hy
            · obtain rfl : y = nokey u' := by simpa using hy
              exact chk_nokey (by rw [n2]; exact m4 hE0) (by rw [n3]; exact (chkK_zero m5).2.2)
        · rw [if_neg hE0, if_neg hE0] at g1
          have hff : okAll (mkFil es) (l.take (j + 1)) = false := by
            rw [hoks]
            have : (E == 0) = false := by simpa using hE0
            rw [this, Bool.and_false]
          refine ⟨j + 1, t6, 10, v6, M, by go_num, by omega, g1, hb6, .inr rfl, ?_, fun hf => ?_, o6, by omega⟩
          · rw [hff]
            exact ⟨fun e => absurd e (by decide), fun e => absurd e (by decide)⟩
          · rw [hff] at hf
            cases hf
      case measure => simp [intOf]; omega
    · have hj2 : j = l.length := by omega
      have Hend := Lib.hid (end_any w2.heap.size t' why' v M wi HO.out.1 HO.out.2.2.1 HO.out.2.2.2.2.2.1 (by have := HO.out.2.2.2.2.2.2; omega))
      unfold EndSays at Hend
      have hRP : w.heap.size + 1 ≠ w2.heap.size := by have := H2.out.2.2.2; omega
      have hRB : Own wi (w.heap.size + 1) 27 [.int .u64 0, .int .u64 0, .int .u64 0] := H2.out.2.2.1.past HO.out.2.1 (by have := H2.out.2.2.2; omega)
      have HRB := Lib.hid hRB
      have HJ2 := Lib.hid hj2
      have q5 : decide ((j : Int) < (l.length : Int)) = false := decide_eq_false (by omega)
      clear hRB hj2
      go_wp2_with fail
      refine Hend.out.mono ?_
      rintro _ w7 ⟨A7, c7, outL, t7, E, rfl, hE7, hEi, hEo, hu7, hok7, hk7, hA7, hlo7, hln7⟩
      have hvne : ∀ b, v.ownBlock = some b → w2.heap.size + 1 ≤ b := fun b e => (HO.out.1.later b e).1
      have hR7 : Own w7 (w.heap.size + 1) 27 [.int .u64 0, .int .u64 0, .int .u64 0] := (hk7.block _ HRB.out.inside hRP (fun e => by have := hvne _ e; have := H2.out.2.2.2; omega)).trans HRB.out
      obtain ⟨X, hX, hXo, hXk, hXs⟩ := own_three hR7 (.int .u64 (t7.e : Int)) (.int .u64 (t7.a : Int)) (.int .u64 (t7.b : Int))
      obtain ⟨z0, z1, z2⟩ : w7.cell? ⟨w.heap.size + 1, 0, none⟩ = some (.int .u64 0) ∧ w7.cell? ⟨w.heap.size + 1, 1, none⟩ = some (.int .u64 0) ∧ w7.cell? ⟨w.heap.size + 1, 2, none⟩ = some (.int .u64 0) := ⟨hR7.at_ 0, hR7.at_ 1, hR7.at_ 2⟩
      have f0 := hR7.open_ 0
      have f1 := hR7.open_ 1
      have f2 := hR7.open_ 2
      obtain ⟨x0, x1, x2⟩ : X.cell? ⟨w.heap.size + 1, 0, none⟩ = some (.int .u64 (t7.e : Int)) ∧ X.cell? ⟨w.heap.size + 1, 1, none⟩ = some (.int .u64 (t7.a : Int)) ∧ X.cell? ⟨w.heap.size + 1, 2, none⟩ = some (.int .u64 (t7.b : Int)) := ⟨hXo.at_ 0, hXo.at_ 1, hXo.at_ 2⟩
      have hszi : w.heap.size + 2 ≤ wi.heap.size := Nat.le_trans H2.out.2.2.2 HO.out.2.1.size
      have huX : Ups X X.heap.size A7 outL := ⟨lies_pk hu7.head hXk fun _ b o e => ⟨by have := hA7 b o e; omega, by simp [Value.ownBlock]⟩, fun u hu => uin_pk (hu7.each_ u hu) ((hlo7 u hu).imp fun b hb => ⟨by omega, by simp [Value.ownBlock]⟩) hXk⟩
      have hb7 : Below w.heap.size w X := (H2.out.1.trans (HO.out.2.1.mono (by have := H2.out.2.2.2; omega))).trans ((hk7.below (by omega) (by have := H2.out.2.2.2; omega) fun b e => by have := hvne b e; have := H2.out.2.2.2; omega).trans (hXk.below (by have := hk7.size; omega) (Nat.le_succ _) fun b e => by simp [Value.ownBlock] at e))
      have HF := Lib.hid (And.intro huX (And.intro hb7 (And.intro hok7 (And.intro (fun b o e => by have := hA7 b o e; omega : ∀ b o, A7 = some ⟨b, o, none⟩ → w.heap.size ≤ b) (fun u hu => (hlo7 u hu).imp fun b hb => by omega : ∀ u ∈ outL, Awn (fun b => w.heap.size ≤ b) u)))))
      have HLn := Lib.hid (show outL.length ≤ l.length by have := HO.out.2.2.2.2.2.2; have := HJ2.out; omega)
      have HE := Lib.hid (And.intro hE7 (And.intro hEi hEo))
      clear hE7 hEi hEo hu7 hok7 hk7 hA7 hlo7 hln7 hvne hR7 hXo hXk hXs hszi huX hb7 Hend
      go_wp2_with fail
      rw [← hX]
      clear hX
      have htl : l.take j = l := by rw [HJ2.out, List.take_length]
      have hmm : okAll (mkFil es) l = true → M.map Up.p = l.map (madeP (mkFil es)) := by
        have := HO.out.2.2.2.2.1
        rwa [htl] at this
      have hwf : why' = 0 ↔ okAll (mkFil es) l = true := by
        have := HO.out.2.2.2.1
        rwa [htl] at this
      have hfu : okAll (mkFil es) l = true → fitU M = fitP (l.map (madeP (mkFil es))) := fun h => by unfold fitU fitP; rw [hmm h]
      exact bodyPost_ret (v := .tuple #[.slice A7 outL.length c7, .agg #[.int .u64 (t7.e : Int), .int .u64 (t7.a : Int), .int .u64 (t7.b : Int)], .int .i64 E]) (by simp [results, Tryz.results8, go_sem, x0, x1, x2]) rfl
        ⟨A7, c7, outL, t7, E, rfl, ⟨fun e => by
          obtain ⟨h1, h2⟩ := HE.out.2.1.1 e
          have h3 := hwf.1 h1
          exact ⟨HL.out.2.2, h3, by rw [← hfu h3]; exact h2⟩, fun e => HE.out.2.1.2 ⟨hwf.2 e.2.1, by rw [hfu e.2.1]; exact e.2.2⟩⟩, fun e => by
          obtain ⟨h1, h2⟩ := HE.out.2.1.1 e
          have h3 := HE.out.2.2 e
          rw [hmm (hwf.1 h1)] at h3
          exact h3, HF.out.1, HF.out.2.2.1, HF.out.2.1, HF.out.2.2.2.1, HF.out.2.2.2.2, HLn.out⟩
end Go.Proofs.YtcfldgncmbcpmaaGreat
namespace Go.Proofs.YtcfldgncmbcpmaaGreat
open Go Go.RowKit

def chkL (loop rounds : Int) (l : List Up) : Int := if chkUs l = 0 then (if loop < 0 ∨ 2 ≤ loop ∨ rounds < 1 ∨ 16 < rounds then 1 else 0) else chkUs l
set_option maxRecDepth 100000 in
set_option maxHeartbeats 1600000 in
theorem checkL_any (loop rounds : Int) (A : Option Addr) (c : Nat) (l : List Up) (w : World) (hl : Ups w w.heap.size A l) (hn : l.length ≤ 140737488351232) (hok : ∀ u ∈ l, UOk u) :
    Calls Tryz.prog 26 #[.int .i64 loop, .int .i64 rounds, .slice A l.length c] w fun e w' => e = .returned (.int .i64 (chkL loop rounds l)) ∧ Below w.heap.size w w' := by
  have y1 := Lib.hid (dcheck_any A c l w hl hn hok)
  obtain ⟨K, hK⟩ : ∃ K, chkUs l = K := ⟨_, rfl⟩
  rw [hK] at y1
  have HK := Lib.hid (show chkL loop rounds l = if K = 0 then (if loop < 0 ∨ 2 ≤ loop ∨ rounds < 1 ∨ 16 < rounds then 1 else 0) else K by unfold chkL; rw [hK])
  clear hl hok hK
  by_cases hK0 : K = 0
  · subst hK0
    by_cases h1 : loop < 0
    · have t1 : decide (loop < 0) = true := decide_eq_true h1
      have HH := Lib.hid h1
      clear h1
      go_enter Tryz.func26, Tryz.ntmps26
      go_wp2_with fail
      refine y1.out.mono ?_
      rintro _ w1 ⟨rfl, b1⟩
      have H1 := Lib.hid b1
      clear b1
      go_wp2_with fail
      go_ret
      exact ⟨ret_i64 (by rw [HK.out, if_pos (show True from trivial), if_pos (.inl HH.out)]), H1.out⟩
    · have t1 : decide (loop < 0) = false := decide_eq_false h1
      by_cases h2 : 2 ≤ loop
      · have t2 : decide (2 ≤ loop) = true := decide_eq_true h2
        have HH := Lib.hid h2
        clear h1 h2
        go_enter Tryz.func26, Tryz.ntmps26
        go_wp2_with fail
        refine y1.out.mono ?_
        rintro _ w1 ⟨rfl, b1⟩
        have H1 := Lib.hid b1
        clear b1
        go_wp2_with fail
        go_ret
        exact ⟨ret_i64 (by rw [HK.out, if_pos (show True from trivial), if_pos (.inr (.inl HH.out))]), H1.out⟩
      · have t2 : decide (2 ≤ loop) = false := decide_eq_false h2
        by_cases h3 : rounds < 1
        · have t3 : decide (rounds < 1) = true := decide_eq_true h3
          have HH := Lib.hid h3
          clear h1 h2 h3
          go_enter Tryz.func26, Tryz.ntmps26
          go_wp2_with fail
          refine y1.out.mono ?_
          rintro _ w1 ⟨rfl, b1⟩
          have H1 := Lib.hid b1
          clear b1
          go_wp2_with fail
          go_ret
          exact ⟨ret_i64 (by rw [HK.out, if_pos (show True from trivial), if_pos (.inr (.inr (.inl HH.out)))]), H1.out⟩
        · have t3 : decide (rounds < 1) = false := decide_eq_false h3
          by_cases h4 : 16 < rounds
          · have t4 : decide (16 < rounds) = true := decide_eq_true h4
            have HH := Lib.hid h4
            clear h1 h2 h3 h4
            go_enter Tryz.func26, Tryz.ntmps26
            go_wp2_with fail
            refine y1.out.mono ?_
            rintro _ w1 ⟨rfl, b1⟩
            have H1 := Lib.hid b1
            clear b1
            go_wp2_with fail
            go_ret
            exact ⟨ret_i64 (by rw [HK.out, if_pos (show True from trivial), if_pos (.inr (.inr (.inr HH.out)))]), H1.out⟩
          · have t4 : decide (16 < rounds) = false := decide_eq_false h4
            have HH := Lib.hid (show ¬ (loop < 0 ∨ 2 ≤ loop ∨ rounds < 1 ∨ 16 < rounds) by omega)
            clear h1 h2 h3 h4
            go_enter Tryz.func26, Tryz.ntmps26
            go_wp2_with fail
            refine y1.out.mono ?_
            rintro _ w1 ⟨rfl, b1⟩
            have H1 := Lib.hid b1
            clear b1
            go_wp2_with fail
            go_ret
            exact ⟨ret_i64 (by rw [HK.out, if_pos (show True from trivial), if_neg HH.out]), H1.out⟩
  · have t1 : (K != 0) = true := bne_iff_ne.2 hK0
    have HK0 := Lib.hid hK0
    clear hK0
    go_enter Tryz.func26, Tryz.ntmps26
    go_wp2_with fail
    refine y1.out.mono ?_
    rintro _ w1 ⟨rfl, b1⟩
    have H1 := Lib.hid b1
    clear b1
    go_wp2_with fail
    go_ret
    exact ⟨ret_i64 (by rw [HK.out, if_neg HK0.out]), H1.out⟩
/-- a time one round later -/
def lat (loop : Int) (t : Tm) : Tm := if loop = 0 then ⟨t.e, t.a + 1, t.b⟩ else ⟨t.e, t.a, t.b + 1⟩
def latU (loop : Int) (u : Up) : Up := ⟨u.kA, u.kc, u.key, u.rA, u.rc, u.row, lat loop u.t, u.d⟩
theorem own_at {w : World} {P : Nat} {t : TypeId} {l : List Value} (h : Own w P t l) (i : Nat) (f : Value) :
    ∃ X, X = w.setCell ⟨P, i, none⟩ f ∧ Own X P t (l.set i f) ∧ (∀ B u, Below B u w → B ≤ P → Below B u X) ∧ X.heap.size = w.heap.size ∧ (∀ Q t' l, Q ≠ P → Own w Q t' l → Own X Q t' l) :=
  ⟨_, rfl, h.set_ i f, fun B u hb hB => hb.setCell (p := ⟨P, i, none⟩) hB _, by simp [World.setCell], fun Q t' l hQ ho => ho.other (p := ⟨P, i, none⟩) (fun e => hQ e.symm) _⟩
theorem lbox (w : World) (u : Up) : ∃ V, V = (w.alloc (.cells #[.slice u.kA u.key.length u.kc, .slice u.rA u.row.length u.rc, .int .u64 (u.t.e : Int), .int .u64 (u.t.a : Int), .int .u64 (u.t.b : Int), .int .i64 u.d] 44)).alloc (.cells #[.slice none 0 0, .slice none 0 0, .int .u64 0, .int .u64 0, .int .u64 0, .int .i64 0] 44) ∧
      Below w.heap.size w V ∧ V.heap.size = w.heap.size + 2 ∧ Own V w.heap.size 44 u.cells ∧ Own V (w.heap.size + 1) 44 [.slice none 0 0, .slice none 0 0, .int .u64 0, .int .u64 0, .int .u64 0, .int .i64 0] := by
  obtain ⟨W2, e2, s2, b2, o2⟩ := boxd w u.cells 44
  obtain ⟨W3, e3, s3, b3, o3⟩ := boxd W2 [.slice none 0 0, .slice none 0 0, .int .u64 0, .int .u64 0, .int .u64 0, .int .i64 0] 44
  rw [s2] at o3
  exact ⟨W3, by rw [e3, e2]; rfl, belows b2 b3, by omega, o2.past b3 o2.inside, o3⟩
set_option maxRecDepth 100000 in
set_option maxHeartbeats 1600000 in
theorem later_0 (u : Up) (w : World) (hb : u.t.a < 9223372036854775807) :
    Calls Tryz.prog 28 #[.agg #[.slice u.kA u.key.length u.kc, .slice u.rA u.row.length u.rc, .int .u64 (u.t.e : Int), .int .u64 (u.t.a : Int), .int .u64 (u.t.b : Int), .int .i64 u.d], .int .i64 0] w fun e w' => e = .returned (latU 0 u).val ∧ Below w.heap.size w w' := by
  obtain ⟨V, hV, hvb, hvs, hvu, hvz⟩ := lbox w u
  obtain ⟨e0, e1, e2, e3, e4, e5⟩ := own6 hvu
  obtain ⟨k0, k1, k2, k3, k4, k5⟩ := own_frozen6 hvu
  have hw : IntKind.u64.wrap ((u.t.a : Int) + 1) = (u.t.a : Int) + 1 := IntWalk.u64_in ((u.t.a : Int) + 1) (by omega)
  obtain ⟨X, hX, hXo, hXb, hXs, hXr⟩ := own_at hvu 3 (.int .u64 ((u.t.a : Int) + 1))
  have hzX := hXr _ _ _ (by omega) hvz
  have hXo : Own X w.heap.size 44 [.slice u.kA u.key.length u.kc, .slice u.rA u.row.length u.rc, .int .u64 ((lat 0 u.t).e : Int), .int .u64 ((lat 0 u.t).a : Int), .int .u64 ((lat 0 u.t).b : Int), .int .i64 u.d] := hXo
  obtain ⟨Y, hY, hYo, hYb, hYs, hYh⟩ := own_six hzX (.slice u.kA u.key.length u.kc) (.slice u.rA u.row.length u.rc) (.int .u64 ((lat 0 u.t).e : Int)) (.int .u64 ((lat 0 u.t).a : Int)) (.int .u64 ((lat 0 u.t).b : Int)) (.int .i64 u.d)
  have hbY : Below w.heap.size w Y := hYb _ _ (hXb _ _ hvb (Nat.le_refl _)) (by omega)
  have HY := Lib.hid hbY
  obtain ⟨f0, f1, f2, f3, f4, f5⟩ := own6 hXo
  obtain ⟨z0, z1, z2, z3, z4, z5⟩ := own6 hzX
  obtain ⟨j0, j1, j2, j3, j4, j5⟩ := own_frozen6 hzX
  obtain ⟨x0, x1, x2, x3, x4, x5⟩ := own6 hYo
  have hlat := Lib.hid (show (latU 0 u).val = .agg #[.slice u.kA u.key.length u.kc, .slice u.rA u.row.length u.rc, .int .u64 ((lat 0 u.t).e : Int), .int .u64 ((lat 0 u.t).a : Int), .int .u64 ((lat 0 u.t).b : Int), .int .i64 u.d] from rfl)
  generalize lat 0 u.t = t' at *
  clear hvb hvs hvu hvz hXo hXb hXs hXr hzX hYo hYb hYs hYh hbY hb
  go_enter Tryz.func28, Tryz.ntmps28
  go_upto_region 1 with fail
  rw [← hV]
  clear hV
  go_upto_region 2 with fail
  rw [← hX]
  clear hX
  go_wp2_with fail
  rw [← hY]
  clear hY
  exact bodyPost_ret (v := .agg #[.slice u.kA u.key.length u.kc, .slice u.rA u.row.length u.rc, .int .u64 (t'.e : Int), .int .u64 (t'.a : Int), .int .u64 (t'.b : Int), .int .i64 u.d]) (by simp [results, Tryz.results28, go_sem, x0, x1, x2, x3, x4, x5]) rfl ⟨by rw [hlat.out], HY.out⟩

set_option maxRecDepth 100000 in
set_option maxHeartbeats 1600000 in
theorem later_1 (u : Up) (w : World) (hb : u.t.b < 9223372036854775807) :
    Calls Tryz.prog 28 #[.agg #[.slice u.kA u.key.length u.kc, .slice u.rA u.row.length u.rc, .int .u64 (u.t.e : Int), .int .u64 (u.t.a : Int), .int .u64 (u.t.b : Int), .int .i64 u.d], .int .i64 1] w fun e w' => e = .returned (latU 1 u).val ∧ Below w.heap.size w w' := by
  obtain ⟨V, hV, hvb, hvs, hvu, hvz⟩ := lbox w u
  obtain ⟨e0, e1, e2, e3, e4, e5⟩ := own6 hvu
  obtain ⟨k0, k1, k2, k3, k4, k5⟩ := own_frozen6 hvu
  have hw : IntKind.u64.wrap ((u.t.b : Int) + 1) = (u.t.b : Int) + 1 := IntWalk.u64_in ((u.t.b : Int) + 1) (by omega)
  obtain ⟨X, hX, hXo, hXb, hXs, hXr⟩ := own_at hvu 4 (.int .u64 ((u.t.b : Int) + 1))
  have hzX := hXr _ _ _ (by omega) hvz
  have hXo : Own X w.heap.size 44 [.slice u.kA u.key.length u.kc, .slice u.rA u.row.length u.rc, .int .u64 ((lat 1 u.t).e : Int), .int .u64 ((lat 1 u.t).a : Int), .int .u64 ((lat 1 u.t).b : Int), .int .i64 u.d] := hXo
  obtain ⟨Y, hY, hYo, hYb, hYs, hYh⟩ := own_six hzX (.slice u.kA u.key.length u.kc) (.slice u.rA u.row.length u.rc) (.int .u64 ((lat 1 u.t).e : Int)) (.int .u64 ((lat 1 u.t).a : Int)) (.int .u64 ((lat 1 u.t).b : Int)) (.int .i64 u.d)
  have hbY : Below w.heap.size w Y := hYb _ _ (hXb _ _ hvb (Nat.le_refl _)) (by omega)
  have HY := Lib.hid hbY
  obtain ⟨f0, f1, f2, f3, f4, f5⟩ := own6 hXo
  obtain ⟨z0, z1, z2, z3, z4, z5⟩ := own6 hzX
  obtain ⟨j0, j1, j2, j3, j4, j5⟩ := own_frozen6 hzX
  obtain ⟨x0, x1, x2, x3, x4, x5⟩ := own6 hYo
  have hlat := Lib.hid (show (latU 1 u).val = .agg #[.slice u.kA u.key.length u.kc, .slice u.rA u.row.length u.rc, .int .u64 ((lat 1 u.t).e : Int), .int .u64 ((lat 1 u.t).a : Int), .int .u64 ((lat 1 u.t).b : Int), .int .i64 u.d] from rfl)
  generalize lat 1 u.t = t' at *
  clear hvb hvs hvu hvz hXo hXb hXs hXr hzX hYo hYb hYs hYh hbY hb
  go_enter Tryz.func28, Tryz.ntmps28
  go_upto_region 1 with fail
  rw [← hV]
  clear hV
  go_upto_region 2 with fail
  rw [← hX]
  clear hX
  go_wp2_with fail
  rw [← hY]
  clear hY
  exact bodyPost_ret (v := .agg #[.slice u.kA u.key.length u.kc, .slice u.rA u.row.length u.rc, .int .u64 (t'.e : Int), .int .u64 (t'.a : Int), .int .u64 (t'.b : Int), .int .i64 u.d]) (by simp [results, Tryz.results28, go_sem, x0, x1, x2, x3, x4, x5]) rfl ⟨by rw [hlat.out], HY.out⟩
end Go.Proofs.YtcfldgncmbcpmaaGreat
