/- What Eval answers. -/
import Derived.Test.YtjidjpmdmcleoaaEEval
namespace Go.Proofs.Ytjidjpmdmcleoaa
open Go Go.RowKit

/-- what an expression comes to of a row, and what is told instead -/
def evalE (row : List Vl) (e : Lx) : Vl × Int :=
  if checkE e = 0 then (if chkRow row = 0 then (if (ev row 16 e 0).2 = 0 then ((ev row 16 e 0).1, 0) else (Vl.zero, (ev row 16 e 0).2)) else (Vl.zero, chkRow row)) else (Vl.zero, checkE e)
theorem evbox (w : World) (u : Int) (A : Option Addr) (n c : Nat) : ∃ W, W = w.alloc (.cells #[.int .i64 u, .slice A n c] 71) ∧ Below w.heap.size w W ∧ W.heap.size = w.heap.size + 1 ∧ Own W w.heap.size 71 (evL u A n c) :=
  ⟨_, rfl, (Below.refl _ _).alloc (Nat.le_refl _) _, by simp, by have := Own.made w 71 (evL u A n c); simpa [evL] using this⟩
theorem lxbox2v (w : World) (e : Lx) : ∃ W, W = (w.alloc (.cells #[.int .u8 e.op, .int .i64 e.col, .bool e.c.t, .int .i64 e.c.n, .string e.c.s, .slice e.A e.kids.length e.cap] 27)).alloc (.cells #[.bool false, .int .i64 0, .string ⟨#[]⟩] 24) ∧ Below w.heap.size w W ∧ W.heap.size = w.heap.size + 2 ∧
    Own W w.heap.size 27 e.cells ∧ Own W (w.heap.size + 1) 24 [.bool false, .int .i64 0, .string ⟨#[]⟩] := lxbox2 w e 24 [.bool false, .int .i64 0, .string ⟨#[]⟩]
theorem ret_pair {a b : Vl} {x y : Int} (h : (a, x) = (b, y)) : Ending.returned (.tuple #[.agg #[.bool a.t, .int .i64 a.n, .string a.s], .int .i64 x]) = .returned (.tuple #[.agg #[.bool b.t, .int .i64 b.n, .string b.s], .int .i64 y]) := by
  injection h with h1 h2; subst h1 h2; rfl
set_option maxRecDepth 100000 in
set_option maxHeartbeats 3200000 in
theorem evalE_any (e : Lx) (A : Option Addr) (c : Nat) (row : List Vl) (w : World) (hok : LxOk 17 e) (hin : LxIn w w.heap.size 17 e) (hl : Vals w w.heap.size A row) (hn : row.length ≤ maxLen) (hr : ∀ v ∈ row, VOk v) :
    Calls Try.prog 14 #[e.val, .slice A row.length c] w fun x w' => x = .returned (.tuple #[(evalE row e).1.val, .int .i64 (evalE row e).2]) ∧ Below w.heap.size w w' := by
  obtain ⟨W, hW, fb, hs, fk, fz⟩ := lxbox2v w e
  have hck := Lib.hid (check_any e W hok ((hin.past fb (Nat.le_refl _)).wide (by omega)))
  have hcr := fun W' (h : Below W.heap.size W W') => Lib.hid (vcheck_any A c row W' ((hl.past (fb.trans (h.mono (by omega))) (Nat.le_refl _)).wide (by have := h.size; omega)) hn fun v hv => (hr v hv).1)
  have hev : ∀ w3, Below W.heap.size W w3 → good 16 e = true → Hid (Calls Try.prog 28 #[.pointer (some ⟨w3.heap.size, 0, none⟩), e.val] (w3.alloc (.cells #[.int .i64 0, .slice A row.length c] 71)) fun x w' =>
      x = .returned (ev row 16 e 0).1.val ∧ Upd (w3.alloc (.cells #[.int .i64 0, .slice A row.length c] 71)) w' w3.heap.size 71 (evL (ev row 16 e 0).2 A row.length c)) := fun w3 h hg => by
    obtain ⟨V, hV, vb, vs, vo⟩ := evbox w3 0 A row.length c
    rw [← hV]
    have hb := fb.trans ((h.mono (show w.heap.size ≤ W.heap.size by omega)).trans (vb.mono (by have := h.size; omega)))
    exact Lib.hid (eval_any row A c 16 e 0 w3.heap.size V ⟨hg, hok.less (by omega), ((hin.less (by omega)).past hb (Nat.le_refl _)).wide (by have := h.size; omega)⟩
      ⟨(hl.past hb (Nat.le_refl _)).wide (by have := h.size; omega), hn, hr⟩ vo)
  have HE : evalE row e = if checkE e = 0 then (if chkRow row = 0 then (if (ev row 16 e 0).2 = 0 then ((ev row 16 e 0).1, 0) else (Vl.zero, (ev row 16 e 0).2)) else (Vl.zero, chkRow row)) else (Vl.zero, checkE e) := rfl
  have hgood := fun h => ((checkE_ok e).1 h).1
  generalize evalE row e = R at *
  generalize ev row 16 e 0 = q at *
  generalize checkE e = k at *
  generalize chkRow row = k2 at *
  have HF := Lib.hid (And.intro fb (And.intro fk fz))
  obtain ⟨⟨y0, y1, y2⟩, z0, z1, z2⟩ := zero_reads fz
  have hzi := fz.inside
  have Hs := Lib.hid hs
  clear hin hok hl fb fk fz hs hn hr
  unfold Lx.val Vl.val at *
  by_cases hk : k = 0
  case neg =>
    rw [if_neg hk] at HE
    subst HE
    have t1 : (k != 0) = true := by simpa using hk
    clear hk hgood hev hcr
    go_enter Try.func14, Try.ntmps14
    go_upto_region 1 with fail
    rw [← hW]
    have c6 := (lxAt_own HF.out.2.1).six
    simp only [Nat.zero_add] at c6
    obtain ⟨c0, c1, c2, c3, c4, c5⟩ := c6
    clear hW
    go_wp2_with fail
    refine hck.out.mono ?_
    rintro _ w2 ⟨rfl, b2⟩
    have B2 := Lib.hid b2
    have HZ2 := Lib.hid (HF.out.2.2.past b2 hzi)
    clear b2 y0 y1 y2 z0 z1 z2 c0 c1 c2 c3 c4 c5
    obtain ⟨⟨y0, y1, y2⟩, z0, z1, z2⟩ := zero_reads HZ2.out
    go_wp2_with fail
    obtain ⟨e0, e1, e2⟩ := (HZ2.out).stored3 (.bool false) (.int .i64 0) (.string ⟨#[]⟩)
    exact bodyPost_ret (v := .tuple #[.agg #[.bool false, .int .i64 0, .string ⟨#[]⟩], .int .i64 k]) (by simp [results, Try.results14, go_sem, e0, e1, e2]) rfl ⟨rfl, below_set3 (HF.out.1.trans (B2.out.mono (by have := Hs.out; omega))) (by omega) _ _ _⟩
  case pos =>
    subst hk
    rw [if_pos rfl] at HE
    by_cases hk2 : k2 = 0
    case neg =>
      rw [if_neg hk2] at HE
      subst HE
      have t2 : (k2 != 0) = true := by simpa using hk2
      clear hk2 hgood hev
      go_enter Try.func14, Try.ntmps14
      go_upto_region 1 with fail
      rw [← hW]
      have c6 := (lxAt_own HF.out.2.1).six
      simp only [Nat.zero_add] at c6
      obtain ⟨c0, c1, c2, c3, c4, c5⟩ := c6
      clear hW
      go_wp2_with fail
      refine hck.out.mono ?_
      rintro _ w2 ⟨rfl, b2⟩
      have B2 := Lib.hid b2
      have HZ2 := Lib.hid (HF.out.2.2.past b2 hzi)
      have HK2 := Lib.hid (HF.out.2.1.past b2 (by omega))
      clear b2 y0 y1 y2 z0 z1 z2 c0 c1 c2 c3 c4 c5
      obtain ⟨⟨y0, y1, y2⟩, z0, z1, z2⟩ := zero_reads HZ2.out
      go_wp2_with fail
      refine (hcr _ B2.out).out.mono ?_
      rintro _ w3 ⟨rfl, b3⟩
      have B3 := Lib.hid (belows B2.out b3)
      have HZ3 := Lib.hid (HZ2.out.past b3 HZ2.out.inside)
      clear b3 y0 y1 y2 z0 z1 z2
      obtain ⟨⟨y0, y1, y2⟩, z0, z1, z2⟩ := zero_reads HZ3.out
      go_wp2_with fail
      obtain ⟨e0, e1, e2⟩ := (HZ3.out).stored3 (.bool false) (.int .i64 0) (.string ⟨#[]⟩)
      exact bodyPost_ret (v := .tuple #[.agg #[.bool false, .int .i64 0, .string ⟨#[]⟩], .int .i64 k2]) (by simp [results, Try.results14, go_sem, e0, e1, e2]) rfl ⟨rfl, below_set3 (HF.out.1.trans (B3.out.mono (by have := Hs.out; omega))) (by omega) _ _ _⟩
    case pos =>
      subst hk2
      rw [if_pos rfl] at HE
      have hgd := hgood rfl
      go_enter Try.func14, Try.ntmps14
      go_upto_region 1 with fail
      rw [← hW]
      have c6 := (lxAt_own HF.out.2.1).six
      simp only [Nat.zero_add] at c6
      obtain ⟨c0, c1, c2, c3, c4, c5⟩ := c6
      clear hW
      go_wp2_with fail
      refine hck.out.mono ?_
      rintro _ w2 ⟨rfl, b2⟩
      have B2 := Lib.hid b2
      have HZ2 := Lib.hid (HF.out.2.2.past b2 hzi)
      have HK2 := Lib.hid (HF.out.2.1.past b2 (by omega))
      clear b2 y0 y1 y2 z0 z1 z2 c0 c1 c2 c3 c4 c5
      obtain ⟨⟨y0, y1, y2⟩, z0, z1, z2⟩ := zero_reads HZ2.out
      go_wp2_with fail
      refine (hcr _ B2.out).out.mono ?_
      rintro _ w3 ⟨rfl, b3⟩
      have B3 := Lib.hid (belows B2.out b3)
      have HZ3 := Lib.hid (HZ2.out.past b3 HZ2.out.inside)
      have HK3 := Lib.hid (HK2.out.past b3 HK2.out.inside)
      clear b3 y0 y1 y2 z0 z1 z2
      have c6 := (lxAt_own (HK3.out.more (.cells #[.int .i64 0, .slice A row.length c] 71))).six
      simp only [Nat.zero_add] at c6
      obtain ⟨c0, c1, c2, c3, c4, c5⟩ := c6
      have hev := hev w3 B3.out hgd
      go_wp2_with fail
      refine hev.out.mono ?_
      rintro _ w4 ⟨rfl, u4⟩
      have hz4 := u4.other (k := w.heap.size + 1) (by have := HZ3.out.inside; omega) (HZ3.out.more _)
      have hb4 : Below w.heap.size w w4 := ((HF.out.1.trans (B3.out.mono (by have := Hs.out; omega))).alloc (by have := HZ3.out.inside; omega) _).trans (u4.below (by have := HZ3.out.inside; omega) (by simp))
      have x0 := (u4.own.more (.cells #[.bool q.1.t, .int .i64 q.1.n, .string q.1.s] 24)).at_ 0
      have hv := Own.made w4 24 [.bool q.1.t, .int .i64 q.1.n, .string q.1.s]
      obtain ⟨V, hV⟩ : ∃ V, V = w4.alloc (.cells #[.bool q.1.t, .int .i64 q.1.n, .string q.1.s] 24) := ⟨_, rfl⟩
      have HZ4 := Lib.hid (hz4.more (.cells #[.bool q.1.t, .int .i64 q.1.n, .string q.1.s] 24))
      have B4 := Lib.hid (hb4.alloc hb4.size (.cells #[.bool q.1.t, .int .i64 q.1.n, .string q.1.s] 24))
      have HV := Lib.hid hv
      have hsz4 := hb4.size
      clear u4 hz4 hb4 c0 c1 c2 c3 c4 c5 hv
      simp only [evL, List.getElem?_cons_zero] at x0
      go_upto_region 9 with fail
      rw [← hV] at x0 HZ4 B4 ⊢
      rw [show w4.alloc (.cells [.bool q.1.t, .int .i64 q.1.n, .string q.1.s].toArray 24) = V from hV.symm] at HV
      clear hV
      obtain ⟨⟨y0, y1, y2⟩, z0, z1, z2⟩ := zero_reads HZ4.out
      have v0 := HV.out.at_ 0
      have v1 := HV.out.at_ 1
      have v2 := HV.out.at_ 2
      simp only [List.getElem?_cons_zero, List.getElem?_cons_succ] at v0 v1 v2
      by_cases hq : q.2 = 0
      case pos =>
        rw [if_pos hq] at HE
        subst HE
        have t3 : (q.2 != 0) = false := by simpa using hq
        clear hq
        go_wp2_with fail
        obtain ⟨e0, e1, e2⟩ := (HZ4.out).stored3 (.bool q.1.t) (.int .i64 q.1.n) (.string q.1.s)
        exact bodyPost_ret (v := .tuple #[.agg #[.bool q.1.t, .int .i64 q.1.n, .string q.1.s], .int .i64 0]) (by simp [results, Try.results14, go_sem, e0, e1, e2]) rfl ⟨rfl, below_set3 (B4.out) (by omega) _ _ _⟩
      case neg =>
        rw [if_neg hq] at HE
        subst HE
        have t3 : (q.2 != 0) = true := by simpa using hq
        clear hq
        go_wp2_with fail
        have hn1 : w3.heap.size ≠ w.heap.size + 1 := by have := HZ3.out.inside; omega
        have hn2 : w.heap.size + 1 ≠ w3.heap.size := by omega
        go_region_held3 (fun w' => w'.cell? ⟨w3.heap.size, 0, none⟩ = some (.int .i64 q.2)) (go_keep) (fail)
        all_goals
          go_wp2_with fail
          obtain ⟨e0, e1, e2⟩ := HZ4.out.stored3 (.bool false) (.int .i64 0) (.string ⟨#[]⟩)
          exact bodyPost_ret (v := .tuple #[.agg #[.bool false, .int .i64 0, .string ⟨#[]⟩], .int .i64 q.2]) (by simp [results, Try.results14, go_sem, e0, e1, e2]) rfl ⟨rfl, (below_set3 B4.out (by omega) _ _ _).drew⟩
end Go.Proofs.Ytjidjpmdmcleoaa
