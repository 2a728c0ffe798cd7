/- What Infer answers. -/
import Derived.Test.YtjidjpmdmcleoaaEInfC
namespace Go.Proofs.Ytjidjpmdmcleoaa
open Go Go.RowKit

/-- an expression's type for columns of some types, and what is told instead -/
def inferE (sch : List Int) (e : Lx) : Int × Int := if checkE e = 0 then (if (inf sch 16 e 0).2 = 0 then ((inf sch 16 e 0).1, 0) else (0, (inf sch 16 e 0).2)) else (0, checkE e)
theorem tybox (w : World) (u : Int) (A : Option Addr) (n c : Nat) : ∃ W, W = w.alloc (.cells #[.int .i64 u, .slice A n c] 66) ∧ Below w.heap.size w W ∧ W.heap.size = w.heap.size + 1 ∧ Own W w.heap.size 66 (evL u A n c) :=
  ⟨_, rfl, (Below.refl _ _).alloc (Nat.le_refl _) _, by simp, by have := Own.made w 66 (evL u A n c); simpa [evL] using this⟩
set_option maxRecDepth 100000 in
set_option maxHeartbeats 3200000 in
theorem inferE_any (e : Lx) (A : Option Addr) (c : Nat) (sch : List Int) (w : World) (hok : LxOk 17 e) (hin : LxIn w w.heap.size 17 e) (hl : Tys w w.heap.size A sch) (hn : sch.length ≤ maxLen) :
    Calls Try.prog 12 #[e.val, .slice A sch.length c] w fun x w' => x = .returned (.tuple #[.int .u8 (inferE sch e).1, .int .i64 (inferE sch e).2]) ∧ Below w.heap.size w w' := by
  obtain ⟨W, hW, fb, hs, fk⟩ := lxbox w e
  have hck := Lib.hid (check_any e W hok ((hin.past fb (Nat.le_refl _)).wide (by omega)))
  have hev : ∀ w3, Below W.heap.size W w3 → good 16 e = true → Hid (Calls Try.prog 25 #[.pointer (some ⟨w3.heap.size, 0, none⟩), e.val] (w3.alloc (.cells #[.int .i64 0, .slice A sch.length c] 66)) fun x w' =>
      x = .returned (.int .u8 (inf sch 16 e 0).1) ∧ Upd (w3.alloc (.cells #[.int .i64 0, .slice A sch.length c] 66)) w' w3.heap.size 66 (evL (inf sch 16 e 0).2 A sch.length c)) := fun w3 h hg => by
    obtain ⟨V, hV, vb, vs, vo⟩ := tybox w3 0 A sch.length c
    rw [← hV]
    have hb := fb.trans ((h.mono (show w.heap.size ≤ W.heap.size by omega)).trans (vb.mono (by have := h.size; omega)))
    exact Lib.hid (infer_any sch A c 16 e 0 w3.heap.size V ⟨hg, hok.less (by omega), ((hin.less (by omega)).past hb (Nat.le_refl _)).wide (by have := h.size; omega)⟩
      ⟨(hl.past hb (Nat.le_refl _)).wide (by have := h.size; omega), hn⟩ vo)
  have HE : inferE sch e = if checkE e = 0 then (if (inf sch 16 e 0).2 = 0 then ((inf sch 16 e 0).1, 0) else (0, (inf sch 16 e 0).2)) else (0, checkE e) := rfl
  have hgood := fun h => ((checkE_ok e).1 h).1
  generalize inferE sch e = R at *
  generalize inf sch 16 e 0 = q at *
  generalize checkE e = k at *
  have HF := Lib.hid (And.intro fb (And.intro fk hs))
  have hzi := fk.inside
  clear hin hok hl fb fk hs hn
  unfold Lx.val at *
  by_cases hk : k = 0
  case neg =>
    rw [if_neg hk] at HE
    subst HE
    have t1 : (k != 0) = true := by simpa using hk
    clear hk hgood hev
    go_enter Try.func12, Try.ntmps12
    go_upto_region 1 with fail
    rw [← hW]
    have c6 := (lxAt_own HF.out.2.1).six
    simp only [Nat.zero_add] at c6
    obtain ⟨c0, c1, c2, c3, c4, c5⟩ := c6
    clear hW
    go_wp2_with fail
    refine hck.out.mono ?_
    rintro _ w2 ⟨rfl, b2⟩
    have B2 := Lib.hid b2
    clear b2 c0 c1 c2 c3 c4 c5
    go_wp2_with fail
    go_ret2
    exact ⟨rfl, HF.out.1.trans (B2.out.mono (by have := HF.out.2.2; omega))⟩
  case pos =>
    subst hk
    rw [if_pos rfl] at HE
    have hgd := hgood rfl
    clear hgood
    go_enter Try.func12, Try.ntmps12
    go_upto_region 1 with fail
    rw [← hW]
    have c6 := (lxAt_own HF.out.2.1).six
    simp only [Nat.zero_add] at c6
    obtain ⟨c0, c1, c2, c3, c4, c5⟩ := c6
    clear hW
    go_wp2_with fail
    refine hck.out.mono ?_
    rintro _ w2 ⟨rfl, b2⟩
    have B2 := Lib.hid b2
    have HK2 := Lib.hid (HF.out.2.1.past b2 hzi)
    clear b2 c0 c1 c2 c3 c4 c5
    have c6 := (lxAt_own (HK2.out.more (.cells #[.int .i64 0, .slice A sch.length c] 66))).six
    simp only [Nat.zero_add] at c6
    obtain ⟨c0, c1, c2, c3, c4, c5⟩ := c6
    have hev := hev w2 B2.out hgd
    go_wp2_with fail
    refine hev.out.mono ?_
    rintro _ w4 ⟨rfl, u4⟩
    have hb4 : Below w.heap.size w w4 := ((HF.out.1.trans (B2.out.mono (by have := HF.out.2.2; omega))).alloc (by have := HK2.out.inside; omega) _).trans (u4.below (by have := HK2.out.inside; omega) (by simp))
    have x0 := u4.own.at_ 0
    have B4 := Lib.hid hb4
    clear u4 hb4 c0 c1 c2 c3 c4 c5
    simp only [evL, List.getElem?_cons_zero] at x0
    by_cases hq : q.2 = 0
    case pos =>
      rw [if_pos hq] at HE
      subst HE
      have t3 : (q.2 != 0) = false := by simpa using hq
      clear hq
      go_wp2_with fail
      go_ret2
      exact ⟨rfl, B4.out⟩
    case neg =>
      rw [if_neg hq] at HE
      subst HE
      have t3 : (q.2 != 0) = true := by simpa using hq
      clear hq
      go_wp2_with fail
      go_quiet (fail)
      go_wp2_with fail
      go_ret2
      exact ⟨rfl, below_draws B4.out _⟩
end Go.Proofs.Ytjidjpmdmcleoaa
