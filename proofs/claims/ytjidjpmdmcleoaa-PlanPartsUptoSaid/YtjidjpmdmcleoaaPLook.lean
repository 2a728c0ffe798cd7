/- The program's look at a plan and at those in it. -/
import Derived.Test.YtjidjpmdmcleoaaPFits
import Derived.Test.YtjidjpmdmcleoaaEChk
namespace Go.Proofs.Ytjidjpmdmcleoaa
open Go Go.RowKit

/-- what the block of one that looks at plans holds -/
def ftL (s : Ft) : List Value := [.int .i64 s.why, .int .i64 s.nodes, .int .i64 s.depth, .int .i64 s.loops, .bool s.long]
set_option maxRecDepth 100000 in
set_option maxHeartbeats 3200000 in
theorem lookExpr_any (e : Lx) (s : Ft) (g : Nat) (w : World) (hok : LxOk 17 e) (hin : LxIn w g 17 e) (ho : Own w g 87 (ftL s)) :
    Calls Try.prog 63 #[.pointer (some ⟨g, 0, none⟩), e.val] w fun x w' => x = .returned (.tuple #[]) ∧ Upd w w' g 87 (ftL (lookX s e)) := by
  have hg := ho.inside
  obtain ⟨W, hW, fb, hs, fk⟩ := lxbox w e
  have hck := Lib.hid (check_any e W hok ((hin.wide (show g ≤ w.heap.size by omega)).past fb (Nat.le_refl _) |>.wide (by omega)))
  have hU := Upd.after fb (Upd.same (ho.past fb hg))
  have HU := Lib.hid hU
  have hsix := (lxAt_own fk).six
  simp only [Nat.zero_add] at hsix
  obtain ⟨a0, a1, a2, a3, a4, a5⟩ := hsix
  have HX := Lib.hid (show lookX s e = if checkE e = 0 then s else if checkE e = 2 then ⟨s.why, s.nodes, s.depth, s.loops, true⟩ else ⟨fl s.why 4, s.nodes, s.depth, s.loops, s.long⟩ from rfl)
  have hgW : g < W.heap.size := by omega
  generalize checkE e = K at *
  unfold Lx.val at *
  clear hU ho hin hok fb hs fk
  go_enter Try.func63, Try.ntmps63
  go_upto_region 1 with fail
  rw [← hW]
  clear hW
  go_wp2_with fail
  refine hck.out.mono ?_
  rintro _ w2 ⟨rfl, b2⟩
  have H2 := Lib.hid (HU.out.quiet b2)
  have f4 := H2.out.own.open_ 4
  have c4 := H2.out.own.at_ 4
  simp only [ftL, List.getElem?_cons_zero, List.getElem?_cons_succ] at c4
  clear b2 hck HU a0 a1 a2 a3 a4 a5
  by_cases h0 : K = 0
  · subst h0
    have HY := Lib.hid (HX.out.trans (if_pos rfl))
    clear HX
    go_wp2_with fail
    exact bodyPost_end (results_none rfl _ _ _) rfl ⟨rfl, H2.out.as (by rw [HY.out])⟩
  · have HZ := Lib.hid (HX.out.trans (if_neg h0))
    clear HX
    have t0 : (K == 0) = false := by simpa using h0
    by_cases h2 : K = 2
    · subst h2
      have HY := Lib.hid (HZ.out.trans (if_pos rfl))
      clear h0 HZ
      go_wp2_with fail
      exact bodyPost_end (results_none rfl _ _ _) rfl ⟨rfl, (H2.out.set_ 4 _).as (by rw [HY.out]; rfl)⟩
    · have HY := Lib.hid (HZ.out.trans (if_neg h2))
      clear HZ
      have t2 : (K == 2) = false := by simpa using h2
      clear h0 h2
      go_wp2_with fail
      refine (fail_any g _ _ 4 _ _ H2.out.own).mono ?_
      rintro _ w3 ⟨rfl, u3⟩
      have U3 := Lib.hid (H2.out.trans u3)
      clear u3
      go_wp2_with fail
      exact bodyPost_end (results_none rfl _ _ _) rfl ⟨rfl, U3.out.as (by rw [HY.out]; rfl)⟩
end Go.Proofs.Ytjidjpmdmcleoaa
