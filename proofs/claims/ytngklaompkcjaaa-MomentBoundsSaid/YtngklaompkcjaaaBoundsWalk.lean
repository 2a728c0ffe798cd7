/- The walk of the law on bounds. -/
import Derived.Test.YtngklaompkcjaaaBounds
namespace Go.Proofs.Ytngklaompkcjaaa
open Go Go.RowKit

set_option maxRecDepth 100000 in
set_option maxHeartbeats 1600000 in
theorem bounds_walk (A : Option Addr) (c : Nat) (l : List Tm) (w : World) (hl : Times w w.heap.size A l) (hc : l.length ≤ c) (hn : l.length * 24 ≤ 140737488351232) (hm : c ≤ maxLen) :
    Calls Try.prog 4 #[.slice A l.length c] w fun e w' => e = .returned (.bool true) ∧ Below w.heap.size w w' := by
  have a1 := fun W h => Lib.hid (lub_any A c l W h hc hm)
  have a2 := fun W h => Lib.hid (refLub_any A c l W h (by unfold maxLen; omega))
  have a3 := fun W h => Lib.hid (glb_any A c l W h hc hm)
  have a4 := fun W h => Lib.hid (refGlb_any A c l W h (by unfold maxLen; omega))
  have eself : ∀ t : Tm, eqT t t = true := fun t => eqT_iff.2 rfl
  have q1 := fun W => eql_time (lub l) (lub l) W
  have q2 := fun W => eql_time (glb l) (glb l) W
  simp only [eself] at q1 q2
  have hgd := fun (x1 y1 : Operand) (xs ys : Array Value) (w : World) => grd_time .eql x1 y1 xs ys w
  clear eself
  generalize lub l = u at *
  generalize glb l = d at *
  unfold Tm.val at a1 a2 a3 a4 q1 q2
  have Hl := Lib.hid hl
  clear hl hm
  go_enter Try.func4, Try.ntmps4
  go_wp2_with fail
  refine (bounds_true _).mono ?_
  rintro e w1 ⟨rfl, b1⟩
  go_wp2_with fail
  refine (a1 _ (times_keep Hl.out b1)).out.mono ?_
  rintro e w2 ⟨rfl, b2⟩
  go_wp2_with fail
  refine (a2 _ (times_keep Hl.out (belows b1 b2))).out.mono ?_
  rintro e w3 ⟨rfl, b3⟩
  go_wp2_with fail
  refine (a3 _ (times_keep Hl.out (belows b1 (belows b2 b3)))).out.mono ?_
  rintro e w4 ⟨rfl, b4⟩
  go_wp2_with fail
  refine (a4 _ (times_keep Hl.out (belows b1 (belows b2 (belows b3 b4))))).out.mono ?_
  rintro e w5 ⟨rfl, b5⟩
  go_wp2_with fail
  go_ret
  exact ⟨rfl, belows b1 (belows b2 (belows b3 (belows b4 b5)))⟩
end Go.Proofs.Ytngklaompkcjaaa
