/- What the law asks of bounds at fixed times. -/
import Derived.Test.YtngklaompkcjaaaAt
import Derived.Test.YtngklaompkcjaaaAdvance
namespace Go.Proofs.Ytngklaompkcjaaa
open Go Go.RowKit

set_option maxRecDepth 100000 in
set_option maxHeartbeats 1600000 in
theorem bounds_true (w : World) : Calls Try.prog 20 #[] w fun e w' => e = .returned (.bool true) ∧ Below w.heap.size w w' := by
  have k1 := fun W => Lib.hid (at_any 1 0 2 W)
  have k3 := fun W => Lib.hid (at_any 2 0 1 W)
  have k2 := fun W => Lib.hid (at_any 2 0 2 W)
  have k4 := fun W => Lib.hid (at_any 1 0 1 W)
  have q1 : ∀ W, (binOp .eql 25 (.agg #[.int .u64 2, .int .u64 0, .int .u64 2]) (.agg #[.int .u64 2, .int .u64 0, .int .u64 2])).run Try.prog W = .ok (.bool true) W := fun W => eql_time (Tm.mk 2 0 2) (Tm.mk 2 0 2) W
  have q2 : ∀ W, (binOp .eql 25 (.agg #[.int .u64 1, .int .u64 0, .int .u64 1]) (.agg #[.int .u64 1, .int .u64 0, .int .u64 1])).run Try.prog W = .ok (.bool true) W := fun W => eql_time (Tm.mk 1 0 1) (Tm.mk 1 0 1) W
  have hgd := fun (x1 y1 : Operand) (xs ys : Array Value) (w : World) => grd_time .eql x1 y1 xs ys w
  have a1 := fun A W h => Lib.hid (show Calls _ _ _ _ fun e w' => e = .returned (Tm.mk 2 0 2).val ∧ _ from lub_any A 2 [⟨1, 0, 2⟩, ⟨2, 0, 1⟩] W h (by simp) (by unfold maxLen; omega))
  have a2 := fun A W h => Lib.hid (show Calls _ _ _ _ fun e w' => e = .returned (Tm.mk 1 0 1).val ∧ _ from glb_any A 2 [⟨1, 0, 2⟩, ⟨2, 0, 1⟩] W h (by simp) (by unfold maxLen; omega))
  unfold Tm.val at k1 k2 k3 k4 a1 a2
  go_enter Try.func20, Try.ntmps20
  go_wp2_with fail
  refine (k1 _).out.mono ?_
  rintro e w1 ⟨rfl, b1⟩
  go_wp2_with fail
  refine (k3 _).out.mono ?_
  rintro e w2 ⟨rfl, b2⟩
  go_wp2_with fail
  refine (a1 _ _ ((times_two _ _ _).wide (by simp))).out.mono ?_
  rintro e w3 ⟨rfl, b3⟩
  go_wp2_with fail
  refine (k2 _).out.mono ?_
  rintro e w4 ⟨rfl, b4⟩
  go_wp2_with fail
  refine (k1 _).out.mono ?_
  rintro e w5 ⟨rfl, b5⟩
  go_wp2_with fail
  refine (k3 _).out.mono ?_
  rintro e w6 ⟨rfl, b6⟩
  go_wp2_with fail
  refine (a2 _ _ ((times_two _ _ _).wide (by simp))).out.mono ?_
  rintro e w7 ⟨rfl, b7⟩
  go_wp2_with fail
  refine (k4 _).out.mono ?_
  rintro e w8 ⟨rfl, b8⟩
  go_wp2_with fail
  go_ret
  have c3 := below_then ((Below.refl _ _).alloc (Nat.le_refl _) _) (by simp) b3
  have c7 := below_then ((Below.refl _ _).alloc (Nat.le_refl _) _) (by simp) b7
  exact ⟨rfl, belows b1 (belows b2 (belows c3 (belows b4 (belows b5 (belows b6 (belows c7 b8))))))⟩
end Go.Proofs.Ytngklaompkcjaaa
