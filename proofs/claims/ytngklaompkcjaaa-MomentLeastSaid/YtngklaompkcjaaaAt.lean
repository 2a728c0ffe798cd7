/- A time made of its parts; what the law asks of the orders at fixed times. -/
import Derived.Test.YtngklaompkcjaaaAhead
import Derived.Test.YtngklaompkcjaaaCompare
import Derived.Test.YtngklaompkcjaaaBound
namespace Go.Proofs.Ytngklaompkcjaaa
open Go Go.RowKit
attribute [local go_sem ↓] Go.wp_at_zero Go.wp_at_succ

set_option maxRecDepth 100000 in
set_option maxHeartbeats 400000 in
theorem at_any (a b c : Nat) (w : World) :
    Calls Try.prog 33 #[.int .u64 (a : Int), .int .u64 (b : Int), .int .u64 (c : Int)] w fun e w' => e = .returned (Tm.mk a b c).val ∧ Below w.heap.size w w' := by
  unfold Tm.val
  go_enter Try.func33, Try.ntmps33
  go_wp2_with fail
  refine bodyPost_ret (v := .agg #[.int .u64 (a : Int), .int .u64 (b : Int), .int .u64 (c : Int)]) (by simp [results, Try.results33, go_sem]) rfl ⟨rfl, (Below.refl _ _).alloc (Nat.le_refl _) _⟩

set_option maxRecDepth 100000 in
set_option maxHeartbeats 1600000 in
theorem orders_true (w : World) : Calls Try.prog 13 #[] w fun e w' => e = .returned (.bool true) ∧ Below w.heap.size w w' := by
  have k1 := fun W => Lib.hid (at_any 1 0 2 W)
  have k2 := fun W => Lib.hid (at_any 1 1 2 W)
  have k3 := fun W => Lib.hid (at_any 2 0 1 W)
  have a1 := fun W => Lib.hid (show Calls _ _ _ _ fun e w' => e = .returned (.bool true) ∧ _ from ahead_any ⟨1, 0, 2⟩ ⟨1, 1, 2⟩ W)
  have a2 := fun W => Lib.hid (show Calls _ _ _ _ fun e w' => e = .returned (.bool false) ∧ _ from ahead_any ⟨1, 0, 2⟩ ⟨2, 0, 1⟩ W)
  have a3 := fun W => Lib.hid (show Calls _ _ _ _ fun e w' => e = .returned (.int .i64 (-1)) ∧ _ from compare_any ⟨1, 0, 2⟩ ⟨2, 0, 1⟩ W)
  unfold Tm.val at k1 k2 k3 a1 a2 a3
  go_enter Try.func13, Try.ntmps13
  go_wp2_with fail
  refine (k1 _).out.mono ?_
  rintro e w1 ⟨rfl, b1⟩
  go_wp2_with fail
  refine (k2 _).out.mono ?_
  rintro e w2 ⟨rfl, b2⟩
  go_wp2_with fail
  refine (a1 _).out.mono ?_
  rintro e w3 ⟨rfl, b3⟩
  go_wp2_with fail
  refine (k1 _).out.mono ?_
  rintro e w4 ⟨rfl, b4⟩
  go_wp2_with fail
  refine (k3 _).out.mono ?_
  rintro e w5 ⟨rfl, b5⟩
  go_wp2_with fail
  refine (a2 _).out.mono ?_
  rintro e w6 ⟨rfl, b6⟩
  go_wp2_with fail
  refine (k1 _).out.mono ?_
  rintro e w7 ⟨rfl, b7⟩
  go_wp2_with fail
  refine (k3 _).out.mono ?_
  rintro e w8 ⟨rfl, b8⟩
  go_wp2_with fail
  refine (a3 _).out.mono ?_
  rintro e w9 ⟨rfl, b9⟩
  go_wp2_with fail
  go_ret
  exact ⟨rfl, belows b1 (belows b2 (belows b3 (belows b4 (belows b5 (belows b6 (belows b7 (belows b8 b9)))))))⟩
end Go.Proofs.Ytngklaompkcjaaa
