/- A time made of its parts. -/
import Derived.Test.YtdbdjojgccbfcaaAhead
import Derived.Test.YtdbdjojgccbfcaaCompare
import Derived.Test.YtdbdjojgccbfcaaBound
namespace Go.Proofs.Ytdbdjojgccbfcaa
open Go Go.RowKit
attribute [local go_sem ↓] Go.wp_at_zero Go.wp_at_succ

set_option maxRecDepth 100000 in
set_option maxHeartbeats 400000 in
theorem at_any (a b c : Nat) (w : World) :
    Calls Try.prog 13 #[.int .u64 (a : Int), .int .u64 (b : Int), .int .u64 (c : Int)] w fun e w' => e = .returned (Tm.mk a b c).val ∧ Below w.heap.size w w' := by
  unfold Tm.val
  go_enter Try.func13, Try.ntmps13
  go_wp2_with fail
  refine bodyPost_ret (v := .agg #[.int .u64 (a : Int), .int .u64 (b : Int), .int .u64 (c : Int)]) (by simp [results, Try.results13, go_sem]) rfl ⟨rfl, (Below.refl _ _).alloc (Nat.le_refl _) _⟩

end Go.Proofs.Ytdbdjojgccbfcaa
