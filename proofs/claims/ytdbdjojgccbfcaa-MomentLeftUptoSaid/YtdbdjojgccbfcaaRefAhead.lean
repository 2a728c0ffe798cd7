/- The reference's Ahead is the order of times, in each part. -/
import Derived.Test.YtdbdjojgccbfcaaEach
import Derived.Test.YtdbdjojgccbfcaaEql
import Derived.BigQuiet
import Derived.Handy
namespace Go.Proofs.Ytdbdjojgccbfcaa
open Go Go.RowKit

set_option maxRecDepth 100000 in
set_option maxHeartbeats 800000 in
theorem refAhead_any (s t : Tm) (w : World) :
    Calls Try.prog 17 #[s.val, t.val] w fun e w' => e = .returned (.bool (s.le t)) ∧ Below w.heap.size w w' := by
  obtain ⟨a, b, c⟩ := s
  obtain ⟨x, y, z⟩ := t
  unfold Tm.val Tm.le
  dsimp only
  have i0 : ∀ w, (Instr.index 24 (.agg #[.int .u64 (b : Int), .int .u64 (c : Int)]) (.int .i64 0)).run Try.prog w = .ok (.int .u64 (b : Int)) w := fun _ => by kernel_rfl
  have i1 : ∀ w, (Instr.index 24 (.agg #[.int .u64 (b : Int), .int .u64 (c : Int)]) (.int .i64 1)).run Try.prog w = .ok (.int .u64 (c : Int)) w := fun _ => by kernel_rfl
  have hB := fun (o1 o2 : Obj) => (((Below.refl w.heap.size w).alloc (Nat.le_refl _) o1).alloc (by simp) o2)
  have HB := Lib.hid hB
  clear hB
  go_enter Try.func17, Try.ntmps17
  go_wp2_with fail
  go_rounds 3
  all_goals
    go_ret
    refine ⟨ret_bool ?_, HB.out _ _⟩
    rw [Bool.eq_iff_iff]; simp only [Bool.and_eq_true, decide_eq_true_eq, Bool.false_eq_true, true_iff, false_iff, iff_true, iff_false]; omega
end Go.Proofs.Ytdbdjojgccbfcaa
