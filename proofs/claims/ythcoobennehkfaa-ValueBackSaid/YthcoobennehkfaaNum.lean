/- pack.Number returns the bytes of a number. -/
import Derived.Test.YthcoobennehkfaaCount
namespace Go.Proofs.Ythcoobennehkfaa
open Go.RowKit

set_option maxRecDepth 100000 in
set_option maxHeartbeats 400000 in
theorem number_any (n : Int) (w : World) (h0 : -9223372036854775808 ≤ n) (h1 : n ≤ 9223372036854775807) :
    Calls Try.prog 46 #[.int .i64 n] w fun e w' => e = .returned (.string ⟨(enc (zig n)).toArray⟩) ∧ Below w.heap.size w w' := by
  by_cases hn : n < 0
  · have hz : zig n = (2 * (-1 - n) + 1).toNat := by unfold zig; rw [if_pos hn]
    rw [hz]; clear hz
    go_enter Try.func46, Try.ntmps46
    go_wp2_with fail
    refine (count_any _ _ (by omega) (by omega)).mono ?_
    rintro e w' ⟨rfl, hb⟩
    go_wp2_with fail
    go_ret
    exact ⟨rfl, hb⟩
  · have hz : zig n = (2 * n).toNat := by unfold zig; rw [if_neg hn]
    rw [hz]; clear hz
    go_enter Try.func46, Try.ntmps46
    go_wp2_with fail
    refine (count_any _ _ (by omega) (by omega)).mono ?_
    rintro e w' ⟨rfl, hb⟩
    go_wp2_with fail
    go_ret
    exact ⟨rfl, hb⟩

end Go.Proofs.Ythcoobennehkfaa
