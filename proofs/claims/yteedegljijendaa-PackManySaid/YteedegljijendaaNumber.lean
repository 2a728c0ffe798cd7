/- pack.Number returns the bytes of a number; the law's two first questions hold. -/
import Derived.Test.YteedegljijendaaCount
namespace Go.Proofs.Yteedegljijendaa
open Go.RowKit

set_option maxRecDepth 100000 in
set_option maxHeartbeats 400000 in
theorem number_any (n : Int) (w : World) (h0 : -9223372036854775808 ≤ n) (h1 : n ≤ 9223372036854775807) :
    Calls Try.prog 19 #[.int .i64 n] w fun e w' => e = .returned (.string ⟨(enc (zig n)).toArray⟩) ∧ Below w.heap.size w w' := by
  by_cases hn : n < 0
  · have hz : zig n = (2 * (-1 - n) + 1).toNat := by unfold zig; rw [if_pos hn]
    rw [hz]; clear hz
    go_enter Try.func19, Try.ntmps19
    go_wp2_with fail
    refine (count_any _ _ (by omega) (by omega)).mono ?_
    rintro e w' ⟨rfl, hb⟩
    go_wp2_with fail
    go_ret
    exact ⟨rfl, hb⟩
  · have hz : zig n = (2 * n).toNat := by unfold zig; rw [if_neg hn]
    rw [hz]; clear hz
    go_enter Try.func19, Try.ntmps19
    go_wp2_with fail
    refine (count_any _ _ (by omega) (by omega)).mono ?_
    rintro e w' ⟨rfl, hb⟩
    go_wp2_with fail
    go_ret
    exact ⟨rfl, hb⟩

theorem ret_bool {a b : Bool} (h : a = b) : Ending.returned (.bool a) = .returned (.bool b) := by rw [h]

theorem count_300 (w : World) : Calls Try.prog 17 #[.int .u64 300] w fun e w' => e = .returned (.string ⟨#[172, 2]⟩) ∧ Below w.heap.size w w' :=
  (count_any 300 w (by omega) (by omega)).mono fun e w' ⟨he, hb⟩ => ⟨by rw [he]; show Ending.returned (.string ⟨(enc 300).toArray⟩) = _; rw [enc_300], hb⟩
theorem number_m1 (w : World) : Calls Try.prog 19 #[.int .i64 (-1)] w fun e w' => e = .returned (.string ⟨#[1]⟩) ∧ Below w.heap.size w w' :=
  (number_any (-1) w (by omega) (by omega)).mono fun e w' ⟨he, hb⟩ => ⟨by rw [he]; show Ending.returned (.string ⟨(enc 1).toArray⟩) = _; rw [enc_1], hb⟩

set_option maxHeartbeats 400000 in
theorem counts_true (w : World) : Calls Try.prog 16 #[] w fun e w' => e = .returned (.bool true) ∧ Below w.heap.size w w' := by
  go_enter Try.func16, Try.ntmps16
  go_wp2_with fail
  refine (count_300 _).mono ?_
  rintro e w1 ⟨rfl, hb1⟩
  go_wp2_with fail
  refine (number_m1 _).mono ?_
  rintro e w2 ⟨rfl, hb2⟩
  go_wp2_with fail
  go_ret
  exact ⟨rfl, hb1.trans (hb2.mono hb1.size)⟩
end Go.Proofs.Yteedegljijendaa
