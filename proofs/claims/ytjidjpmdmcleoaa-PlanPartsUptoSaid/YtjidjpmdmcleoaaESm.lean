/- Products, whole; rows of two and three numbers that were just made. -/
import Derived.Test.YtjidjpmdmcleoaaShelf
import Derived.Test.YtjidjpmdmcleoaaSmSum
import Derived.Test.YtjidjpmdmcleoaaSmTimes
namespace Go.Proofs.Ytjidjpmdmcleoaa
open Go Go.RowKit

theorem mul64_any (a b : Int) (W : World) : Calls Try.prog 68 #[.int .u64 (loW a), .int .u64 (loW b)] W fun e w' => e = .returned (.tuple #[.int .u64 (mulHi (loW a) (loW b)), .int .u64 (mulLo (loW a) (loW b))]) ∧ W = w' := by
  obtain ⟨a1, a2⟩ := loW_bound a
  obtain ⟨b1, b2⟩ := loW_bound b
  have h := Try.bits_Mul64 (loW a).toNat (loW b).toNat (by omega) (by omega) W
  have e1 : (((loW a).toNat * (loW b).toNat / 18446744073709551616 : Nat) : Int) = mulHi (loW a) (loW b) := by
    unfold mulHi; rw [Int.natCast_ediv, Int.natCast_mul, Int.toNat_of_nonneg a1, Int.toNat_of_nonneg b1]; rfl
  have e2 : (((loW a).toNat * (loW b).toNat % 18446744073709551616 : Nat) : Int) = mulLo (loW a) (loW b) := by
    unfold mulLo; rw [Int.natCast_emod, Int.natCast_mul, Int.toNat_of_nonneg a1, Int.toNat_of_nonneg b1]; rfl
  rw [e1, e2, Int.toNat_of_nonneg a1, Int.toNat_of_nonneg b1] at h
  exact h.mono fun e w' ⟨he, hw⟩ => ⟨he, hw.symm⟩
theorem dtimes_any (a b : Int) (w : World) (h1 : -9223372036854775808 ≤ a) (h2 : a ≤ 9223372036854775807) (h3 : -9223372036854775808 ≤ b) (h4 : b ≤ 9223372036854775807) :
    Calls Try.prog 57 #[.int .i64 a, .int .i64 b] w fun e w' => e = .returned (.tuple #[.int .i64 (fitN (a * b)), .int .i64 (fitE (a * b))]) ∧ Below w.heap.size w w' := times_any a b w h1 h2 h3 h4 (mul64_any a b)
theorem ints_three {w : World} (a b c : Int) : Ints (w.alloc (.cells #[.int .i64 a, .int .i64 b, .int .i64 c] 2)) (w.alloc (.cells #[.int .i64 a, .int .i64 b, .int .i64 c] 2)).heap.size (some ⟨w.heap.size, 0, none⟩) [a, b, c] := fun _ => by
  refine ⟨_, _, rfl, by simp, fun i x hx => ?_⟩
  match i, hx with
  | 0, hx => obtain rfl : a = x := by simpa using hx
             simp [go_sem]
  | 1, hx => obtain rfl : b = x := by simpa using hx
             simp [go_sem]
  | 2, hx => obtain rfl : c = x := by simpa using hx
             simp [go_sem]
theorem ints_two {w : World} (a b : Int) : Ints (w.alloc (.cells #[.int .i64 a, .int .i64 b] 2)) (w.alloc (.cells #[.int .i64 a, .int .i64 b] 2)).heap.size (some ⟨w.heap.size, 0, none⟩) [a, b] := fun _ => by
  refine ⟨_, _, rfl, by simp, fun i x hx => ?_⟩
  match i, hx with
  | 0, hx => obtain rfl : a = x := by simpa using hx
             simp [go_sem]
  | 1, hx => obtain rfl : b = x := by simpa using hx
             simp [go_sem]

end Go.Proofs.Ytjidjpmdmcleoaa
