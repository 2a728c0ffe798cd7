/- What the laws on sums ask at fixed numbers. -/
import Derived.Test.YtblcoknalailjaaShelf
import Derived.Test.YtblcoknalailjaaSmSum
import Derived.Test.YtblcoknalailjaaSmTimes
namespace Go.Proofs.Ytblcoknalailjaa
open Go Go.RowKit

theorem mul64_any (a b : Int) (W : World) : Calls Try.prog 15 #[.int .u64 (loW a), .int .u64 (loW b)] W fun e w' => e = .returned (.tuple #[.int .u64 (mulHi (loW a) (loW b)), .int .u64 (mulLo (loW a) (loW b))]) ∧ W = w' := by
  obtain ⟨a1, a2⟩ := loW_bound a
  obtain ⟨b1, b2⟩ := loW_bound b
  have h := Try.bits_Mul64 (loW a).toNat (loW b).toNat (by omega) (by omega) W
  have e1 : (((loW a).toNat * (loW b).toNat / 18446744073709551616 : Nat) : Int) = mulHi (loW a) (loW b) := by
    unfold mulHi; rw [Int.natCast_ediv, Int.natCast_mul, Int.toNat_of_nonneg a1, Int.toNat_of_nonneg b1]; rfl
  have e2 : (((loW a).toNat * (loW b).toNat % 18446744073709551616 : Nat) : Int) = mulLo (loW a) (loW b) := by
    unfold mulLo; rw [Int.natCast_emod, Int.natCast_mul, Int.toNat_of_nonneg a1, Int.toNat_of_nonneg b1]; rfl
  rw [e1, e2, Int.toNat_of_nonneg a1, Int.toNat_of_nonneg b1] at h
  exact h.mono fun e w' ⟨he, hw⟩ => ⟨he, hw.symm⟩
theorem dtimes_any (a b : Int) (w : World) (h1 : -9223372036854775808 ≤ a) (h2 : a ≤ 9223372036854775807) (h3 : -9223372036854775808 ≤ b) (h4 : b ≤ 9223372036854775807) :
    Calls Try.prog 7 #[.int .i64 a, .int .i64 b] w fun e w' => e = .returned (.tuple #[.int .i64 (fitN (a * b)), .int .i64 (fitE (a * b))]) ∧ Below w.heap.size w w' := times_any a b w h1 h2 h3 h4 (mul64_any a b)
theorem ints_three {w : World} (a b c : Int) : Ints (w.alloc (.cells #[.int .i64 a, .int .i64 b, .int .i64 c] 2)) (w.alloc (.cells #[.int .i64 a, .int .i64 b, .int .i64 c] 2)).heap.size (some ⟨w.heap.size, 0, none⟩) [a, b, c] := fun _ => by
  refine ⟨_, _, rfl, by simp, fun i x hx => ?_⟩
  match i, hx with
  | 0, hx => obtain rfl : a = x := by simpa using hx
             simp [go_sem]
  | 1, hx => obtain rfl : b = x := by simpa using hx
             simp [go_sem]
  | 2, hx => obtain rfl : c = x := by simpa using hx
             simp [go_sem]
theorem ints_two {w : World} (a b : Int) : Ints (w.alloc (.cells #[.int .i64 a, .int .i64 b] 2)) (w.alloc (.cells #[.int .i64 a, .int .i64 b] 2)).heap.size (some ⟨w.heap.size, 0, none⟩) [a, b] := fun _ => by
  refine ⟨_, _, rfl, by simp, fun i x hx => ?_⟩
  match i, hx with
  | 0, hx => obtain rfl : a = x := by simpa using hx
             simp [go_sem]
  | 1, hx => obtain rfl : b = x := by simpa using hx
             simp [go_sem]

set_option maxRecDepth 100000 in
set_option maxHeartbeats 1600000 in
theorem sums_true (w : World) : Calls Try.prog 9 #[] w fun e w' => e = .returned (.bool true) ∧ Below w.heap.size w w' := by
  have y1 : ∀ A W, Ints W W.heap.size A [9223372036854775807, 1, -1] → Hid (Calls Try.prog 5 #[.slice A 3 3] W fun e w' => e = .returned (.tuple #[.int .i64 9223372036854775807, .int .i64 0]) ∧ Below W.heap.size W w') :=
    fun A W h => Lib.hid (sum_any A 3 [9223372036854775807, 1, -1] W h (by unfold maxLen; simp) (by unfold Fit64; decide))
  have y2 : ∀ A W, Ints W W.heap.size A [9223372036854775807, 1] → Hid (Calls Try.prog 5 #[.slice A 2 2] W fun e w' => e = .returned (.tuple #[.int .i64 0, .int .i64 10]) ∧ Below W.heap.size W w') :=
    fun A W h => Lib.hid (sum_any A 2 [9223372036854775807, 1] W h (by unfold maxLen; simp) (by unfold Fit64; decide))
  have y3 : ∀ W, Hid (Calls Try.prog 7 #[.int .i64 (-3), .int .i64 4] W fun e w' => e = .returned (.tuple #[.int .i64 (-12), .int .i64 0]) ∧ Below W.heap.size W w') :=
    fun W => Lib.hid (dtimes_any (-3) 4 W (by decide) (by decide) (by decide) (by decide))
  have y4 : ∀ W, Hid (Calls Try.prog 7 #[.int .i64 (-9223372036854775808), .int .i64 (-1)] W fun e w' => e = .returned (.tuple #[.int .i64 0, .int .i64 10]) ∧ Below W.heap.size W w') :=
    fun W => Lib.hid (dtimes_any (-9223372036854775808) (-1) W (by decide) (by decide) (by decide) (by decide))
  go_enter Try.func9, Try.ntmps9
  go_wp2_with fail
  refine (y1 _ _ (ints_three _ _ _)).out.mono ?_
  rintro e w1 ⟨rfl, b1⟩
  have B1 := Lib.hid (below_then ((Below.refl _ _).alloc (Nat.le_refl _) _) (by simp) b1)
  clear b1
  go_wp2_with fail
  refine (y2 _ _ (ints_two _ _)).out.mono ?_
  rintro e w2 ⟨rfl, b2⟩
  have B2 := Lib.hid (below_then ((Below.refl _ _).alloc (Nat.le_refl _) _) (by simp) b2)
  clear b2
  go_wp2_with fail
  refine (y3 _).out.mono ?_
  rintro e w3 ⟨rfl, b3⟩
  have B3 := Lib.hid b3
  clear b3
  go_wp2_with fail
  refine (y4 _).out.mono ?_
  rintro e w4 ⟨rfl, b4⟩
  have B4 := Lib.hid b4
  clear b4
  go_wp2_with fail
  go_ret
  exact ⟨rfl, belows B1.out (belows B2.out (belows B3.out B4.out))⟩
end Go.Proofs.Ytblcoknalailjaa
