/- Times, by the program. -/
import Derived.Test.YtjidjpmdmcleoaaSmAdd
import Derived.Test.YtjidjpmdmcleoaaTail
namespace Go.Proofs.Ytjidjpmdmcleoaa
open Go Go.RowKit

/-- the product of two words, as two words -/
def mulHi (x y : Int) : Int := x * y / 18446744073709551616
def mulLo (x y : Int) : Int := x * y % 18446744073709551616
theorem hi_neg (n : Int) (h1 : -9223372036854775808 ≤ n) (h2 : n < 0) : hiW n = 18446744073709551615 := by unfold hiW; omega
theorem hi_pos (n : Int) (h1 : 0 ≤ n) (h2 : n ≤ 9223372036854775807) : hiW n = 0 := by unfold hiW; omega
theorem and_all (y : Int) (h0 : 0 ≤ y) (h1 : y < 18446744073709551616) : bits BinOp.and IntKind.u64 18446744073709551615 y = y := by
  have h := bits_and_u64_nat 18446744073709551615 y.toNat (by omega) (by omega)
  rw [Nat.and_comm, show (18446744073709551615 : Nat) = 2 ^ 64 - 1 from rfl, Nat.and_two_pow_sub_one_eq_mod, Int.toNat_of_nonneg h0] at h
  exact h.trans (by omega)
theorem and_none (y : Int) (h0 : 0 ≤ y) (h1 : y < 18446744073709551616) : bits BinOp.and IntKind.u64 0 y = 0 := by
  have h := bits_and_u64_nat 0 y.toNat (by omega) (by omega)
  rw [Nat.zero_and, Int.toNat_of_nonneg h0] at h
  exact h
theorem and_hi (n y : Int) (h1 : -9223372036854775808 ≤ n) (h2 : n ≤ 9223372036854775807) (h3 : 0 ≤ y) (h4 : y < 18446744073709551616) : bits BinOp.and IntKind.u64 (hiW n) y = if n < 0 then y else 0 := by
  split
  · rw [hi_neg n h1 (by assumption), and_all y h3 h4]
  · rw [hi_pos n (by omega) h2, and_none y h3 h4]
theorem lo_case (n : Int) (h1 : -9223372036854775808 ≤ n) (h2 : n ≤ 9223372036854775807) : loW n = if n < 0 then n + 18446744073709551616 else n := by unfold loW; split <;> omega
theorem mul_lo (a b : Int) (h1 : -9223372036854775808 ≤ a) (h2 : a ≤ 9223372036854775807) (h3 : -9223372036854775808 ≤ b) (h4 : b ≤ 9223372036854775807) : mulLo (loW a) (loW b) = loW (a * b) := by
  unfold mulLo
  show loW a * loW b % 18446744073709551616 = (a * b) % 18446744073709551616
  unfold loW
  rw [← Int.mul_emod]
theorem mul_hi (a b : Int) (h1 : -9223372036854775808 ≤ a) (h2 : a ≤ 9223372036854775807) (h3 : -9223372036854775808 ≤ b) (h4 : b ≤ 9223372036854775807) :
    IntKind.u64.wrap (mulHi (loW a) (loW b) - IntKind.u64.wrap (bits BinOp.and IntKind.u64 (hiW a) (loW b) + bits BinOp.and IntKind.u64 (hiW b) (loW a))) = hiW (a * b) := by
  obtain ⟨a1, a2⟩ := loW_bound a
  obtain ⟨b1, b2⟩ := loW_bound b
  rw [and_hi a _ h1 h2 b1 b2, and_hi b _ h3 h4 a1 a2, wrapU, wrapU]
  clear a1 a2 b1 b2
  unfold mulHi hiW
  rw [lo_case a h1 h2, lo_case b h3 h4]
  by_cases ha : a < 0 <;> by_cases hb : b < 0 <;> simp only [ha, hb, if_true, if_false]
  · rw [Int.add_mul, Int.mul_add, Int.mul_add]; generalize a * b = Q at *; omega
  · rw [Int.add_mul]; generalize a * b = Q at *; omega
  · rw [Int.mul_add]; generalize a * b = Q at *; omega
  · generalize a * b = Q at *; omega
theorem mul_bound (a b : Int) (h1 : -9223372036854775808 ≤ a) (h2 : a ≤ 9223372036854775807) (h3 : -9223372036854775808 ≤ b) (h4 : b ≤ 9223372036854775807) : -170141183460469231731687303715884105728 ≤ a * b ∧ a * b < 170141183460469231731687303715884105728 := by
  have h := Int.natAbs_mul a b
  have k := Nat.mul_le_mul (show a.natAbs ≤ 9223372036854775808 by omega) (show b.natAbs ≤ 9223372036854775808 by omega)
  rw [← h] at k
  generalize a * b = Q at *
  omega

set_option maxRecDepth 100000 in
set_option maxHeartbeats 1600000 in
theorem times_any (a b : Int) (w : World) (h1 : -9223372036854775808 ≤ a) (h2 : a ≤ 9223372036854775807) (h3 : -9223372036854775808 ≤ b) (h4 : b ≤ 9223372036854775807)
    (hmul : ∀ W, Calls Try.prog 68 #[.int .u64 (loW a), .int .u64 (loW b)] W fun e w' => e = .returned (.tuple #[.int .u64 (mulHi (loW a) (loW b)), .int .u64 (mulLo (loW a) (loW b))]) ∧ W = w') :
    Calls Try.prog 57 #[.int .i64 a, .int .i64 b] w fun e w' => e = .returned (.tuple #[.int .i64 (fitN (a * b)), .int .i64 (fitE (a * b))]) ∧ Below w.heap.size w w' := by
  have ea : IntKind.u64.wrap a = loW a := by rw [wrapU]; rfl
  have eb : IntKind.u64.wrap b = loW b := by rw [wrapU]; rfl
  rw [mul_lo a b h1 h2 h3 h4] at hmul
  have hmul := fun W => Lib.hid (hmul W)
  have hnum := Lib.hid (fun W => number_any (a * b) W (mul_bound a b h1 h2 h3 h4).1 (mul_bound a b h1 h2 h3 h4).2)
  have oa := fun W => Lib.hid (of_any a W h1 h2)
  have ob := fun W => Lib.hid (of_any b W h3 h4)
  have hfd : ∀ (x y : Int) (W : World), (Instr.field 130 (.agg #[.int .u64 x, .int .u64 y]) 0).run Try.prog W = .ok (.int .u64 x) W := fun _ _ _ => by kernel_rfl
  have hhi := mul_hi a b h1 h2 h3 h4
  generalize a * b = Q at *
  generalize mulHi (loW a) (loW b) = M at *
  clear h1 h2 h3 h4
  go_enter Try.func57, Try.ntmps57
  go_wp2_with fail
  refine (hmul _).out.mono ?_
  rintro e w1 ⟨rfl, rfl⟩
  go_wp2_with fail
  have fb := (Below.refl w.heap.size w).alloc (Nat.le_refl _) (.cells #[.int .u64 M, .int .u64 (loW Q)] 130)
  have f0 := Own.made w 130 [.int .u64 M, .int .u64 (loW Q)]
  have hV : ∃ V, V = w.alloc (.cells #[.int .u64 M, .int .u64 (loW Q)] 130) := ⟨_, rfl⟩
  obtain ⟨V, hV⟩ := hV
  rw [← hV] at fb ⊢
  rw [show w.alloc (.cells [.int .u64 M, .int .u64 (loW Q)].toArray 130) = V from hV.symm] at f0
  have c0 := fun p : Past V => (f0.past p.h f0.inside).at_ 0
  have HF := Lib.hid (And.intro fb f0)
  clear fb f0 hV
  simp only [List.getElem?_cons_zero] at c0
  refine wp_region_past_tail V 17 (by kernel_rfl) (by kernel_rfl) (Below.refl _ _) ?_
  simp only [List.take_succ_cons, List.take_zero, List.drop_succ_cons, List.drop_zero]
  repeat (quiet_step ((first | (go_at_call 66; exact calls_past (oa _).out) | (go_at_call 66; exact calls_past (ob _).out))))
  refine wpQuiet_nil ?_
  intro wq hw'
  obtain ⟨⟨wz, hbz⟩, hw''⟩ := hw'
  obtain rfl : wq = wz := hw''
  clear c0
  have f1 := HF.out.2.past hbz HF.out.2.inside
  have c0 := f1.at_ 0
  have c1 := f1.at_ 1
  have g0 := f1.open_ 0
  simp only [List.getElem?_cons_zero, List.getElem?_cons_succ] at c0 c1
  have H1 := Lib.hid (And.intro hbz f1)
  clear hbz f1
  go_wp2_with fail
  refine (hnum.out _).mono ?_
  rintro e w3 ⟨rfl, b3⟩
  go_wp2_with fail
  go_ret2
  obtain ⟨fb, f0⟩ := HF.out
  have k1 := fb.trans (H1.out.1.mono fb.size)
  exact ⟨rfl, (k1.setCell (p := ⟨w.heap.size, 0, none⟩) (Nat.le_refl _) _).trans (b3.mono (by simp; exact k1.size))⟩
end Go.Proofs.Ytjidjpmdmcleoaa
