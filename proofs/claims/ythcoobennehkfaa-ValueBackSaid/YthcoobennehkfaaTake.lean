/- Plain facts on taking a count: byte by byte. -/
import Derived.Test.YthcoobennehkfaaEnc
import Derived.Lib.Strings
import Derived.Lib.IndexBytes
namespace Go.Proofs.Ythcoobennehkfaa
open Go.RowKit

/-- what is taken from the k-th byte on, n being what was gathered: the count, the rest, why not -/
def tc : Nat → Nat → List UInt8 → Nat × List UInt8 × Int
  | _, _, [] => (0, [], 3)
  | k, n, b :: l =>
    if (k = 9 ∧ 1 < b.toNat) ∨ (0 < k ∧ b.toNat = 0) then (0, [], 4)
    else if b.toNat < 128 then (n + b.toNat % 128 * 128 ^ k, l, 0) else tc (k + 1) (n + b.toNat % 128 * 128 ^ k) l

theorem drop_at (s : ByteArray) (k : Nat) (h : k < s.size) : s.data.toList.drop k = s[k] :: s.data.toList.drop (k + 1) := by
  rw [List.drop_eq_getElem_cons (by simpa using h)]; rfl

theorem tc_end (s : ByteArray) (k n : Nat) (h : s.size ≤ k) : tc k n (s.data.toList.drop k) = (0, [], 3) := by
  rw [List.drop_eq_nil_of_le (by simpa using h)]; rfl
theorem tc_bad (s : ByteArray) (k n : Nat) (h : k < s.size) (hb : (k = 9 ∧ 1 < s[k].toNat) ∨ (0 < k ∧ s[k].toNat = 0)) : tc k n (s.data.toList.drop k) = (0, [], 4) := by
  rw [drop_at s k h, tc, if_pos hb]
theorem tc_last (s : ByteArray) (k n : Nat) (h : k < s.size) (hb : ¬ ((k = 9 ∧ 1 < s[k].toNat) ∨ (0 < k ∧ s[k].toNat = 0))) (hl : s[k].toNat < 128) :
    tc k n (s.data.toList.drop k) = (n + s[k].toNat % 128 * 128 ^ k, s.data.toList.drop (k + 1), 0) := by
  rw [drop_at s k h, tc, if_neg hb, if_pos hl]
theorem tc_more (s : ByteArray) (k n : Nat) (h : k < s.size) (hb : ¬ ((k = 9 ∧ 1 < s[k].toNat) ∨ (0 < k ∧ s[k].toNat = 0))) (hl : ¬ s[k].toNat < 128) :
    tc k n (s.data.toList.drop k) = tc (k + 1) (n + s[k].toNat % 128 * 128 ^ k) (s.data.toList.drop (k + 1)) := by
  rw [drop_at s k h, tc, if_neg hb, if_neg hl]

theorem byte_lt (b : UInt8) : b.toNat < 256 := b.toNat_lt
/-- what has been gathered stays in its place -/
theorem gather_lt {k n x : Nat} (hn : n < 128 ^ k) : n + x % 128 * 128 ^ k < 128 ^ (k + 1) := by
  have h : x % 128 < 128 := Nat.mod_lt _ (by omega)
  rw [Nat.pow_succ]
  have : x % 128 * 128 ^ k ≤ 127 * 128 ^ k := Nat.mul_le_mul_right _ (by omega)
  omega
theorem pow9 {k : Nat} (h : k ≤ 9) : 128 ^ k ≤ 9223372036854775808 := by
  have : 128 ^ k ≤ 128 ^ 9 := Nat.pow_le_pow_right (by omega) h
  omega

theorem andNot128 (b : UInt8) : bits .andNot .u8 (b.toNat : Int) 128 = (b.toNat : Int) % 128 := by
  have : ∀ k : Fin 256, bits .andNot .u8 ((k.val : Nat) : Int) 128 = ((k.val : Nat) : Int) % 128 := by decide +kernel
  exact this ⟨b.toNat, b.toNat_lt⟩

/-- the bits of what was gathered and of what comes do not meet: or is a sum -/
theorem or_gather {k n x : Nat} (hk : k ≤ 9) (hn : n < 128 ^ k) (hx : x % 128 * 128 ^ k < 18446744073709551616) : bits .or .u64 (n : Int) ((x % 128 * 128 ^ k : Nat) : Int) = ((n + x % 128 * 128 ^ k : Nat) : Int) := by
  have hp := pow9 hk
  have e : 128 ^ k = 2 ^ (7 * k) := by rw [Nat.pow_mul]
  have h1 : n ||| x % 128 * 128 ^ k = n + x % 128 * 128 ^ k := by
    rw [e] at hn ⊢
    rw [Nat.mul_comm, Nat.or_comm, ← Nat.two_pow_add_eq_or_of_lt hn]; omega
  rw [u64_or_nat _ _ (by omega) hx, h1]
theorem fits {k x : Nat} (hk : k ≤ 9) (h9 : k = 9 → x ≤ 1) : x % 128 * 128 ^ k < 18446744073709551616 := by
  by_cases h : k = 9
  · subst h
    have := h9 rfl
    have : x = 0 ∨ x = 1 := by omega
    rcases this with rfl | rfl <;> decide
  · have : 128 ^ k ≤ 128 ^ 8 := Nat.pow_le_pow_right (by omega) (by omega)
    have h2 : x % 128 ≤ 127 := by omega
    have : x % 128 * 128 ^ k ≤ 127 * 128 ^ 8 := Nat.mul_le_mul h2 this
    omega
theorem or_walk {k n x : Nat} (hk : k ≤ 9) (h9 : k = 9 → x ≤ 1) (hn : n < 128 ^ k) :
    bits .or .u64 (n : Int) (IntKind.u64.wrap ((x : Int) % 128 * 2 ^ (7 * k))) = ((n + x % 128 * 128 ^ k : Nat) : Int) := by
  have hf := fits hk h9
  have e : ((x : Int) % 128 * 2 ^ (7 * k)) = ((x % 128 * 128 ^ k : Nat) : Int) := by
    rw [show (128 : Nat) ^ k = 2 ^ (7 * k) by rw [Nat.pow_mul]]
    simp
  rw [e, IntWalk.u64_in _ ⟨by omega, by omega⟩, or_gather hk hn hf]
end Go.Proofs.Ythcoobennehkfaa
