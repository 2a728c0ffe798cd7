/- Plain facts on the checksum: a register of 32 bits, a byte at a time. -/
import Derived.Test.YteedegljijendaaGen
import Derived.OneCell
namespace Go.Proofs.Yteedegljijendaa
open Go.RowKit

/-- the register shifted by one bit -/
def bitS (c : Nat) : Nat := if c % 2 = 1 then c / 2 ^^^ 2197175160 else c / 2
def bitsS : Nat → Nat → Nat
  | 0, c => c
  | n + 1, c => bitsS n (bitS c)
/-- a byte taken in -/
def byteS (c b : Nat) : Nat := bitsS 8 (c ^^^ b)
def regS (c : Nat) (l : List UInt8) : Nat := l.foldl (fun c b => byteS c b.toNat) c
/-- the checksum -/
def sumS (l : List UInt8) : Nat := 4294967295 - regS 4294967295 l

theorem xor_lt {a b : Nat} (ha : a < 4294967296) (hb : b < 4294967296) : a ^^^ b < 4294967296 := Nat.xor_lt_two_pow (n := 32) ha hb
theorem bitS_lt {c : Nat} (h : c < 4294967296) : bitS c < 4294967296 := by
  unfold bitS; split
  · exact xor_lt (by omega) (by omega)
  · omega
theorem bitsS_lt : ∀ (n c : Nat), c < 4294967296 → bitsS n c < 4294967296
  | 0, _, h => h
  | n + 1, _, h => bitsS_lt n _ (bitS_lt h)
theorem bitsS_succ : ∀ (n c : Nat), bitsS (n + 1) c = bitS (bitsS n c)
  | 0, _ => rfl
  | n + 1, c => by rw [bitsS, bitsS_succ n, ← bitsS]
theorem byteS_lt {c b : Nat} (hc : c < 4294967296) (hb : b < 256) : byteS c b < 4294967296 := bitsS_lt 8 _ (xor_lt hc (by omega))
theorem regS_lt : ∀ (l : List UInt8) (c : Nat), c < 4294967296 → regS c l < 4294967296
  | [], _, h => h
  | b :: l, c, h => regS_lt l _ (byteS_lt h b.toNat_lt)
theorem sumS_lt (l : List UInt8) : sumS l < 4294967296 := by unfold sumS; omega
theorem regS_snoc (c : Nat) (l : List UInt8) (b : UInt8) : regS c (l ++ [b]) = byteS (regS c l) b.toNat := by simp [regS]
theorem take_snoc (s : ByteArray) (k : Nat) (h : k < s.size) : s.data.toList.take (k + 1) = s.data.toList.take k ++ [s[k]] := by
  rw [List.take_succ_eq_append_getElem (by simpa using h)]; rfl
theorem regS_at (s : ByteArray) (k : Nat) (h : k < s.size) : regS 4294967295 (s.data.toList.take (k + 1)) = byteS (regS 4294967295 (s.data.toList.take k)) s[k].toNat := by
  rw [take_snoc s k h, regS_snoc]

theorem xor_walk {a b : Nat} (ha : a < 4294967296) (hb : b < 4294967296) : bits .xor .u32 (a : Int) (b : Int) = ((a ^^^ b : Nat) : Int) := u32_xor_nat a b ha hb
theorem and1_walk {a : Nat} (ha : a < 4294967296) : bits .and .u32 (a : Int) 1 = ((a % 2 : Nat) : Int) := by
  have := u32_and_nat a 1 ha (by omega)
  rw [Nat.and_one_is_mod] at this
  exact this
theorem bitS_odd {c : Nat} (h : c % 2 = 1) : bitS c = c / 2 ^^^ 2197175160 := by unfold bitS; rw [if_pos h]
theorem bitS_even {c : Nat} (h : ¬ c % 2 = 1) : bitS c = c / 2 := by unfold bitS; rw [if_neg h]
theorem grown_set {w w' : World} {b : Nat} (h : w.grownBy w' (some b)) (o : Nat) (v : Value) : w.grownBy (w'.setCell ⟨b, o, none⟩ v) (some b) :=
  ⟨h.os, h.tape, h.output, by simpa [World.setCell] using h.size, fun k hk hne => (Below.heap_setCell _ _ _ _ (by rintro rfl; exact hne rfl)).trans (h.block k hk hne)⟩
theorem grown_same {a b c : World} {r : Option Nat} (h : a.grownBy b r) (k : b.grownBy c r) : a.grownBy c r :=
  ⟨k.os.trans h.os, k.tape.trans h.tape, k.output.trans h.output, Nat.le_trans h.size k.size, fun i hi hne => (k.block i (Nat.lt_of_lt_of_le hi h.size) hne).trans (h.block i hi hne)⟩
theorem not_nat {d : Nat} (h : d < 4294967296) : 4294967295 ^^^ d = 4294967295 - d := by
  have h1 : (~~~ (BitVec.ofNat 32 d)).toNat = 4294967295 - d := by
    rw [BitVec.toNat_not, BitVec.toNat_ofNat, Nat.mod_eq_of_lt h]
  have h2 : ~~~ (BitVec.ofNat 32 d) = BitVec.allOnes 32 ^^^ BitVec.ofNat 32 d := by
    rw [BitVec.allOnes_xor]
  rw [h2, BitVec.toNat_xor, BitVec.toNat_allOnes, BitVec.toNat_ofNat, Nat.mod_eq_of_lt h] at h1
  exact h1
theorem not_walk {d : Nat} (h : d < 4294967296) : bits .xor .u32 IntKind.u32.max (d : Int) = ((4294967295 - d : Nat) : Int) := by
  rw [← not_nat h]
  exact xor_walk (a := 4294967295) (by omega) h
end Go.Proofs.Yteedegljijendaa
