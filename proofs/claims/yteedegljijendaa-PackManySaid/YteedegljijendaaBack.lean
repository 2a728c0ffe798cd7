/- Plain facts: what was made is taken back; cut short it ends too soon; turned it is none. -/
import Derived.Test.YteedegljijendaaTakeFrame
namespace Go.Proofs.Yteedegljijendaa
open Go.RowKit


theorem tc_enc : ∀ (f m : Nat), m < f → ∀ (k n : Nat) (rest : List UInt8), k ≤ 9 → m * 128 ^ k < 18446744073709551616 → (0 < k → 0 < m) → tc k n (enc m ++ rest) = (n + m * 128 ^ k, rest, 0) := by
  intro f
  induction f with
  | zero => intro m h; omega
  | succ f ih =>
    intro m hm k n rest hk hfit hpos
    by_cases h1 : m < 128
    · rw [enc_lt h1]
      have hb : (UInt8.ofNat m).toNat = m := by simp; omega
      have h9 : k = 9 → m ≤ 1 := by
        rintro rfl
        have : (128 : Nat) ^ 9 = 9223372036854775808 := by decide
        rw [this] at hfit; omega
      have hbad : ¬ ((k = 9 ∧ 1 < (UInt8.ofNat m).toNat) ∨ (0 < k ∧ (UInt8.ofNat m).toNat = 0)) := by rw [hb]; omega
      show tc k n (UInt8.ofNat m :: rest) = _
      rw [tc, if_neg hbad, hb, if_pos h1, Nat.mod_eq_of_lt h1]
    · rw [enc_ge (by omega)]
      have hb : (UInt8.ofNat (m % 128 + 128)).toNat = m % 128 + 128 := by simp; omega
      have hk8 : k ≠ 9 := by
        rintro rfl
        have : (128 : Nat) ^ 9 = 9223372036854775808 := by decide
        rw [this] at hfit; omega
      have hbad : ¬ ((k = 9 ∧ 1 < (UInt8.ofNat (m % 128 + 128)).toNat) ∨ (0 < k ∧ (UInt8.ofNat (m % 128 + 128)).toNat = 0)) := by rw [hb]; omega
      show tc k n (UInt8.ofNat (m % 128 + 128) :: (enc (m / 128) ++ rest)) = _
      rw [tc, if_neg hbad, hb, if_neg (by omega)]
      have e : m / 128 * 128 ^ (k + 1) + m % 128 * 128 ^ k = m * 128 ^ k := by
        rw [Nat.pow_succ, Nat.mul_comm (128 ^ k) 128, ← Nat.mul_assoc, ← Nat.add_mul]
        congr 1; omega
      have e2 : (m % 128 + 128) % 128 = m % 128 := by omega
      rw [ih (m / 128) (by omega) (k + 1) _ rest (by omega) (by omega) (fun _ => by omega), e2]
      congr 1
      omega

theorem tc_short : ∀ (f m : Nat), m < f → ∀ (k n j : Nat), k ≤ 9 → m * 128 ^ k < 18446744073709551616 → j < (enc m).length → tc k n ((enc m).take j) = (0, [], 3) := by
  intro f
  induction f with
  | zero => intro m h; omega
  | succ f ih =>
    intro m hm k n j hk hfit hj
    match j with
    | 0 => rw [List.take_zero]; rfl
    | j + 1 =>
      have h1 : ¬ m < 128 := fun h => by rw [enc_lt h] at hj; simp at hj
      rw [enc_ge (by omega)] at hj ⊢
      have hb : (UInt8.ofNat (m % 128 + 128)).toNat = m % 128 + 128 := by simp; omega
      have hk8 : k ≠ 9 := by
        rintro rfl
        have : (128 : Nat) ^ 9 = 9223372036854775808 := by decide
        rw [this] at hfit; omega
      have hbad : ¬ ((k = 9 ∧ 1 < (UInt8.ofNat (m % 128 + 128)).toNat) ∨ (0 < k ∧ (UInt8.ofNat (m % 128 + 128)).toNat = 0)) := by rw [hb]; omega
      have e : m / 128 * 128 ^ (k + 1) + m % 128 * 128 ^ k = m * 128 ^ k := by
        rw [Nat.pow_succ, Nat.mul_comm (128 ^ k) 128, ← Nat.mul_assoc, ← Nat.add_mul]
        congr 1; omega
      rw [List.take_succ_cons, tc, if_neg hbad, hb, if_neg (by omega)]
      exact ih (m / 128) (by omega) (k + 1) _ j (by omega) (by omega) (by simpa using hj)

theorem tc_back (m : Nat) (rest : List UInt8) (h : m < 18446744073709551616) : tc 0 0 (enc m ++ rest) = (m, rest, 0) := by
  have := tc_enc (m + 1) m (by omega) 0 0 rest (by omega) (by simpa using h) (by omega)
  simpa using this
theorem tc_cut (m j : Nat) (h : m < 18446744073709551616) (hj : j < (enc m).length) : tc 0 0 ((enc m).take j) = (0, [], 3) :=
  tc_short (m + 1) m (by omega) 0 0 j (by omega) (by simpa using h) hj
theorem tn_back (m : Int) (rest : List UInt8) : tn (zig m, rest, 0) = (m, rest, 0) := by
  unfold zig
  by_cases h : m < 0
  · rw [if_pos h, tn_odd (by omega)]; congr 1; omega
  · rw [if_neg h, tn_even (by omega)]; congr 1; omega
theorem tt_back (l rest : List UInt8) (h : ¬ 65536 < l.length) : tt (tc 0 0 (txt l ++ rest)) = (l, rest, 0) := by
  unfold txt
  rw [List.append_assoc, tc_back _ _ (by omega), tt_fits h (by simp)]
  simp
theorem tt_back_long (l rest : List UInt8) (h : 65536 < l.length) (h2 : l.length < 18446744073709551616) : tt (tc 0 0 (txt l ++ rest)) = ([], [], 2) := by
  unfold txt
  rw [List.append_assoc, tc_back _ _ h2, tt_long h]
theorem tf_back (l rest : List UInt8) (h : ¬ 65536 < l.length) : tf (tt (tc 0 0 (txt l ++ sealS l ++ rest))) = (l, rest, 0) := by
  rw [List.append_assoc, tt_back l _ h, tf_good (by rw [List.length_append, seal_len]; omega) (by rw [List.take_left' (seal_len l)])]
  rw [List.drop_left' (seal_len l)]
theorem tf_cut (l : List UInt8) (j : Nat) (h : ¬ 65536 < l.length) (hj : j < (txt l ++ sealS l).length) : tf (tt (tc 0 0 ((txt l ++ sealS l).take j))) = ([], [], 3) := by
  unfold txt at hj ⊢
  rw [List.append_assoc] at hj ⊢
  rw [List.length_append, List.length_append, seal_len] at hj
  by_cases h1 : j < (enc l.length).length
  · rw [List.take_append_of_le_length (by omega), tc_cut _ _ (by omega) h1]; rfl
  · rw [List.take_append, List.take_of_length_le (by omega), tc_back _ _ (by omega)]
    generalize hi : j - (enc l.length).length = i
    by_cases h2 : i < l.length
    · rw [tt_short h (by rw [List.length_take, List.length_append]; omega)]; rfl
    · rw [List.take_append, List.take_of_length_le (by omega), tt_fits h (by simp)]
      rw [List.take_left, List.drop_left, tf_short (by rw [List.length_take, seal_len]; omega)]

/-! ### the checksum tells two strings that differ in one byte -/
theorem xor_high {x : Nat} (h : x < 2147483648) : 2147483648 ≤ x ^^^ 2197175160 := by
  have h1 : (x ^^^ 2197175160).testBit 31 = true := by
    rw [Nat.testBit_xor, Nat.testBit_lt_two_pow (i := 31) h]; decide
  exact Nat.ge_two_pow_of_testBit h1
theorem xor_cancel {a b c : Nat} (h : a ^^^ c = b ^^^ c) : a = b := by
  have := congrArg (· ^^^ c) h
  simpa [Nat.xor_assoc] using this
theorem bitS_inj {c d : Nat} (hc : c < 4294967296) (hd : d < 4294967296) (h : bitS c = bitS d) : c = d := by
  by_cases h1 : c % 2 = 1 <;> by_cases h2 : d % 2 = 1
  · rw [bitS_odd h1, bitS_odd h2] at h; have := xor_cancel h; omega
  · rw [bitS_odd h1, bitS_even h2] at h; have := xor_high (x := c / 2) (by omega); omega
  · rw [bitS_even h1, bitS_odd h2] at h; have := xor_high (x := d / 2) (by omega); omega
  · rw [bitS_even h1, bitS_even h2] at h; omega
theorem bitsS_inj : ∀ (n : Nat) {c d : Nat}, c < 4294967296 → d < 4294967296 → bitsS n c = bitsS n d → c = d
  | 0, _, _, _, _, h => h
  | n + 1, _, _, hc, hd, h => bitS_inj hc hd (bitsS_inj n (bitS_lt hc) (bitS_lt hd) h)
theorem byteS_inj {c d b : Nat} (hc : c < 4294967296) (hd : d < 4294967296) (hb : b < 256) (h : byteS c b = byteS d b) : c = d :=
  xor_cancel (bitsS_inj 8 (xor_lt hc (by omega)) (xor_lt hd (by omega)) h)
theorem byteS_inj2 {c a b : Nat} (hc : c < 4294967296) (ha : a < 256) (hb : b < 256) (h : byteS c a = byteS c b) : a = b := by
  have := bitsS_inj 8 (xor_lt hc (by omega)) (xor_lt hc (by omega)) h
  rw [Nat.xor_comm c a, Nat.xor_comm c b] at this
  exact xor_cancel this
theorem regS_inj : ∀ (l : List UInt8) {c d : Nat}, c < 4294967296 → d < 4294967296 → regS c l = regS d l → c = d
  | [], _, _, _, _, h => h
  | b :: l, _, _, hc, hd, h => byteS_inj hc hd b.toNat_lt (regS_inj l (byteS_lt hc b.toNat_lt) (byteS_lt hd b.toNat_lt) h)
theorem regS_set : ∀ (l : List UInt8) (i : Nat) (b : UInt8) (hi : i < l.length) {c : Nat}, c < 4294967296 → b ≠ l[i] → regS c (l.set i b) ≠ regS c l
  | a :: l, 0, b, _, c, hc, hb, h => by
    have h2 : byteS c b.toNat = byteS c a.toNat := regS_inj l (byteS_lt hc b.toNat_lt) (byteS_lt hc a.toNat_lt) h
    exact hb (UInt8.toNat_inj.1 (byteS_inj2 hc b.toNat_lt a.toNat_lt h2))
  | a :: l, i + 1, b, hi, c, hc, hb, h => regS_set l i b (by simpa using hi) (byteS_lt hc a.toNat_lt) hb h
theorem le4_inj {m n : Nat} (hm : m < 4294967296) (hn : n < 4294967296) (h : le4 m = le4 n) : m = n := by
  unfold le4 at h
  simp only [List.cons.injEq, and_true] at h
  obtain ⟨h1, h2, h3, h4⟩ := h
  have g : ∀ a b : Nat, a < 256 → b < 256 → UInt8.ofNat a = UInt8.ofNat b → a = b := fun a b ha hb h => by
    have := congrArg UInt8.toNat h
    simpa [Nat.mod_eq_of_lt ha, Nat.mod_eq_of_lt hb] using this
  have k1 := g _ _ (Nat.mod_lt _ (by omega)) (Nat.mod_lt _ (by omega)) h1
  have k2 := g _ _ (Nat.mod_lt _ (by omega)) (Nat.mod_lt _ (by omega)) h2
  have k3 := g _ _ (Nat.mod_lt _ (by omega)) (Nat.mod_lt _ (by omega)) h3
  have k4 := g _ _ (Nat.mod_lt _ (by omega)) (Nat.mod_lt _ (by omega)) h4
  omega
theorem seal_ne {l k : List UInt8} (h : regS 4294967295 l ≠ regS 4294967295 k) : sealS l ≠ sealS k := by
  intro e
  have := le4_inj (sumS_lt l) (sumS_lt k) e
  unfold sumS at this
  have h1 := regS_lt l 4294967295 (by omega)
  have h2 := regS_lt k 4294967295 (by omega)
  omega

theorem tf_turned (l : List UInt8) (i : Nat) (b : UInt8) (h : ¬ 65536 < l.length) (hlo : (enc l.length).length ≤ i) (hi : i < (txt l ++ sealS l).length) (hb : b ≠ (txt l ++ sealS l)[i]) :
    tf (tt (tc 0 0 ((txt l ++ sealS l).set i b))) = ([], [], 4) := by
  have e0 : txt l ++ sealS l = enc l.length ++ (l ++ sealS l) := by unfold txt; rw [List.append_assoc]
  have hset : (txt l ++ sealS l).set i b = enc l.length ++ (l ++ sealS l).set (i - (enc l.length).length) b := by
    rw [e0, List.set_append_right _ _ hlo]
  have hlen : i - (enc l.length).length < (l ++ sealS l).length := by
    have := hi; rw [e0, List.length_append] at this; omega
  have hget : b ≠ (l ++ sealS l)[i - (enc l.length).length]'hlen := by
    intro hh; apply hb; rw [hh]
    simp only [e0]
    rw [List.getElem_append_right hlo]
  rw [hset, tc_back _ _ (by omega)]
  generalize i - (enc l.length).length = j at hlen hget
  by_cases h1 : j < l.length
  · rw [List.set_append_left _ _ h1, tt_fits h (by simp)]
    have hl : (l.set j b).length = l.length := List.length_set ..
    rw [List.take_left' hl, List.drop_left' hl]
    refine tf_bad (by rw [seal_len]; omega) ?_
    rw [List.take_of_length_le (by rw [seal_len]; omega)]
    intro e
    refine seal_ne (regS_set l j b h1 (by omega) ?_) e.symm
    intro hh; apply hget; rw [hh, List.getElem_append_left h1]
  · rw [List.set_append_right _ _ (by omega), tt_fits h (by simp)]
    rw [List.take_left, List.drop_left]
    refine tf_bad (by rw [List.length_set, seal_len]; omega) ?_
    rw [List.take_of_length_le (by rw [List.length_set, seal_len]; omega)]
    intro e
    have h2 : j - l.length < (sealS l).length := by rw [List.length_append] at hlen; omega
    have h3 := congrArg (fun k => k[j - l.length]?) e
    simp only [List.getElem?_set_self h2, List.getElem?_eq_getElem h2, Option.some.injEq] at h3
    apply hget
    rw [h3, List.getElem_append_right (by omega)]
end Go.Proofs.Yteedegljijendaa
