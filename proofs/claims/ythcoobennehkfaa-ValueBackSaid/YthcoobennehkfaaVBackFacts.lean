/- Plain facts: a row's bytes are taken as it; cut short they are none. -/
import Derived.Test.YthcoobennehkfaaVRefTakeRow
import Derived.Test.YthcoobennehkfaaVEnc
namespace Go.Proofs.Ythcoobennehkfaa
open Go Go.RowKit

theorem tc_enc : ∀ (f m : Nat), m < f → ∀ (k n : Nat) (rest : List UInt8), k ≤ 9 → m * 128 ^ k < 18446744073709551616 → (0 < k → 0 < m) → tc k n (enc m ++ rest) = (n + m * 128 ^ k, rest, 0) := by
  intro f
  induction f with
  | zero => intro m h; omega
  | succ f ih =>
    intro m hm k n rest hk hfit hpos
    by_cases h1 : m < 128
    · rw [enc_lt h1]
      have hb : (UInt8.ofNat m).toNat = m := by simp; omega
      have h9 : k = 9 → m ≤ 1 := by
        rintro rfl
        have : (128 : Nat) ^ 9 = 9223372036854775808 := by decide
        rw [this] at hfit; omega
      have hbad : ¬ ((k = 9 ∧ 1 < (UInt8.ofNat m).toNat) ∨ (0 < k ∧ (UInt8.ofNat m).toNat = 0)) := by rw [hb]; omega
      show tc k n (UInt8.ofNat m :: rest) = _
      rw [tc, if_neg hbad, hb, if_pos h1, Nat.mod_eq_of_lt h1]
    · rw [enc_ge (by omega)]
      have hb : (UInt8.ofNat (m % 128 + 128)).toNat = m % 128 + 128 := by simp; omega
      have hk8 : k ≠ 9 := by
        rintro rfl
        have : (128 : Nat) ^ 9 = 9223372036854775808 := by decide
        rw [this] at hfit; omega
      have hbad : ¬ ((k = 9 ∧ 1 < (UInt8.ofNat (m % 128 + 128)).toNat) ∨ (0 < k ∧ (UInt8.ofNat (m % 128 + 128)).toNat = 0)) := by rw [hb]; omega
      show tc k n (UInt8.ofNat (m % 128 + 128) :: (enc (m / 128) ++ rest)) = _
      rw [tc, if_neg hbad, hb, if_neg (by omega)]
      have e : m / 128 * 128 ^ (k + 1) + m % 128 * 128 ^ k = m * 128 ^ k := by
        rw [Nat.pow_succ, Nat.mul_comm (128 ^ k) 128, ← Nat.mul_assoc, ← Nat.add_mul]
        congr 1; omega
      have e2 : (m % 128 + 128) % 128 = m % 128 := by omega
      rw [ih (m / 128) (by omega) (k + 1) _ rest (by omega) (by omega) (fun _ => by omega), e2]
      congr 1
      omega

theorem tc_short : ∀ (f m : Nat), m < f → ∀ (k n j : Nat), k ≤ 9 → m * 128 ^ k < 18446744073709551616 → j < (enc m).length → tc k n ((enc m).take j) = (0, [], 3) := by
  intro f
  induction f with
  | zero => intro m h; omega
  | succ f ih =>
    intro m hm k n j hk hfit hj
    match j with
    | 0 => rw [List.take_zero]; rfl
    | j + 1 =>
      have h1 : ¬ m < 128 := fun h => by rw [enc_lt h] at hj; simp at hj
      rw [enc_ge (by omega)] at hj ⊢
      have hb : (UInt8.ofNat (m % 128 + 128)).toNat = m % 128 + 128 := by simp; omega
      have hk8 : k ≠ 9 := by
        rintro rfl
        have : (128 : Nat) ^ 9 = 9223372036854775808 := by decide
        rw [this] at hfit; omega
      have hbad : ¬ ((k = 9 ∧ 1 < (UInt8.ofNat (m % 128 + 128)).toNat) ∨ (0 < k ∧ (UInt8.ofNat (m % 128 + 128)).toNat = 0)) := by rw [hb]; omega
      have e : m / 128 * 128 ^ (k + 1) + m % 128 * 128 ^ k = m * 128 ^ k := by
        rw [Nat.pow_succ, Nat.mul_comm (128 ^ k) 128, ← Nat.mul_assoc, ← Nat.add_mul]
        congr 1; omega
      rw [List.take_succ_cons, tc, if_neg hbad, hb, if_neg (by omega)]
      exact ih (m / 128) (by omega) (k + 1) _ j (by omega) (by omega) (by simpa using hj)

theorem tc_back (m : Nat) (rest : List UInt8) (h : m < 18446744073709551616) : tc 0 0 (enc m ++ rest) = (m, rest, 0) := by
  have := tc_enc (m + 1) m (by omega) 0 0 rest (by omega) (by simpa using h) (by omega)
  simpa using this
theorem tc_cut (m j : Nat) (h : m < 18446744073709551616) (hj : j < (enc m).length) : tc 0 0 ((enc m).take j) = (0, [], 3) :=
  tc_short (m + 1) m (by omega) 0 0 j (by omega) (by simpa using h) hj
theorem tn_back (m : Int) (rest : List UInt8) : tn (zig m, rest, 0) = (m, rest, 0) := by
  unfold zig
  by_cases h : m < 0
  · rw [if_pos h, tn_odd (by omega)]; congr 1; omega
  · rw [if_neg h, tn_even (by omega)]; congr 1; omega
theorem tt_back (l rest : List UInt8) (h : ¬ 65536 < l.length) : tt (tc 0 0 (txt l ++ rest)) = (l, rest, 0) := by
  unfold txt
  rw [List.append_assoc, tc_back _ _ (by omega), tt_fits h (by simp)]
  simp

theorem tn_no {n : Nat} {r : List UInt8} {y : Int} (h : y ≠ 0) : (tn (n, r, y)).2.2 ≠ 0 := by
  unfold tn
  split
  · rename_i h2; exact absurd h2 h
  · exact h
theorem tt_no {n : Nat} {r : List UInt8} {y : Int} (h : y ≠ 0) : (tt (n, r, y)).2.2 ≠ 0 := by
  unfold tt
  split
  · rename_i h2; exact absurd h2 h
  · exact h
theorem zig_lt' {m : Int} (h0 : -9223372036854775808 ≤ m) (h1 : m ≤ 9223372036854775807) : zig m < 18446744073709551616 := by
  unfold zig; split <;> omega
theorem right_num {v : Vl} (h : v.right = true) (ht : v.t = false) : v = ⟨false, v.n, ⟨#[]⟩⟩ := by
  obtain ⟨t, n, s⟩ := v
  obtain rfl : t = false := ht
  unfold Vl.right at h
  simp only [Bool.false_eq_true, if_false, List.isEmpty_iff] at h
  have : s = ⟨#[]⟩ := str_ext h
  rw [this]
theorem right_text {v : Vl} (h : v.right = true) (ht : v.t = true) : v = ⟨true, 0, ⟨v.s.data.toList.toArray⟩⟩ ∧ v.s.data.toList.length ≤ 64 := by
  obtain ⟨t, n, s⟩ := v
  obtain rfl : t = true := ht
  unfold Vl.right at h
  simp only [if_true, Bool.and_eq_true, beq_iff_eq, decide_eq_true_eq] at h
  obtain ⟨rfl, h2⟩ := h
  refine ⟨?_, by rw [len_of]; exact h2⟩
  congr 1
theorem oneS_back {v : Vl} (h : v.right = true) (ok : VOk v) (rest : List UInt8) : oneS (vB v ++ rest) = some (v, rest) := by
  cases ht : v.t with
  | false =>
    have e := right_num h ht
    have hb : vB v = 0 :: enc (zig v.n) := by unfold vB; rw [ht]; rfl
    rw [hb]
    show oneS (0 :: (enc (zig v.n) ++ rest)) = _
    simp only [oneS, if_true]
    rw [tc_back _ _ (zig_lt' ok.2.1 ok.2.2), tn_back]
    simp only [if_true]
    rw [← e]
  | true =>
    obtain ⟨e, hl⟩ := right_text h ht
    have hb : vB v = 1 :: txt v.s.data.toList := by unfold vB; rw [ht]; rfl
    rw [hb]
    show oneS (1 :: (txt v.s.data.toList ++ rest)) = _
    simp only [oneS]
    rw [if_neg (by decide), if_pos trivial, tt_back _ _ (by omega)]
    simp only [if_true]
    rw [← e]
theorem oneS_cut {v : Vl} (h : v.right = true) (ok : VOk v) {j : Nat} (hj : j < (vB v).length) : oneS ((vB v).take j) = none := by
  match j with
  | 0 => rfl
  | j + 1 =>
    cases ht : v.t with
    | false =>
      have hb : vB v = 0 :: enc (zig v.n) := by unfold vB; rw [ht]; rfl
      rw [hb] at hj ⊢
      rw [List.take_succ_cons]
      simp only [oneS, if_true]
      rw [tc_cut _ _ (zig_lt' ok.2.1 ok.2.2) (by simpa using hj), if_neg (tn_no (by decide))]
    | true =>
      obtain ⟨e, hl⟩ := right_text h ht
      have hb : vB v = 1 :: txt v.s.data.toList := by unfold vB; rw [ht]; rfl
      rw [hb] at hj ⊢
      rw [List.take_succ_cons]
      simp only [oneS]
      rw [if_neg (by decide), if_pos trivial]
      generalize v.s.data.toList = s at *
      have hj' : j < (txt s).length := by simpa using hj
      unfold txt at hj' ⊢
      rw [List.length_append] at hj'
      by_cases hc : j < (enc s.length).length
      · rw [List.take_append_of_le_length (by omega), tc_cut _ _ (by omega) hc, if_neg (tt_no (by decide))]
      · rw [List.take_append, List.take_of_length_le (by omega), tc_back _ _ (by omega), tt_short (by omega) (by rw [List.length_take]; omega)]
        exact if_neg (by decide)
theorem takeS_cons : ∀ (n : Nat) (s : List UInt8), takeS (n + 1) s = match oneS s with | none => none | some (v, r) => (takeS n r).map fun x => (v :: x.1, x.2)
  | 0, s => by
    unfold takeS
    simp only [takeS]
    cases h : oneS s with
    | none => rfl
    | some y => obtain ⟨v, r⟩ := y; rfl
  | n + 1, s => by
    rw [takeS, takeS_cons n s]
    cases h : oneS s with
    | none => rfl
    | some y =>
      obtain ⟨v, r⟩ := y
      simp only
      rw [takeS]
      cases h1 : takeS n r with
      | none => rfl
      | some x =>
        obtain ⟨l, q⟩ := x
        simp only [Option.map_some]
        cases h2 : oneS q with
        | none => rfl
        | some z => obtain ⟨u, q'⟩ := z; rfl
theorem takeS_back : ∀ {l : List Vl}, l.all Vl.right = true → (∀ v ∈ l, VOk v) → ∀ rest, takeS l.length (l.flatMap vB ++ rest) = some (l, rest)
  | [], _, _, rest => rfl
  | v :: l, hr, ok, rest => by
    simp only [List.all_cons, Bool.and_eq_true] at hr
    rw [List.length_cons, takeS_cons, List.flatMap_cons, List.append_assoc, oneS_back hr.1 (ok v (by simp))]
    simp only
    rw [takeS_back hr.2 (fun u hu => ok u (by simp [hu])) rest]
    rfl
theorem takeS_cut : ∀ {l : List Vl}, l.all Vl.right = true → (∀ v ∈ l, VOk v) → ∀ {j : Nat}, j < (l.flatMap vB).length → takeS l.length ((l.flatMap vB).take j) = none
  | [], _, _, j, hj => by simp at hj
  | v :: l, hr, ok, j, hj => by
    simp only [List.all_cons, Bool.and_eq_true] at hr
    rw [List.flatMap_cons, List.length_append] at hj
    rw [List.length_cons, takeS_cons, List.flatMap_cons]
    by_cases hc : j < (vB v).length
    · rw [List.take_append_of_le_length (by omega), oneS_cut hr.1 (ok v (by simp)) hc]
    · rw [List.take_append, List.take_of_length_le (by omega), oneS_back hr.1 (ok v (by simp))]
      simp only
      rw [takeS_cut hr.2 (fun u hu => ok u (by simp [hu])) (by omega)]
      rfl
theorem takeR_back {l : List Vl} (hz : chkRow l = 0) (ok : ∀ v ∈ l, VOk v) (rest : List UInt8) : takeR (encS l ++ rest) = some (l, rest) := by
  rcases chk_case' l with ⟨_, hr, h8⟩ | h4
  · unfold encS rowB
    rw [if_pos hz, List.append_assoc, takeR_is (tc_back _ _ (by omega)) h8 (takeS_back hr ok rest), if_pos hr]
  · rw [hz] at h4; cases h4
theorem takeR_cut {l : List Vl} (hz : chkRow l = 0) (ok : ∀ v ∈ l, VOk v) {j : Nat} (hj : j < (encS l).length) : takeR ((encS l).take j) = none := by
  rcases chk_case' l with ⟨_, hr, h8⟩ | h4
  · unfold encS rowB at hj ⊢
    rw [if_pos hz] at hj ⊢
    rw [List.length_append] at hj
    by_cases hc : j < (enc l.length).length
    · rw [List.take_append_of_le_length (by omega)]
      exact takeR_no (tc_cut _ _ (by omega) hc) (by decide)
    · rw [List.take_append, List.take_of_length_le (by omega)]
      exact takeR_fell (tc_back _ _ (by omega)) (takeS_cut hr ok (by omega))
  · rw [hz] at h4; cases h4
end Go.Proofs.Ythcoobennehkfaa
