/- Plain facts on taking a value, a row. -/
import Derived.Test.YthcoobennehkfaaVEnc
import Derived.Test.YthcoobennehkfaaTakeMore
namespace Go.Proofs.Ythcoobennehkfaa
open Go Go.RowKit

/-- the value that bytes begin with, and what is behind it -/
def oneS : List UInt8 → Option (Vl × List UInt8)
  | [] => none
  | b :: r => if b = 0 then (if (tn (tc 0 0 r)).2.2 = 0 then some (⟨false, (tn (tc 0 0 r)).1, ⟨#[]⟩⟩, (tn (tc 0 0 r)).2.1) else none)
    else if b = 1 then (if (tt (tc 0 0 r)).2.2 = 0 then some (⟨true, 0, ⟨(tt (tc 0 0 r)).1.toArray⟩⟩, (tt (tc 0 0 r)).2.1) else none) else none
def takeS : Nat → List UInt8 → Option (List Vl × List UInt8)
  | 0, s => some ([], s)
  | n + 1, s => match takeS n s with
    | none => none
    | some (l, r) => match oneS r with
      | none => none
      | some (v, r') => some (l ++ [v], r')
/-- the row that bytes begin with, and what is behind it -/
def takeR (s : List UInt8) : Option (List Vl × List UInt8) :=
  if (tc 0 0 s).2.2 = 0 ∧ (tc 0 0 s).1 ≤ 8 then
    match takeS (tc 0 0 s).1 (tc 0 0 s).2.1 with
    | none => none
    | some (l, r) => if l.all Vl.right then some (l, r) else none
  else none
theorem takeS_len : ∀ {n : Nat} {s : List UInt8} {l : List Vl} {r : List UInt8}, takeS n s = some (l, r) → l.length = n
  | 0, s, l, r, h => by
    simp [takeS] at h
    rw [h.1]; rfl
  | n + 1, s, l, r, h => by
    unfold takeS at h
    cases h1 : takeS n s with
    | none => rw [h1] at h; cases h
    | some x =>
      obtain ⟨l1, r1⟩ := x
      rw [h1] at h
      simp only at h
      cases h2 : oneS r1 with
      | none => rw [h2] at h; cases h
      | some y =>
        obtain ⟨v, r2⟩ := y
        rw [h2] at h
        simp only [Option.some.injEq, Prod.mk.injEq] at h
        rw [← h.1, List.length_append, takeS_len h1]; rfl
theorem takeS_fell {s : List UInt8} : ∀ {k n : Nat}, k ≤ n → takeS k s = none → takeS n s = none
  | k, 0, h, e => by obtain rfl : k = 0 := by omega
                     exact e
  | k, n + 1, h, e => by
    by_cases hk : k = n + 1
    · subst hk; exact e
    · unfold takeS
      rw [takeS_fell (show k ≤ n by omega) e]
theorem takeS_right {s : List UInt8} {k : Nat} {l : List Vl} {r : List UInt8} (h : takeS k s = some (l, r)) (hr : l.all Vl.right = false) : ∀ {n : Nat} {l' : List Vl} {r' : List UInt8}, k ≤ n → takeS n s = some (l', r') → l'.all Vl.right = false
  | 0, l', r', hk, e => by
    obtain rfl : k = 0 := by omega
    rw [h] at e
    simp only [Option.some.injEq, Prod.mk.injEq] at e
    rw [← e.1]; exact hr
  | n + 1, l', r', hk, e => by
    by_cases hkn : k = n + 1
    · subst hkn
      rw [h] at e
      simp only [Option.some.injEq, Prod.mk.injEq] at e
      rw [← e.1]; exact hr
    · unfold takeS at e
      cases h1 : takeS n s with
      | none => rw [h1] at e; cases e
      | some x =>
        obtain ⟨l1, r1⟩ := x
        rw [h1] at e
        simp only at e
        cases h2 : oneS r1 with
        | none => rw [h2] at e; cases e
        | some y =>
          obtain ⟨v, r2⟩ := y
          rw [h2] at e
          simp only [Option.some.injEq, Prod.mk.injEq] at e
          rw [← e.1, List.all_append, takeS_right h hr (show k ≤ n by omega) h1]; rfl
theorem tn_bound {s : List UInt8} : -9223372036854775808 ≤ (tn (tc 0 0 s)).1 ∧ (tn (tc 0 0 s)).1 ≤ 9223372036854775807 := by
  have h := (tc_ok s 0 0 (by omega) (by omega)).1
  unfold tn
  split
  · split <;> constructor <;> simp only <;> omega
  · simp
theorem rest_len {s : List UInt8} : (tc 0 0 s).2.1.length ≤ s.length := by
  rcases (tc_ok s 0 0 (by omega) (by omega)).2 with ⟨_, h⟩ | h | h
  · exact h
  · rw [h]; simp
  · rw [h]; simp
theorem tt_len {s : List UInt8} : (tt (tc 0 0 s)).1.length ≤ s.length ∧ (tt (tc 0 0 s)).2.1.length ≤ s.length := by
  have h := rest_len (s := s)
  unfold tt
  split
  · split
    · simp
    · split
      · simp
      · simp only [List.length_take, List.length_drop]; omega
  · simp
theorem tn_len {s : List UInt8} : (tn (tc 0 0 s)).2.1.length ≤ s.length := by
  have h := rest_len (s := s)
  unfold tn
  split
  · exact h
  · simp
theorem oneS_ok {s : List UInt8} {v : Vl} {r : List UInt8} (h : oneS s = some (v, r)) (hs : s.length ≤ maxLen) : VOk v ∧ r.length ≤ s.length := by
  cases s with
  | nil => cases h
  | cons b t =>
    simp only [oneS] at h
    rw [List.length_cons] at hs
    split at h
    · split at h
      · simp only [Option.some.injEq, Prod.mk.injEq] at h
        rw [← h.1, ← h.2]
        have := tn_len (s := t)
        exact ⟨⟨Nat.zero_le _, tn_bound⟩, by rw [List.length_cons]; omega⟩
      · cases h
    · split at h
      · split at h
        · simp only [Option.some.injEq, Prod.mk.injEq] at h
          rw [← h.1, ← h.2]
          have := tt_len (s := t)
          exact ⟨⟨by rw [sizeL]; omega, by simp, by simp⟩, by rw [List.length_cons]; omega⟩
        · cases h
      · cases h
end Go.Proofs.Ythcoobennehkfaa
