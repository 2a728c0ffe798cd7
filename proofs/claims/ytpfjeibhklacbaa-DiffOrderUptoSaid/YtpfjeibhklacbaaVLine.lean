/- Plain facts on the order of rows: it is a line, and tells right rows apart. -/
import Derived.Test.YtpfjeibhklacbaaVRefCompare
namespace Go.Proofs.Ytpfjeibhklacbaa
open Go Go.RowKit

theorem cmpB_swap : ∀ a b : List UInt8, Lib.compareBytes b a = - Lib.compareBytes a b
  | [], [] => rfl
  | [], _ :: _ => rfl
  | _ :: _, [] => rfl
  | x :: a, y :: b => by
    have ih := cmpB_swap a b
    unfold Lib.compareBytes
    by_cases h1 : x < y
    · have h2 : ¬ y < x := by rw [UInt8.lt_iff_toNat_lt] at *; omega
      simp [h1, h2]
    · by_cases h2 : y < x
      · simp [h1, h2]
      · simp [h1, h2, ih]
theorem cmpB_zero {a b : List UInt8} : Lib.compareBytes a b = 0 ↔ a = b := by
  rcases cmpB_cases a b with ⟨h, _⟩ | ⟨h, _, rfl⟩ | ⟨h, _, hn⟩
  · rw [h]; refine ⟨fun h => by omega, fun e => ?_⟩
    subst e
    have := cmpB_swap a a
    omega
  · simp [h]
  · rw [h]; exact ⟨fun h => by omega, fun e => absurd e hn⟩
theorem cmpB_le : ∀ a b c : List UInt8, Lib.compareBytes a b ≤ 0 → Lib.compareBytes b c ≤ 0 → Lib.compareBytes a c ≤ 0 ∧ (Lib.compareBytes a b < 0 ∨ Lib.compareBytes b c < 0 → Lib.compareBytes a c < 0)
  | [], _, [], _, h => by
    rename_i b _
    cases b with
    | nil => exact ⟨by decide, by decide⟩
    | cons x b => simp [Lib.compareBytes] at h
  | [], [], _ :: _, _, _ => ⟨by simp [Lib.compareBytes], fun _ => by simp [Lib.compareBytes]⟩
  | [], _ :: _, _ :: _, _, _ => ⟨by simp [Lib.compareBytes], fun _ => by simp [Lib.compareBytes]⟩
  | _ :: _, [], _, h, _ => by simp [Lib.compareBytes] at h
  | _ :: _, _ :: _, [], _, h => by simp [Lib.compareBytes] at h
  | x :: a, y :: b, z :: c, h, k => by
    have ih := cmpB_le a b c
    unfold Lib.compareBytes at h k ⊢
    simp only [UInt8.lt_iff_toNat_lt] at *
    by_cases h1 : x.toNat < y.toNat
    · by_cases h2 : y.toNat < z.toNat
      · have h3 : x.toNat < z.toNat := by omega
        simp [h1, h2, h3]
      · by_cases h4 : z.toNat < y.toNat
        · simp [h2, h4] at k
        · have h3 : x.toNat < z.toNat := by omega
          simp [h1, h2, h4, h3]
    · by_cases h5 : y.toNat < x.toNat
      · simp [h1, h5] at h
      · by_cases h2 : y.toNat < z.toNat
        · have h3 : x.toNat < z.toNat := by omega
          simp [h1, h5, h2, h3]
        · by_cases h4 : z.toNat < y.toNat
          · simp [h2, h4] at k
          · have h3 : ¬ x.toNat < z.toNat := by omega
            have h6 : ¬ z.toNat < x.toNat := by omega
            simp only [h1, h5, h2, h4, h3, h6, if_false] at h k ⊢
            exact ih h k
namespace Vl
theorem cmp_swap (a b : Vl) : b.cmp a = - a.cmp b := by
  unfold cmp cmpI
  cases a.t <;> cases b.t
  · simp only [Bool.false_eq_true, if_false]; repeat' split
    all_goals omega
  · simp
  · simp
  · simp only [if_true]; exact cmpB_swap _ _
theorem cmp_self (a : Vl) : a.cmp a = 0 := by have := cmp_swap a a; omega
theorem cmp_le (a b c : Vl) (h : a.cmp b ≤ 0) (k : b.cmp c ≤ 0) : a.cmp c ≤ 0 ∧ (a.cmp b < 0 ∨ b.cmp c < 0 → a.cmp c < 0) := by
  obtain ⟨p, n, s⟩ := a
  obtain ⟨q, m, t⟩ := b
  obtain ⟨r, o, u⟩ := c
  unfold cmp cmpI at *
  cases p <;> cases q <;> cases r
  case true.true.true => simp only [if_true] at *; exact cmpB_le _ _ _ h k
  case false.false.false =>
    simp only [Bool.false_eq_true, if_false] at *
    by_cases h1 : n < m <;> by_cases h2 : m < n <;> by_cases h3 : m < o <;> by_cases h4 : o < m <;> by_cases h5 : n < o <;> by_cases h6 : o < n <;> simp only [h1, h2, h3, h4, h5, h6, if_true, if_false] at h k ⊢ <;> omega
  all_goals simp at h k ⊢
theorem cmp_right {a b : Vl} (ha : a.right = true) (hb : b.right = true) : a.cmp b = 0 ↔ a = b := by
  refine ⟨fun h => ?_, fun e => by subst e; exact cmp_self a⟩
  obtain ⟨p, n, s⟩ := a
  obtain ⟨q, m, t⟩ := b
  have se : ∀ s t : ByteArray, s.data.toList = t.data.toList → s = t := fun s t h => by cases s; cases t; simp only at h; congr 1; exact Array.toList_inj.1 h
  cases p <;> cases q
  · simp only [cmp, cmpI, right, Bool.false_eq_true, if_false, List.isEmpty_iff] at *
    rw [se s t (by rw [ha, hb])]
    have : n = m := by
      by_cases h1 : n < m
      · simp [h1] at h
      · by_cases h2 : m < n
        · simp [h1, h2] at h
        · omega
    rw [this]
  · simp [cmp] at h
  · simp [cmp] at h
  · simp only [cmp, right, if_true, Bool.and_eq_true, beq_iff_eq] at *
    rw [se s t (cmpB_zero.1 h), ha.1, hb.1]
end Vl
theorem cmpRows_swap : ∀ a b : List Vl, cmpRows b a = - cmpRows a b
  | [], [] => rfl
  | [], _ :: _ => rfl
  | _ :: _, [] => rfl
  | x :: a, y :: b => by
    have h := Vl.cmp_swap x y
    unfold cmpRows
    by_cases h0 : x.cmp y = 0
    · rw [if_pos h0, if_pos (by omega)]; exact cmpRows_swap a b
    · rw [if_neg h0, if_neg (by omega)]; exact h
theorem cmpRows_self (a : List Vl) : cmpRows a a = 0 := by have := cmpRows_swap a a; omega
theorem cmpRows_le : ∀ a b c : List Vl, cmpRows a b ≤ 0 → cmpRows b c ≤ 0 → cmpRows a c ≤ 0 ∧ (cmpRows a b < 0 ∨ cmpRows b c < 0 → cmpRows a c < 0)
  | [], [], [], _, _ => ⟨by decide, by decide⟩
  | [], _ :: _, [], _, h => by simp [cmpRows] at h
  | [], [], _ :: _, _, _ => ⟨by simp [cmpRows], fun _ => by simp [cmpRows]⟩
  | [], _ :: _, _ :: _, _, _ => ⟨by simp [cmpRows], fun _ => by simp [cmpRows]⟩
  | _ :: _, [], _, h, _ => by simp [cmpRows] at h
  | _ :: _, _ :: _, [], _, h => by simp [cmpRows] at h
  | x :: a, y :: b, z :: c, h, k => by
    have ih := cmpRows_le a b c
    have hv := Vl.cmp_le x y z
    have s1 := Vl.cmp_swap x y
    have s2 := Vl.cmp_swap y z
    have s3 := Vl.cmp_swap x z
    have w1 := Vl.cmp_le y x z
    have w2 := Vl.cmp_le z y x
    unfold cmpRows at h k ⊢
    by_cases h1 : x.cmp y = 0
    · rw [if_pos h1] at h ⊢
      by_cases h2 : y.cmp z = 0
      · rw [if_pos h2] at k ⊢
        have h3 : x.cmp z = 0 := by
          have e1 := (hv (by omega) (by omega)).1
          have e2 := (w2 (by omega) (by omega)).1
          omega
        rw [if_pos h3]
        exact ih h k
      · rw [if_neg h2] at k ⊢
        have h3 : x.cmp z < 0 := (hv (by omega) (by omega)).2 (by omega)
        rw [if_neg (by omega)]
        exact ⟨by omega, fun _ => h3⟩
    · rw [if_neg h1] at h ⊢
      have h3 : x.cmp z < 0 := by
        by_cases h2 : y.cmp z = 0
        · exact (hv (by omega) (by omega)).2 (by omega)
        · rw [if_neg h2] at k
          exact (hv (by omega) (by omega)).2 (by omega)
      rw [if_neg (show ¬ x.cmp z = 0 by omega)]
      exact ⟨by omega, fun _ => h3⟩
theorem cmpRows_right : ∀ {a b : List Vl}, a.all Vl.right = true → b.all Vl.right = true → (cmpRows a b = 0 ↔ a = b)
  | [], [], _, _ => by simp [cmpRows]
  | [], _ :: _, _, _ => by simp [cmpRows]
  | _ :: _, [], _, _ => by simp [cmpRows]
  | x :: a, y :: b, ha, hb => by
    rw [List.all_cons, Bool.and_eq_true] at ha hb
    have ih := cmpRows_right ha.2 hb.2
    have hv := Vl.cmp_right ha.1 hb.1
    unfold cmpRows
    by_cases h : x.cmp y = 0
    · rw [if_pos h, ih, hv.1 h]; simp
    · rw [if_neg h]
      refine ⟨fun e => absurd e h, fun e => ?_⟩
      exact absurd (hv.2 (List.cons.inj e).1) h
theorem cmpRows_front : ∀ f a b : List Vl, cmpRows (f ++ a) (f ++ b) = cmpRows a b
  | [], _, _ => rfl
  | x :: f, a, b => by
    rw [List.cons_append, List.cons_append, cmpRows, if_pos (Vl.cmp_self x)]
    exact cmpRows_front f a b
end Go.Proofs.Ytpfjeibhklacbaa
