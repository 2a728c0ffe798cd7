/- The reference's Compare is the order of values. -/
import Derived.Test.YtpfjeibhklacbaaVCompare
namespace Go.Proofs.Ytpfjeibhklacbaa
open Go Go.RowKit

theorem u8_eq {a b : UInt8} (h1 : ¬ a < b) (h2 : ¬ b < a) : a = b := by
  rw [UInt8.lt_iff_toNat_lt] at h1 h2
  exact UInt8.toNat_inj.1 (by omega)
theorem cmpB_cases : ∀ a b : List UInt8, (Lib.compareBytes a b = -1 ∧ Op.bytesLess a b = true) ∨ (Lib.compareBytes a b = 0 ∧ Op.bytesLess a b = false ∧ a = b) ∨ (Lib.compareBytes a b = 1 ∧ Op.bytesLess a b = false ∧ a ≠ b)
  | [], [] => .inr (.inl ⟨rfl, rfl, rfl⟩)
  | [], _ :: _ => .inl ⟨rfl, rfl⟩
  | _ :: _, [] => .inr (.inr ⟨rfl, rfl, by simp⟩)
  | x :: a, y :: b => by
    have ih := cmpB_cases a b
    unfold Lib.compareBytes Op.bytesLess
    by_cases h1 : x < y
    · left; simp [h1]
    · by_cases h2 : y < x
      · have hne : x ≠ y := fun e => by subst e; exact h1 h2
        right; right; simp [h1, h2, hne]
      · have he := u8_eq h1 h2
        subst he
        simpa [h1] using ih

set_option maxRecDepth 100000 in
set_option maxHeartbeats 1600000 in
theorem vrefCompare_any (a b : Vl) (w : World) :
    Calls Try.prog 59 #[a.val, b.val] w fun e w' => e = .returned (.int .i64 (a.cmp b)) ∧ Below w.heap.size w w' := by
  have HB := Lib.hid (fun (o1 o2 : Obj) => (((Below.refl w.heap.size w).alloc (Nat.le_refl _) o1).alloc (by simp) o2))
  obtain ⟨p, n, s⟩ := a
  obtain ⟨q, m, t⟩ := b
  unfold Vl.val Vl.cmp
  dsimp only
  cases p <;> cases q <;> simp only [Bool.false_eq_true, if_false, if_true]
  · unfold Vl.cmpI
    rcases (by omega : n < m ∨ n = m ∨ m < n) with h | h | h
    · rw [if_pos h]
      have t1 : decide (n < m) = true := by simpa using h
      have t2 : decide (m < n) = false := by simp; omega
      clear h
      go_enter Try.func59, Try.ntmps59
      go_wp2_with fail
      go_quiet (fail)
      go_wp2_with fail
      go_quiet (fail)
      go_wp2_with fail
      go_ret
      exact ⟨rfl, below_draws (below_draws (HB.out _ _) _) _⟩
    · rw [if_neg (by omega), if_neg (by omega)]
      have t1 : decide (n < m) = false := by simp; omega
      have t2 : decide (m < n) = false := by simp; omega
      clear h
      go_enter Try.func59, Try.ntmps59
      go_wp2_with fail
      go_quiet (fail)
      go_wp2_with fail
      go_quiet (fail)
      go_wp2_with fail
      go_ret
      exact ⟨rfl, below_draws (below_draws (HB.out _ _) _) _⟩
    · rw [if_neg (by omega), if_pos h]
      have t1 : decide (n < m) = false := by simp; omega
      have t2 : decide (m < n) = true := by simpa using h
      clear h
      go_enter Try.func59, Try.ntmps59
      go_wp2_with fail
      go_quiet (fail)
      go_wp2_with fail
      go_quiet (fail)
      go_wp2_with fail
      go_ret
      exact ⟨rfl, below_draws (below_draws (HB.out _ _) _) _⟩
  · go_enter Try.func59, Try.ntmps59
    go_wp2_with fail
    go_quiet (fail)
    go_wp2_with fail
    go_ret
    exact ⟨rfl, below_draws (HB.out _ _) _⟩
  · go_enter Try.func59, Try.ntmps59
    go_wp2_with fail
    go_quiet (fail)
    go_wp2_with fail
    go_ret
    exact ⟨rfl, below_draws (HB.out _ _) _⟩
  · rw [← ByteArray.toList_eq, ← ByteArray.toList_eq]
    rcases cmpB_cases s.toList t.toList with ⟨h1, h2⟩ | ⟨h1, h2, h3⟩ | ⟨h1, h2, h3⟩
    · rw [h1]
      have h4 : (s.toList == t.toList) = (s.toList == t.toList) := rfl
      clear h1 h4
      go_enter Try.func59, Try.ntmps59
      go_wp2_with fail
      go_quiet (fail)
      go_wp2_with fail
      go_quiet (fail)
      go_wp2_with fail
      go_ret
      exact ⟨rfl, below_draws (below_draws (HB.out _ _) _) _⟩
    · rw [h1]
      have h4 : (s.toList == t.toList) = true := by simpa using h3
      clear h1 h3
      go_enter Try.func59, Try.ntmps59
      go_wp2_with fail
      go_quiet (fail)
      go_wp2_with fail
      go_quiet (fail)
      go_wp2_with fail
      go_ret
      exact ⟨rfl, below_draws (below_draws (HB.out _ _) _) _⟩
    · rw [h1]
      have h4 : (s.toList == t.toList) = false := by simpa using h3
      clear h1 h3
      go_enter Try.func59, Try.ntmps59
      go_wp2_with fail
      go_quiet (fail)
      go_wp2_with fail
      go_quiet (fail)
      go_wp2_with fail
      go_ret
      exact ⟨rfl, below_draws (below_draws (HB.out _ _) _) _⟩
end Go.Proofs.Ytpfjeibhklacbaa
