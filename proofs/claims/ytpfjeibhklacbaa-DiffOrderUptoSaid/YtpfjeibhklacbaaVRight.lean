/- Whether a value is right. -/
import Derived.Test.YtpfjeibhklacbaaVCompare
namespace Go.Proofs.Ytpfjeibhklacbaa
open Go Go.RowKit

set_option maxRecDepth 100000 in
set_option maxHeartbeats 800000 in
theorem right_any (a : Vl) (w : World) (hs : a.s.size ≤ maxLen) :
    Calls Try.prog 51 #[a.val] w fun e w' => e = .returned (.bool a.right) ∧ Below w.heap.size w w' := by
  have HB := Lib.hid (fun (o1 : Obj) => ((Below.refl w.heap.size w).alloc (Nat.le_refl _) o1))
  obtain ⟨p, n, s⟩ := a
  unfold Vl.val Vl.right
  unfold maxLen at hs
  dsimp only at hs ⊢
  cases p
  · simp only [Bool.false_eq_true, if_false]
    go_enter Try.func51, Try.ntmps51
    go_wp2_with fail
    go_ret
    exact ⟨ret_bool (by rw [ByteArray.toList_eq]), HB.out _⟩
  · simp only [if_true]
    by_cases hn : n = 0
    · subst hn
      go_enter Try.func51, Try.ntmps51
      go_wp2_with fail
      go_ret
      exact ⟨ret_bool (by simp; omega), HB.out _⟩
    · have hnb : (n == 0) = false := by simpa using hn
      go_enter Try.func51, Try.ntmps51
      go_wp2_with fail
      go_ret
      exact ⟨ret_bool (by simp [hn]), HB.out _⟩

set_option maxRecDepth 100000 in
set_option maxHeartbeats 800000 in
theorem refRight_any (a : Vl) (w : World) (hs : a.s.size ≤ maxLen) :
    Calls Try.prog 53 #[a.val] w fun e w' => e = .returned (.bool a.right) ∧ Below w.heap.size w w' := by
  have HB := Lib.hid (fun (o1 : Obj) => ((Below.refl w.heap.size w).alloc (Nat.le_refl _) o1))
  obtain ⟨p, n, s⟩ := a
  unfold Vl.val Vl.right
  unfold maxLen at hs
  dsimp only at hs ⊢
  cases p
  · simp only [Bool.false_eq_true, if_false]
    go_enter Try.func53, Try.ntmps53
    go_wp2_with fail
    go_ret
    exact ⟨ret_bool (by rw [ByteArray.toList_eq]), HB.out _⟩
  · simp only [if_true]
    by_cases hn : n = 0
    · subst hn
      go_enter Try.func53, Try.ntmps53
      go_wp2_with fail
      go_ret
      exact ⟨ret_bool (by simp; omega), HB.out _⟩
    · have hnb : (n == 0) = false := by simpa using hn
      go_enter Try.func53, Try.ntmps53
      go_wp2_with fail
      go_ret
      exact ⟨ret_bool (by simp [hn]), HB.out _⟩
end Go.Proofs.Ytpfjeibhklacbaa
