/- Ahead is the order of times, in each part. -/
import Derived.Test.YtpfjeibhklacbaaEach
import Derived.Test.YtpfjeibhklacbaaEql
import Derived.BigQuiet
namespace Go.Proofs.Ytpfjeibhklacbaa
open Go Go.RowKit
attribute [local go_sem ↓] Go.wp_at_zero Go.wp_at_succ

theorem max_le (a b c d : Nat) : ((((max a c : Nat) : Int) == (c : Int)) && (((max b d : Nat) : Int) == (d : Int))) = (decide (a ≤ c) && decide (b ≤ d)) := by
  rw [Bool.eq_iff_iff]; simp only [Bool.and_eq_true, beq_iff_eq, decide_eq_true_eq]; omega

set_option maxRecDepth 100000 in
set_option maxHeartbeats 800000 in
theorem ahead_any (s t : Tm) (w : World) :
    Calls Try.prog 41 #[s.val, t.val] w fun e w' => e = .returned (.bool (s.le t)) ∧ Below w.heap.size w w' := by
  obtain ⟨a, b, c⟩ := s
  obtain ⟨x, y, z⟩ := t
  unfold Tm.val Tm.le
  dsimp only
  by_cases h : a ≤ x
  · have heq := eql_rounds ((max b y : Nat) : Int) ((max c z : Nat) : Int) (y : Int) (z : Int)
    have hgd := fun (x1 y1 : Operand) (xs ys : Array Value) (w : World) => grd_rounds .eql x1 y1 xs ys w
    have hle : decide ((a : Int) ≤ (x : Int)) = true := by simp; omega
    have hm := max_le b c y z
    simp only [hm] at heq
    have hr : (decide (a ≤ x) && (decide (b ≤ y) && decide (c ≤ z))) = (decide (b ≤ y) && decide (c ≤ z)) := by simp [h]
    rw [hr]
    clear hm hr
    generalize (decide (b ≤ y) && decide (c ≤ z)) = r at heq
    go_enter Try.func41, Try.ntmps41
    go_wp2_with fail
    go_region_held3 (fun w' => w'.cell? ⟨w.heap.size, 0, none⟩ = some (.int .u64 (a : Int)) ∧ w'.cell? ⟨w.heap.size, 1, none⟩ = some (.int .u64 (b : Int)) ∧ w'.cell? ⟨w.heap.size, 2, none⟩ = some (.int .u64 (c : Int)) ∧
        w'.cell? ⟨w.heap.size + 1, 0, none⟩ = some (.int .u64 (x : Int)) ∧ w'.cell? ⟨w.heap.size + 1, 1, none⟩ = some (.int .u64 (y : Int)) ∧ w'.cell? ⟨w.heap.size + 1, 2, none⟩ = some (.int .u64 (z : Int)))
      (first | go_keep | (refine ⟨?_, ?_, ?_, ?_, ?_, ?_⟩ <;> (refine (hb.cell (by first | (simp; done) | (simp; omega))).trans ?_; simp [go_sem])))
      (first | (go_at_call 60; refine (each_greater _ _ _ _ _).mono ?_; rintro e w1 ⟨rfl, hb⟩))
    go_wp2_with fail
    go_ret
    exact ⟨rfl, ((((Below.refl _ _).alloc (Nat.le_refl _) _).alloc (by simp) _).drew).trans (hb.mono (by simp; omega))⟩
  · have hr : (decide (a ≤ x) && (decide (b ≤ y) && decide (c ≤ z))) = false := by simp [h]
    have hn : decide (a ≤ x) = false := by simpa using h
    rw [hr]
    clear hr h
    go_enter Try.func41, Try.ntmps41
    go_wp2_with fail
    go_quiet (fail)
    go_wp2_with fail
    go_ret
    exact ⟨rfl, below_draws (((Below.refl _ _).alloc (Nat.le_refl _) _).alloc (by simp) _) _⟩
end Go.Proofs.Ytpfjeibhklacbaa
