/- The form of an expression, as the program looks at it. -/
import Derived.Test.YtjidjpmdmcleoaaEMem
namespace Go.Proofs.Ytjidjpmdmcleoaa
open Go Go.RowKit

theorem eqV_zero (v : Vl) : eqV v Vl.zero = isZero v := by
  obtain ⟨t, n, s⟩ := v
  simp only [eqV, isZero, Vl.zero]
  have hs : (s.toList == (ByteArray.mk #[]).toList) = decide (s.size = 0) := by
    rw [Bool.eq_iff_iff, beq_iff_eq, decide_eq_true_eq, ByteArray.toList_eq, ByteArray.toList_eq, ← len_of, List.length_eq_zero_iff]
  rw [hs]
  cases t <;> rfl
theorem vals_one {w : World} {N : Nat} (v : Vl) (hN : w.heap.size = N) : Vals (w.alloc (.cells #[.bool v.t, .int .i64 v.n, .string v.s] 24)) (w.alloc (.cells #[.bool v.t, .int .i64 v.n, .string v.s] 24)).heap.size (some ⟨N, 0, none⟩) [v] := fun _ => by
  subst hN
  have ho := Own.made w 24 v.cells
  refine ⟨_, _, rfl, by simp, fun i x hx => ?_⟩
  match i, hx with
  | 0, hx =>
    obtain rfl : v = x := by simpa using hx
    exact ⟨ho.at_ 0, ho.at_ 1, ho.at_ 2⟩
theorem chkRow_cases (l : List Vl) : chkRow l = 0 ∨ chkRow l = 4 := by unfold chkRow; split <;> simp

set_option maxRecDepth 100000 in
set_option maxHeartbeats 1600000 in
theorem constant_any (op : Int) (v : Vl) (w : World) (hv : VOk v) :
    Calls Try.prog 44 #[.int .u8 op, v.val] w fun e w' => e = .returned (.bool (constOk op v)) ∧ Below w.heap.size w w' := by
  by_cases h2 : op = 2
  · subst h2
    have hc : ∀ W A c, Vals W W.heap.size A [v] → Hid (Calls Try.prog 27 #[.slice A 1 c] W fun e w' => e = .returned (.int .i64 (chkRow [v])) ∧ Below W.heap.size W w') :=
      fun W A c h => Lib.hid (vcheck_any A c [v] W h (by unfold maxLen; simp) (by simpa using hv.1))
    have hb := Lib.hid (show constOk 2 v = (chkRow [v] == 0) from rfl)
    unfold Vl.val
    generalize chkRow [v] = R at *
    clear hv
    go_enter Try.func44, Try.ntmps44
    go_wp2_with fail
    refine (hc _ _ _ (vals_one v (by simp))).out.mono ?_
    rintro e w1 ⟨rfl, b1⟩
    have B1 := Lib.hid b1
    clear b1
    go_wp2_with fail
    go_ret
    exact ⟨ret_bool hb.out.symm, below_then (((Below.refl _ _).alloc (Nat.le_refl _) _).alloc (by simp) _) (by simp) B1.out⟩
  · have t1 : (op == 2) = false := by simpa using h2
    have he := eql_val v Vl.zero
    have hgd := fun (x1 y1 : Operand) (xs ys : Array Value) (w : World) => grd_val .eql x1 y1 xs ys w
    have hb := Lib.hid (show constOk op v = isZero v by unfold constOk; rw [if_neg h2])
    rw [eqV_zero] at he
    unfold Vl.zero at he
    unfold Vl.val at he ⊢
    dsimp only at he
    generalize isZero v = z at *
    clear h2 hv
    go_enter Try.func44, Try.ntmps44
    go_wp2_with fail
    all_goals
      go_ret
      exact ⟨ret_bool hb.out.symm, (Below.refl _ _).alloc (Nat.le_refl _) _⟩
end Go.Proofs.Ytjidjpmdmcleoaa
