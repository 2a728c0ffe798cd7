/- The reference takes a count as the plain function does. -/
import Derived.Test.YthcoobennehkfaaTakeCount
namespace Go.Proofs.Ythcoobennehkfaa
open Go.RowKit

theorem mul_walk {k x : Nat} (hk : k ≤ 9) (h9 : k = 9 → x ≤ 1) : IntKind.u64.wrap ((x : Int) % 128 * ((128 ^ k : Nat) : Int)) = ((x % 128 * 128 ^ k : Nat) : Int) := by
  have hf := fits hk h9
  have e : (x : Int) % 128 * ((128 ^ k : Nat) : Int) = ((x % 128 * 128 ^ k : Nat) : Int) := by rw [Int.natCast_mul]; rfl
  rw [e]
  exact IntWalk.u64_in _ ⟨by omega, by omega⟩
theorem sum_lt {k n x : Nat} (hk : k ≤ 9) (h9 : k = 9 → x ≤ 1) (hn : n < 128 ^ k) : n + x % 128 * 128 ^ k ≤ 18446744073709551615 := by
  by_cases h : k = 9
  · subst h
    have := h9 rfl
    have : x = 0 ∨ x = 1 := by omega
    rcases this with rfl | rfl <;> omega
  · have h1 := gather_lt (x := x) hn
    have : 128 ^ (k + 1) ≤ 128 ^ 9 := Nat.pow_le_pow_right (by omega) (by omega)
    omega
theorem pow8 {k : Nat} (h : k < 9) : 128 ^ k ≤ 72057594037927936 := by
  have : 128 ^ k ≤ 128 ^ 8 := Nat.pow_le_pow_right (by omega) (by omega)
  omega

set_option maxRecDepth 100000 in
set_option maxHeartbeats 800000 in
theorem refTakeCount_any (s : ByteArray) (w : World) (hs : s.size ≤ maxLen) :
    Calls Try.prog 51 #[.string s] w fun e w' => e = .returned (triple (tc 0 0 s.data.toList)) ∧ Below w.heap.size w w' := by
  unfold maxLen at hs
  go_enter Try.func51, Try.ntmps51
  go_wp2
  go_loop [5, 6, 7] (fun n p i => ∃ (N W k : Nat), n = .int .u64 (N : Int) ∧ p = .int .u64 (W : Int) ∧ i = .int .i64 (k : Int) ∧ W = 128 ^ k ∧ k ≤ s.size ∧ k ≤ 9 ∧ N < 128 ^ k ∧ tc 0 0 s.data.toList = tc k N (s.data.toList.drop k))
    (fun _ _ i => s.size - (intOf i).toNat)
  case atStart => exact ⟨0, 1, 0, rfl, rfl, rfl, rfl, by omega, by omega, by omega, by simp⟩
  case round =>
    obtain ⟨N, W, k, rfl, rfl, rfl, hW, hk, hk9, hN, htc⟩ := hrel
    have Htc := Lib.hid htc; clear htc
    have HN := Lib.hid hN; clear hN
    have HW := Lib.hid hW; clear hW
    by_cases hlt : k < s.size
    · have hne : ((k : Int) == (s.size : Int)) = false := by simp; omega
      by_cases hbad : (k = 9 ∧ 1 < s[k].toNat) ∨ (0 < k ∧ s[k].toNat = 0)
      · have Hres := Lib.hid (Htc.out.trans (tc_bad s k N hlt hbad))
        have Hbad := Lib.hid hbad; clear hbad
        go_wp2
        all_goals first
          | (go_ret3; exact ⟨by rw [Hres.out]; rfl, Below.refl _ _⟩)
          | (exfalso; have h := Hbad.out; simp_all; omega)
          | (exfalso; have h := Hbad.out; simp_all; done)
      · have hmul := mul_walk (x := s[k].toNat) hk9 (fun h => by omega)
        have hsum := sum_lt (x := s[k].toNat) hk9 (fun h => by omega) HN.out
        have hb1 : s[k].toNat < 256 := s[k].toNat_lt
        have hg := Lib.hid (gather_lt (x := s[k].toNat) HN.out)
        have hk8 : ¬ s[k].toNat < 128 → k < 9 := by omega
        have h3 : (k = 9 ∧ s[k].toNat = 1) ∨ k = 0 ∨ (0 < k ∧ k ≠ 9 ∧ s[k].toNat ≠ 0) := by omega
        have Hbad := Lib.hid hbad; clear hbad
        generalize hM : s[k].toNat % 128 * 128 ^ k = M at hmul hg hsum
        have HM := Lib.hid hM; clear hM
        rw [← HW.out] at hmul
        have tests : (((k : Int) == 9) = true ∧ decide ((1 : Int) < (s[k].toNat : Int)) = false ∧ 0 < k ∧ ((s[k].toNat : Int) == 0) = false) ∨
            (((k : Int) == 9) = false ∧ ¬ 0 < k) ∨ (((k : Int) == 9) = false ∧ 0 < k ∧ ((s[k].toNat : Int) == 0) = false) := by
          rcases h3 with ⟨h3, h4⟩ | h3 | ⟨h3, h4, h5⟩
          · left; simp; omega
          · right; left; simp; omega
          · right; right; simp; omega
        clear h3
        by_cases hl : s[k].toNat < 128
        · have Hres := Lib.hid (Htc.out.trans (tc_last s k N hlt Hbad.out hl))
          rcases tests with ⟨t1, t2, t3, t4⟩ | ⟨t1, t2⟩ | ⟨t1, t2, t3⟩
          all_goals
            go_wp2
            go_quiet (fail)
            go_wp2
            go_ret3
            refine ⟨?_, ?_⟩
            · rw [Hres.out, HM.out]
              show Ending.returned (.tuple #[_, .string (s.extract (k + 1) s.size), _]) = _
              rw [extract_from]; rfl
            · exact below_draws (Below.refl _ _) _
        · have hw8 : W ≤ 72057594037927936 := by rw [HW.out]; exact pow8 (hk8 hl)
          rcases tests with ⟨t1, t2, t3, t4⟩ | ⟨t1, t2⟩ | ⟨t1, t2, t3⟩
          all_goals
            go_wp2
            go_round
            case rel => exact ⟨N + M, W * 128, k + 1, by go_num, by go_num, by go_num, by rw [HW.out, Nat.pow_succ], by omega, by omega, hg.out, by rw [Htc.out, tc_more s k N hlt Hbad.out hl, HM.out]⟩
            case measure => simp [intOf]; omega
    · have heq : ((k : Int) == (s.size : Int)) = true := by simp; omega
      have Hres := Lib.hid (Htc.out.trans (tc_end s k N (by omega)))
      go_wp2
      go_ret3
      exact ⟨by rw [Hres.out]; rfl, Below.refl _ _⟩
end Go.Proofs.Ythcoobennehkfaa
