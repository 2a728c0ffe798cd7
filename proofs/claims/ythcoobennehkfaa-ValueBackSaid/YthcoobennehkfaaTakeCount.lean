/- pack.TakeCount takes a count as the plain function does. -/
import Derived.Test.YthcoobennehkfaaProg
import Derived.Test.YthcoobennehkfaaTake
import Derived.Outline
import Derived.Deep.QuietTactic
import Derived.BigQuiet
namespace Go.Proofs.Ythcoobennehkfaa
open Go.RowKit

/-- three results: a count, the rest, why not -/
def triple (r : Nat × List UInt8 × Int) : Value := .tuple #[.int .u64 (r.1 : Int), .string ⟨r.2.1.toArray⟩, .int .i64 r.2.2]

set_option maxRecDepth 100000 in
set_option maxHeartbeats 800000 in
theorem takeCount_any (s : ByteArray) (w : World) (hs : s.size ≤ maxLen) :
    Calls Try.prog 49 #[.string s] w fun e w' => e = .returned (triple (tc 0 0 s.data.toList)) ∧ Below w.heap.size w w' := by
  unfold maxLen at hs
  go_enter Try.func49, Try.ntmps49
  go_wp2
  go_loop [5, 10] (fun n i => ∃ (N k : Nat), n = .int .u64 (N : Int) ∧ i = .int .i64 (k : Int) ∧ k ≤ s.size ∧ k ≤ 9 ∧ N < 128 ^ k ∧ tc 0 0 s.data.toList = tc k N (s.data.toList.drop k))
    (fun _ i => s.size - (intOf i).toNat)
  case atStart => exact ⟨0, 0, rfl, rfl, by omega, by omega, by omega, by simp⟩
  case round =>
    obtain ⟨N, k, rfl, rfl, hk, hk9, hN, htc⟩ := hrel
    have Htc := Lib.hid htc; clear htc
    have HN := Lib.hid hN; clear hN
    by_cases hlt : k < s.size
    · by_cases hbad : (k = 9 ∧ 1 < s[k].toNat) ∨ (0 < k ∧ s[k].toNat = 0)
      · have Hres := Lib.hid (Htc.out.trans (tc_bad s k N hlt hbad))
        have Hbad := Lib.hid hbad; clear hbad
        go_wp2
        all_goals first
          | (go_ret3; exact ⟨by rw [Hres.out]; rfl, Below.refl _ _⟩)
          | (exfalso; have h := Hbad.out; simp_all; omega)
          | (exfalso; have h := Hbad.out; simp_all; done)
      · have hor := or_walk (x := s[k].toNat) hk9 (fun h => by omega) HN.out
        have ha := andNot128 s[k]
        have hb1 : s[k].toNat < 256 := s[k].toNat_lt
        have hg := Lib.hid (gather_lt (x := s[k].toNat) HN.out)
        have hk8 : ¬ s[k].toNat < 128 → k < 9 := by omega
        have h3 : (k = 9 ∧ s[k].toNat = 1) ∨ k = 0 ∨ (0 < k ∧ k ≠ 9 ∧ s[k].toNat ≠ 0) := by omega
        have Hbad := Lib.hid hbad; clear hbad
        generalize hM : N + s[k].toNat % 128 * 128 ^ k = M at hor hg
        have HM := Lib.hid hM; clear hM
        have tests : (((k : Int) == 9) = true ∧ decide ((1 : Int) < (s[k].toNat : Int)) = false ∧ 0 < k ∧ ((s[k].toNat : Int) == 0) = false) ∨
            (((k : Int) == 9) = false ∧ ¬ 0 < k) ∨ (((k : Int) == 9) = false ∧ 0 < k ∧ ((s[k].toNat : Int) == 0) = false) := by
          rcases h3 with ⟨h3, h4⟩ | h3 | ⟨h3, h4, h5⟩
          · left; simp; omega
          · right; left; simp; omega
          · right; right; simp; omega
        clear h3
        by_cases hl : s[k].toNat < 128
        · have Hres := Lib.hid (Htc.out.trans (tc_last s k N hlt Hbad.out hl))
          rcases tests with ⟨t1, t2, t3, t4⟩ | ⟨t1, t2⟩ | ⟨t1, t2, t3⟩
          all_goals
            go_wp2
            go_quiet (fail)
            go_wp2
            go_ret3
            refine ⟨?_, ?_⟩
            · rw [Hres.out, HM.out]
              show Ending.returned (.tuple #[_, .string (s.extract (k + 1) s.size), _]) = _
              rw [extract_from]; rfl
            · exact below_draws (Below.refl _ _) _
        · rcases tests with ⟨t1, t2, t3, t4⟩ | ⟨t1, t2⟩ | ⟨t1, t2, t3⟩
          all_goals
            go_wp2
            go_round
            case rel => exact ⟨M, k + 1, rfl, by go_num, by omega, by omega, hg.out, by rw [Htc.out, tc_more s k N hlt Hbad.out hl, HM.out]⟩
            case measure => simp [intOf]; omega
    · have Hres := Lib.hid (Htc.out.trans (tc_end s k N (by omega)))
      go_wp2
      go_ret3
      exact ⟨by rw [Hres.out]; rfl, Below.refl _ _⟩
end Go.Proofs.Ythcoobennehkfaa
