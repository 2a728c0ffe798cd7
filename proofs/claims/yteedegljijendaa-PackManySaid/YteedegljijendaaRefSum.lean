/- The reference's checksum is the same; the walk of the law on checksums. -/
import Derived.Test.YteedegljijendaaStep
namespace Go.Proofs.Yteedegljijendaa
open Go.RowKit

set_option maxRecDepth 100000 in
set_option maxHeartbeats 400000 in
theorem refSum_any (s : ByteArray) (w : World) (hs : s.size ≤ maxLen) :
    Calls Try.prog 15 #[.string s] w fun e w' => e = .returned (.int .u32 (sumS s.data.toList : Int)) ∧ w = w' := by
  unfold maxLen at hs
  have hdef : sumS s.data.toList = 4294967295 - regS 4294967295 s.data.toList := rfl
  have Hdef := Lib.hid hdef; clear hdef
  go_enter Try.func15, Try.ntmps15
  go_wp2
  go_loop [3, 4] (fun c i => ∃ k : Nat, k ≤ s.size ∧ i = .int .i64 (k : Int) ∧ c = .int .u32 ((regS 4294967295 (s.data.toList.take k) : Nat) : Int)) (fun _ i => s.size - (intOf i).toNat)
  case atStart => exact ⟨0, by omega, rfl, rfl⟩
  case round =>
    obtain ⟨k, hk, rfl, rfl⟩ := hrel
    have hlt := regS_lt (s.data.toList.take k) 4294967295 (by omega)
    by_cases hk' : k < s.size
    · have Hs := Lib.hid (regS_at s k hk')
      generalize regS 4294967295 (s.data.toList.take k) = d at hlt Hs
      have hb : s[k].toNat < 256 := s[k].toNat_lt
      have hxor := xor_walk hlt (show s[k].toNat < 4294967296 by omega)
      have h0 : d ^^^ s[k].toNat < 4294967296 := xor_lt hlt (by omega)
      go_wp2
      go_loop [3, 5] (fun c i => ∃ j : Nat, j ≤ 8 ∧ i = .int .i64 (j : Int) ∧ c = .int .u32 ((bitsS j (d ^^^ s[k].toNat) : Nat) : Int)) (fun _ i => 8 - (intOf i).toNat)
      case atStart => exact ⟨0, by omega, rfl, rfl⟩
      case round =>
        obtain ⟨j, hj, rfl, rfl⟩ := hrel
        clear hxor
        have hlt' := bitsS_lt j _ h0
        have hs' := bitsS_succ j (d ^^^ s[k].toNat)
        generalize hg : bitsS j (d ^^^ s[k].toNat) = g at hlt' hs'
        have Hg := Lib.hid hg; clear hg
        have hxor : bits .xor .u32 ((g : Int) / 2) 2197175160 = ((g / 2 ^^^ 2197175160 : Nat) : Int) := xor_walk (show g / 2 < 4294967296 by omega) (show 2197175160 < 4294967296 by omega)
        have Hs' := Lib.hid hs'; clear hs'
        by_cases h8 : j < 8
        · by_cases ho : g % 2 = 1
          · have ht : (((g : Int) % 2) == 1) = true := by simp; omega
            have hs := Lib.hid (Hs'.out.trans (bitS_odd ho))
            go_wp2
            go_round
            case rel => exact ⟨j + 1, by omega, by go_num, by rw [hs.out]⟩
            case measure => simp [intOf]; omega
          · have ht : (((g : Int) % 2) == 1) = false := by simp; omega
            have hs := Lib.hid (Hs'.out.trans (bitS_even ho))
            go_wp2
            go_round
            case rel => exact ⟨j + 1, by omega, by go_num, by rw [hs.out]; go_num⟩
            case measure => simp [intOf]; omega
        · obtain rfl : j = 8 := by omega
          go_wp2
          go_round
          case rel => exact ⟨k + 1, by omega, by go_num, by rw [Hs.out, ← Hg.out]; rfl⟩
          case measure => simp [intOf]; omega
    · obtain rfl : k = s.size := by omega
      rw [List.take_of_length_le (by simp)] at hlt ⊢
      go_wp2
      go_ret
      refine ⟨?_, rfl⟩
      rw [Hdef.out]
      generalize regS 4294967295 s.data.toList = d at hlt
      show Ending.returned (.int .u32 (4294967295 - (d : Int))) = .returned (.int .u32 ((4294967295 - d : Nat) : Int))
      congr 2
      omega

theorem sumS_digits : sumS [49, 50, 51, 52, 53, 54, 55, 56, 57] = 3808858755 := by decide +kernel

set_option maxRecDepth 100000 in
set_option maxHeartbeats 400000 in
theorem sums_true (w : World) : Calls Try.prog 13 #[] w fun e w' => e = .returned (.bool true) ∧ Below w.heap.size w w' := by
  have c1 := fun w => Lib.hid (sum_any ⟨#[49, 50, 51, 52, 53, 54, 55, 56, 57]⟩ w (by unfold maxLen; decide))
  rw [show (⟨#[49, 50, 51, 52, 53, 54, 55, 56, 57]⟩ : ByteArray).data.toList = [49, 50, 51, 52, 53, 54, 55, 56, 57] from rfl, sumS_digits] at c1
  go_enter Try.func13, Try.ntmps13
  go_wp2_with fail
  refine (c1 _).out.mono ?_
  rintro e w1 ⟨rfl, h1⟩
  go_wp2_with fail
  go_ret
  exact ⟨rfl, h1⟩

set_option maxRecDepth 100000 in
set_option maxHeartbeats 400000 in
theorem sums_walk (s : ByteArray) (w : World) (hs : s.size ≤ maxLen) :
    Calls Try.prog 3 #[.string s] w fun e w' => e = .returned (.bool true) ∧ Below w.heap.size w w' := by
  go_enter Try.func3, Try.ntmps3
  go_wp2_with fail
  refine (sums_true _).mono ?_
  rintro e w1 ⟨rfl, h1⟩
  go_wp2_with fail
  refine (sum_any s _ hs).mono ?_
  rintro e w2 ⟨rfl, h2⟩
  go_wp2_with fail
  refine (refSum_any s _ hs).mono ?_
  rintro e w3 ⟨rfl, rfl⟩
  go_wp2_with fail
  go_ret
  exact ⟨by simp, h1.trans (h2.mono h1.size)⟩
end Go.Proofs.Yteedegljijendaa
