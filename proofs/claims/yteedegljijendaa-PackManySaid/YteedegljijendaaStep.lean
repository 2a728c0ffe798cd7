/- The program's checksum: its step, its loop, Sum. -/
import Derived.Test.YteedegljijendaaProg
import Derived.Test.YteedegljijendaaCrc
import Derived.Outline
namespace Go.Proofs.Yteedegljijendaa
open Go.RowKit

/-- block b is the register alone -/
def IsReg (w : World) (b c : Nat) : Prop := w.heap[b]? = some (.cells #[.int .u32 (c : Int)] 48 (0, 0))

set_option maxRecDepth 100000 in
set_option maxHeartbeats 400000 in
theorem step_any (b c x : Nat) (w : World) (hr : IsReg w b c) (hc : c < 4294967296) (hx : x < 256) :
    Calls Try.prog 35 #[.pointer (some ⟨b, 0, none⟩), .int .u8 (x : Int)] w fun e w' => e = .returned (.tuple #[]) ∧ IsReg w' b (byteS c x) ∧ w.grownBy w' (some b) := by
  have hcell := cell_of_one hr
  have hfree := free_of_one hr
  have hxor := xor_walk hc (show x < 4294967296 by omega)
  go_enter Try.func35, Try.ntmps35
  go_wp2
  have h0 : c ^^^ x < 4294967296 := xor_lt hc (by omega)
  go_loopw [12] (fun i wr => ∃ k : Nat, k ≤ 8 ∧ i = .int .i64 (k : Int) ∧ IsReg wr b (bitsS k (c ^^^ x)) ∧ w.grownBy wr (some b)) (fun i _ => 8 - (intOf i).toNat)
  case atStart => exact ⟨0, by omega, rfl, one_setCell hr, grown_set (World.grownBy.refl w _) _ _⟩
  case round =>
    obtain ⟨k, hk, rfl, hr', hg⟩ := hrel
    clear hcell hfree hxor
    have hlt := bitsS_lt k _ h0
    have hs := bitsS_succ k (c ^^^ x)
    have Hr := Lib.hid hr'
    generalize hd : bitsS k (c ^^^ x) = d at hr' hlt hs
    have Hd := Lib.hid hd; clear hd
    have hcell := cell_of_one hr'
    have hfree := free_of_one hr'
    have hand := and1_walk hlt
    have hxor : bits .xor .u32 ((d : Int) / 2) 2197175160 = ((d / 2 ^^^ 2197175160 : Nat) : Int) := xor_walk (show d / 2 < 4294967296 by omega) (show 2197175160 < 4294967296 by omega)
    have Hs := Lib.hid hs; clear hs
    by_cases h8 : k < 8
    · by_cases ho : d % 2 = 1
      · have ht : (((d : Int) % 2) == 1) = true := by simp; omega
        have hs := Lib.hid (Hs.out.trans (bitS_odd ho))
        go_wp2
        go_roundw
        case rel => exact ⟨k + 1, by omega, by go_num, by rw [hs.out]; exact one_setCell (one_setCell hr'), grown_set (grown_set hg _ _) _ _⟩
        case measure => simp [intOf]; omega
      · have ht : (((d : Int) % 2) == 1) = false := by simp; omega
        have hs := Lib.hid (Hs.out.trans (bitS_even ho))
        go_wp2
        go_roundw
        case rel => exact ⟨k + 1, by omega, by go_num, by rw [hs.out]; exact one_setCell hr', grown_set hg _ _⟩
        case measure => simp [intOf]; omega
    · obtain rfl : k = 8 := by omega
      go_wp2
      go_end0
      exact ⟨rfl, Hr.out, hg⟩

set_option maxRecDepth 100000 in
set_option maxHeartbeats 400000 in
theorem each_any (b : Nat) (s : ByteArray) (w : World) (hr : IsReg w b 4294967295) (hs : s.size ≤ maxLen) :
    Calls Try.prog 34 #[.string s, .func (.func 35) #[.pointer (some ⟨b, 0, none⟩)] #[]] w fun e w' => e = .returned (.tuple #[]) ∧ IsReg w' b (regS 4294967295 s.data.toList) ∧ w.grownBy w' (some b) := by
  unfold maxLen at hs
  go_enter Try.func34, Try.ntmps34
  go_wp2
  go_loopw [7] (fun i wr => ∃ k : Nat, k ≤ s.size ∧ i = .int .i64 (k : Int) ∧ IsReg wr b (regS 4294967295 (s.data.toList.take k)) ∧ w.grownBy wr (some b)) (fun i _ => s.size - (intOf i).toNat)
  case atStart => exact ⟨0, by omega, rfl, hr, World.grownBy.refl w _⟩
  case round =>
    obtain ⟨k, hk, rfl, hr', hg⟩ := hrel
    have hlt := regS_lt (s.data.toList.take k) 4294967295 (by omega)
    by_cases hk' : k < s.size
    · have Hs := Lib.hid (regS_at s k hk')
      have Hr := Lib.hid hr'; clear hr'
      generalize regS 4294967295 (s.data.toList.take k) = d at hlt Hs Hr
      have hb : s[k].toNat < 256 := s[k].toNat_lt
      go_wp2_with fail
      refine (step_any b d s[k].toNat _ Hr.out hlt hb).mono ?_
      rintro e w1 ⟨rfl, hr1, hg1⟩
      go_wp2_with fail
      go_roundw
      case rel => exact ⟨k + 1, by omega, by go_num, by rw [Hs.out]; exact hr1, grown_same hg hg1⟩
      case measure => simp [intOf]; omega
    · obtain rfl : k = s.size := by omega
      rw [List.take_of_length_le (by simp)] at hr'
      have Hr := Lib.hid hr'; clear hr'
      go_wp2
      go_end0
      exact ⟨rfl, Hr.out, hg⟩

set_option maxRecDepth 100000 in
set_option maxHeartbeats 400000 in
theorem sum_any (s : ByteArray) (w : World) (hs : s.size ≤ maxLen) :
    Calls Try.prog 14 #[.string s] w fun e w' => e = .returned (.int .u32 (sumS s.data.toList : Int)) ∧ Below w.heap.size w w' := by
  have hmf : ∀ (fn : Fn) (first cap : Array Value) (w : World), (Instr.makeFunc fn first cap).run Try.prog w = .ok (.func fn first cap) w := fun _ _ _ _ => rfl
  have hsl := Lib.hid (regS_lt s.data.toList 4294967295 (by omega))
  have hdef : sumS s.data.toList = 4294967295 - regS 4294967295 s.data.toList := rfl
  have Hdef := Lib.hid hdef; clear hdef
  go_enter Try.func14, Try.ntmps14
  go_wp2_with fail
  refine (each_any w.heap.size s _ (heap_alloc_new w _) hs).mono ?_
  rintro e w1 ⟨rfl, hr1, hg1⟩
  have hcell := cell_of_one hr1
  have hb : Below w.heap.size w w1 := ((Below.refl _ _).alloc (Nat.le_refl _) _).grown hg1 (by simp) (by simp)
  generalize regS 4294967295 s.data.toList = d at hsl Hdef hcell
  have hlt := hsl.out
  go_wp2
  go_ret
  refine ⟨?_, hb⟩
  rw [Hdef.out, ← not_walk hlt]
  rfl
end Go.Proofs.Yteedegljijendaa
