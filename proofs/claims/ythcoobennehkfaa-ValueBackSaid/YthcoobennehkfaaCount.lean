/- pack.Count returns the bytes of a count. -/
import Derived.Test.YthcoobennehkfaaProg
import Derived.Test.YthcoobennehkfaaEnc
import Derived.Outline
namespace Go.Proofs.Ythcoobennehkfaa
open Go.RowKit

theorem infoU8 : (Try.prog.info? 5).map (fun i => (i.zero, i.size, i.bytes)) = some (some (.int .u8 0), 1, 1) := by kernel_rfl

set_option maxRecDepth 100000 in
set_option maxHeartbeats 800000 in
theorem count_any (n : Int) (w : World) (h0 : 0 ≤ n) (h1 : n ≤ 18446744073709551615) :
    Calls Try.prog 43 #[.int .u64 n] w fun e w' => e = .returned (.string ⟨(enc n.toNat).toArray⟩) ∧ Below w.heap.size w w' := by
  obtain ⟨i0, hi, hz0, hz1, hz2⟩ := info_parts infoU8
  go_enter Try.func43, Try.ntmps43
  go_wp2_with (at_make; refine wpList_make_own _ rfl _ _ 62 rfl w.heap.size 5 i0 (.int .u8 0) 1 Try.underlying62 hi hz0 hz1 _ _ _ 10 rfl rfl (by omega) ?b1 ?b2 ?b3 ?_)
  case b1 => omega
  case b2 => unfold maxLen; omega
  case b3 => exact Nat.le_refl _
  intro w1 hown hgr
  have hbw : Below w.heap.size w w1 := (Below.refl _ _).grown hgr (Nat.le_refl _) (by simp)
  go_wp2
  go_loopw [0, 3] (fun m v wr => ∃ (k : Nat) (pre : List UInt8), m = .int .u64 (k : Int) ∧ k ≤ 18446744073709551615 ∧ pre ++ enc k = enc n.toNat ∧
      wr.ownsRow w.heap.size 5 1 v pre.length (pre.map cellB) ∧ Below w.heap.size w wr)
    (fun m _ _ => (intOf m).toNat)
  case atStart => exact ⟨n.toNat, [], by rw [Int.toNat_of_nonneg h0], by omega, rfl, hown, hbw⟩
  case round =>
    obtain ⟨k, pre, rfl, hk, hpre, hown, hb⟩ := hrel
    have hlen : pre.length + 1 ≤ 10 := by
      have := congrArg List.length hpre
      have h2 := enc_len10 (n := n.toNat) (by omega)
      have h3 := enc_pos k
      simp at this; omega
    have Hpre := Lib.hid hpre; clear hpre
    have hU := Try.underlying62
    by_cases hc : 128 ≤ k
    · go_wp2_with (at_builtin; refine wpList_push _ rfl _ _ 62 rfl w.heap.size 5 i0 (.int .u8 0) 1 1 hU hi hz0 hz1 hz2 rfl (by decide) _ _ _ rfl hown _ rfl rfl ?c1 ?c2 ?c3 ?c4 ?_)
      case c1 => rfl
      case c2 => unfold maxLen; omega
      case c3 => omega
      case c4 => exact hb.size
      intro v' w' ho' hb' _ _
      rw [or128] at ho'
      have e1 : List.map cellB pre ++ [Value.int IntKind.u8 (↑k % 128 + 128)] = (pre ++ [UInt8.ofNat (k % 128 + 128)]).map cellB := by
        simp [cellB]; omega
      simp only [e1] at ho'
      go_wp2
      go_roundw
      case rel => exact ⟨k / 128, pre ++ [UInt8.ofNat (k % 128 + 128)], by go_num, by omega, by rw [← Hpre.out, enc_ge hc]; simp, by simpa using ho', hb.trans hb'⟩
      case measure => simp [intOf]; omega
    · go_wp2_with (at_builtin; refine wpList_push _ rfl _ _ 62 rfl w.heap.size 5 i0 (.int .u8 0) 1 1 hU hi hz0 hz1 hz2 rfl (by decide) _ _ _ rfl hown _ rfl rfl ?c1 ?c2 ?c3 ?c4 ?_)
      case c1 => rfl
      case c2 => unfold maxLen; omega
      case c3 => omega
      case c4 => exact hb.size
      intro v' w' ho' hb' _ _
      have e1 : List.map cellB pre ++ [Value.int IntKind.u8 ↑k] = (pre ++ [UInt8.ofNat k]).map cellB := by
        simp [cellB]; omega
      simp only [e1] at ho'
      have hcv := run_string_own (P := Try.prog) w' 62 9 5 _ v' _ _ hU Try.underlying5 Try.underlying9 (by simp) (by simp) ho'
      go_wp2
      go_ret
      exact ⟨by rw [← Hpre.out, enc_lt (by omega)]; rfl, hb.trans hb'⟩
end Go.Proofs.Ythcoobennehkfaa
