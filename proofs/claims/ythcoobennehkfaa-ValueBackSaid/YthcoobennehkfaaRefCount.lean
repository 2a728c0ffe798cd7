/- The reference's bytes of a count, a number. -/
import Derived.Test.YthcoobennehkfaaNum
namespace Go.Proofs.Ythcoobennehkfaa
open Go.RowKit

theorem bytes_one {P : Program} (W : World) (src dst e : TypeId) (b : UInt8) (hs : P.underlying src = some (.slice e)) (he : P.underlying e = some (.int .u8)) (hd : P.underlying dst = some .string) :
    (convert src dst (.slice (some ⟨W.heap.size, 0, none⟩) 1 1)).run P (W.alloc (.cells #[.int .u8 (b.toNat : Int)] e)) = .ok (.string ⟨#[b]⟩) (W.alloc (.cells #[.int .u8 (b.toNat : Int)] e)) := by
  refine run_convert_bytes_back (W.alloc (.cells #[.int .u8 (b.toNat : Int)] e)) src dst e ⟨W.heap.size, 0, none⟩ 1 [b] hs he hd fun j hj => ?_
  have : j = 0 := by simp at hj; omega
  subst this
  have : (⟨W.heap.size, 0, none⟩ : Addr).add 0 = ⟨W.heap.size, 0, none⟩ := by simp [Addr.add]
  rw [this, World.cell?_alloc_at _ _ _ _ rfl]; rfl

set_option maxRecDepth 100000 in
set_option maxHeartbeats 800000 in
theorem refCount_any (n : Int) (w : World) (h0 : 0 ≤ n) (h1 : n ≤ 18446744073709551615) :
    Calls Try.prog 67 #[.int .u64 n] w fun e w' => e = .returned (.string ⟨(enc n.toNat).toArray⟩) ∧ Below w.heap.size w w' := by
  go_enter Try.func67, Try.ntmps67
  go_wp2
  go_loopw [0, 3] (fun m v wr => ∃ (k : Nat) (pre : List UInt8), m = .int .u64 (k : Int) ∧ k ≤ 18446744073709551615 ∧ pre ++ enc k = enc n.toNat ∧
      v = .string ⟨pre.toArray⟩ ∧ Below w.heap.size w wr)
    (fun m _ _ => (intOf m).toNat)
  case atStart => exact ⟨n.toNat, [], by rw [Int.toNat_of_nonneg h0], by omega, rfl, rfl, Below.refl _ _⟩
  case round =>
    obtain ⟨k, pre, rfl, hk, hpre, rfl, hb⟩ := hrel
    have hlen : pre.length + 1 ≤ 10 := by
      have := congrArg List.length hpre
      have h2 := enc_len10 (n := n.toNat) (by omega)
      have h3 := enc_pos k
      simp at this; omega
    have Hpre := Lib.hid hpre; clear hpre
    have hsz := hb.size
    by_cases hc : 128 ≤ k
    · have hcv := bytes_one (P := Try.prog) wr 62 9 5 (UInt8.ofNat (k % 128 + 128)) Try.underlying62 Try.underlying5 Try.underlying9
      have e1 : ((UInt8.ofNat (k % 128 + 128)).toNat : Int) = (k : Int) % 128 + 128 := by simp; omega
      rw [e1] at hcv
      clear e1
      go_wp2
      go_roundw
      case rel => exact ⟨k / 128, pre ++ [UInt8.ofNat (k % 128 + 128)], by go_num, by omega, by rw [← Hpre.out, enc_ge hc]; simp, by rw [str_app1]; simp, hb.alloc hsz _⟩
      case measure => simp [intOf]; omega
    · have hcv := bytes_one (P := Try.prog) wr 62 9 5 (UInt8.ofNat k) Try.underlying62 Try.underlying5 Try.underlying9
      have e1 : ((UInt8.ofNat k).toNat : Int) = (k : Int) := by simp; omega
      rw [e1] at hcv
      clear e1
      go_wp2
      go_ret
      refine ⟨?_, hb.alloc hsz _⟩
      rw [← Hpre.out, enc_lt (by omega)]
      show Ending.returned (.string (_ ++ ⟨#[_]⟩)) = _
      rw [str_app1]
end Go.Proofs.Ythcoobennehkfaa
