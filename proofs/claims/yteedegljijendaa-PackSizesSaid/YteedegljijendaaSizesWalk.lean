/- The walk of the law on the sizes of counts and numbers. -/
import Derived.Test.YteedegljijendaaNumber
namespace Go.Proofs.Yteedegljijendaa
open Go.RowKit

theorem zig_neg (m : Int) : zig (-1 - m) / 2 = zig m / 2 := by unfold zig; split <;> split <;> omega
theorem enc_len_congr {a b : Nat} (h : a / 2 = b / 2) : (enc a).length = (enc b).length := by
  have : ∀ f a b, a < f → a / 2 = b / 2 → (enc a).length = (enc b).length := by
    intro f
    induction f with
    | zero => intro a b ha; omega
    | succ f ih =>
      intro a b ha h
      by_cases h1 : a < 128
      · rw [enc_lt h1, enc_lt (by omega)]; rfl
      · rw [enc_ge (by omega), enc_ge (n := b) (by omega), List.length_cons, List.length_cons, ih (a / 128) (b / 128) (by omega) (by omega)]
  exact this (a + 1) a b (by omega) h

theorem size_enc (l : List UInt8) : (⟨l.toArray⟩ : ByteArray).size = l.length := by simp [ByteArray.size]

set_option maxRecDepth 100000 in
set_option maxHeartbeats 400000 in
theorem sizes_walk (n m : Int) (w : World) (h0 : 0 ≤ n) (h1 : n ≤ 18446744073709551615) (m0 : -9223372036854775808 ≤ m) (m1 : m ≤ 9223372036854775807) :
    Calls Try.prog 11 #[.int .u64 n, .int .i64 m] w fun e w' => e = .returned (.bool true) ∧ Below w.heap.size w w' := by
  have H2 := Lib.hid (enc_len_congr (zig_neg m))
  have hl2 := enc_len10 (n := n.toNat) (by omega)
  go_enter Try.func11, Try.ntmps11
  go_wp2_with fail
  refine (counts_true _).mono ?_
  rintro e w1 ⟨rfl, hb1⟩
  go_wp2_with fail
  go_loop [5, 6] (fun k x => ∃ (a b : Nat), k = .int .i64 (a : Int) ∧ x = .int .u64 (b : Int) ∧ b ≤ 18446744073709551615 ∧ a + (enc b).length = 1 + (enc n.toNat).length)
    (fun _ x => (intOf x).toNat)
  case atStart => exact ⟨1, n.toNat, by rfl, by rw [Int.toNat_of_nonneg h0], by omega, rfl⟩
  case round =>
    obtain ⟨a, b, rfl, rfl, hb, hab⟩ := hrel
    have hp := enc_pos b
    have ha : a ≤ 10 := by omega
    have Hab := Lib.hid hab; clear hab
    by_cases hc : 128 ≤ b
    · go_wp2_with fail
      go_round
      case rel => exact ⟨a + 1, b / 128, by go_num, by go_num, by omega, by have := Hab.out; rw [enc_ge hc, List.length_cons] at this; omega⟩
      case measure => simp [intOf]; omega
    · go_wp2_with fail
      refine (count_any _ _ h0 h1).mono ?_
      rintro e w2 ⟨rfl, hb2⟩
      have e1 : (⟨(enc n.toNat).toArray⟩ : ByteArray).size = a := by rw [size_enc]; have := Hab.out; rw [enc_lt (by omega)] at this; simp at this; omega
      have e2 : (((⟨(enc n.toNat).toArray⟩ : ByteArray).size : Int) == (a : Int)) = true := by rw [e1]; simp
      go_wp2_with fail
      refine (number_any m _ m0 m1).mono ?_
      rintro e w3 ⟨rfl, hb3⟩
      clear e1 e2
      go_wp2_with fail
      refine (number_any (-1 - m) _ (by omega) (by omega)).mono ?_
      rintro e w4 ⟨rfl, hb4⟩
      have e1 : (⟨(enc (zig (-1 - m))).toArray⟩ : ByteArray).size = (⟨(enc (zig m)).toArray⟩ : ByteArray).size := by rw [size_enc, size_enc, H2.out]
      go_wp2_with fail
      go_ret
      refine ⟨rfl, hb1.trans ((hb2.trans ((hb3.trans (hb4.mono hb3.size)).mono hb2.size)).mono hb1.size)⟩
end Go.Proofs.Yteedegljijendaa
