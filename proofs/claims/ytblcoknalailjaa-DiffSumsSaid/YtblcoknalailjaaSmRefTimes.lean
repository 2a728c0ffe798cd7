/- Times, by the reference. -/
import Derived.Test.YtblcoknalailjaaSmAdd
namespace Go.Proofs.Ytblcoknalailjaa
open Go Go.RowKit

theorem wrap_fits (Q : Int) (h : fits Q = true) : wrap64 Q = Q := by rw [fits_iff] at h; unfold wrap64; omega
theorem fits_of (a : Int) (h1 : -9223372036854775808 ≤ a) (h2 : a ≤ 9223372036854775807) : fits a = true := (fits_iff a).2 ⟨h1, h2⟩
/-- a product that fits is divided back; one that does not, is not -/
theorem over_of_ne (a b c : Int) (hb : b ≠ 0) (hc : c = a * b) (h1 : -9223372036854775808 ≤ a) (h2 : a ≤ 9223372036854775807) (h : ¬ wrap64 ((wrap64 c).tdiv b) = a) : fits c = false := by
  cases hf : fits c with
  | false => rfl
  | true => exact absurd (by rw [wrap_fits _ hf, hc, Int.mul_tdiv_cancel _ hb, wrap_fits _ (fits_of a h1 h2)]) h
theorem fits_of_eq (a b : Int) (h3 : -9223372036854775808 ≤ b) (h4 : b ≤ 9223372036854775807) (hb : b ≠ 0) (hb1 : b ≠ -1) (h : wrap64 ((wrap64 (a * b)).tdiv b) = a) : fits (a * b) = true := by
  have hd := Int.mul_tdiv_add_tmod (wrap64 (a * b)) b
  have hr := Int.natAbs_tmod (wrap64 (a * b)) b
  have hr2 : (wrap64 (a * b)).natAbs % b.natAbs < b.natAbs := Nat.mod_lt _ (by omega)
  have hq : ((wrap64 (a * b)).tdiv b).natAbs = (wrap64 (a * b)).natAbs / b.natAbs := Int.natAbs_tdiv _ _
  have hn : (wrap64 (a * b)).natAbs ≤ 9223372036854775808 := by unfold wrap64; omega
  have hw : wrap64 ((wrap64 (a * b)).tdiv b) = (wrap64 (a * b)).tdiv b := by
    by_cases hb2 : b.natAbs = 1
    · have : b = 1 := by omega
      subst this
      rw [Int.tdiv_one]
      unfold wrap64
      omega
    · have h5 : (wrap64 (a * b)).natAbs / b.natAbs ≤ (wrap64 (a * b)).natAbs / 2 := Nat.div_le_div_left (by omega) (by omega)
      apply wrap_fits
      rw [fits_iff]
      generalize (wrap64 (a * b)).natAbs / b.natAbs = z at *
      generalize (wrap64 (a * b)).tdiv b = q at *
      omega
  rw [hw] at h
  rw [h] at hd
  rw [fits_iff]
  rw [Int.mul_comm b a] at hd
  generalize hQ : a * b = Q at *
  have hm : wrap64 Q = (Q + 9223372036854775808) % 18446744073709551616 - 9223372036854775808 := by unfold wrap64; rfl
  generalize (wrap64 Q).natAbs % b.natAbs = m at *
  generalize (wrap64 Q).tmod b = r at *
  generalize wrap64 Q = n at *
  clear hw hq hQ h
  omega

theorem fit_ret (c Q : Int) (hf : fits Q = true) (h : c = Q) : Ending.returned (.tuple #[.int .i64 c, .int .i64 0]) = .returned (.tuple #[.int .i64 (fitN Q), .int .i64 (fitE Q)]) := by
  subst h; unfold fitN fitE; rw [hf]; rfl
set_option maxRecDepth 100000 in
set_option maxHeartbeats 1600000 in
theorem refTimes_any (a b : Int) (w : World) (h1 : -9223372036854775808 ≤ a) (h2 : a ≤ 9223372036854775807) (h3 : -9223372036854775808 ≤ b) (h4 : b ≤ 9223372036854775807) :
    Calls Try.prog 8 #[.int .i64 a, .int .i64 b] w fun e w' => e = .returned (.tuple #[.int .i64 (fitN (a * b)), .int .i64 (fitE (a * b))]) ∧ w = w' := by
  have HB := Lib.hid (And.intro (And.intro h1 h2) (And.intro h3 h4))
  clear h1 h2 h3 h4
  by_cases ha : a = 0
  · subst ha
    go_enter Try.func8, Try.ntmps8
    go_wp2_with fail
    go_ret2
    exact ⟨by rw [Int.zero_mul]; rfl, rfl⟩
  · by_cases hb : b = 0
    · subst hb
      have ha1 : (a == 0) = false := by simpa using ha
      clear ha
      go_enter Try.func8, Try.ntmps8
      go_wp2_with fail
      go_ret2
      exact ⟨by rw [Int.mul_zero]; rfl, rfl⟩
    · have ha1 : (a == 0) = false := by simpa using ha
      have hb1 : (b == 0) = false := by simpa using hb
      by_cases hc : a = -1
      · subst hc
        by_cases hm : b = -9223372036854775808
        · have e1 : wrap64 (-b) = b := by rw [hm]; unfold wrap64; decide
          have q1 : b < 0 := by omega
          have q2 : 0 < wrap64 (b - 1) := by rw [hm]; unfold wrap64; decide
          have hf : fits (-1 * b) = false := by rw [hm]; decide
          have HF := Lib.hid hf
          clear hm hf
          go_enter Try.func8, Try.ntmps8
          go_wp2_with fail
          go_ret2
          exact ⟨by unfold fitN fitE; rw [HF.out]; rfl, rfl⟩
        · have e1 : wrap64 (-b) = -b := by have := HB.out; unfold wrap64; omega
          have e2 : (b == -b) = false := by simp; omega
          have e3 : (-b).tdiv b = -1 := by rw [Int.neg_tdiv, Int.tdiv_self hb]
          have e4 : (-b).tdiv (-1) = b := by rw [Int.tdiv_neg, Int.tdiv_one, Int.neg_neg]
          have e5 : wrap64 b = b := by have := HB.out; unfold wrap64; omega
          have e6 : wrap64 (-1) = -1 := by unfold wrap64; decide
          have hf : fits (-1 * b) = true := by have := HB.out; rw [fits_iff]; omega
          have hN := Lib.hid (And.intro hm hf)
          clear hm hf
          go_enter Try.func8, Try.ntmps8
          go_wp2_with fail
          all_goals
            go_ret2
            exact ⟨fit_ret _ _ hN.out.2 (by omega), rfl⟩
      · by_cases hd : b = -1
        · subst hd
          by_cases hm : a = -9223372036854775808
          · have e1 : wrap64 (-a) = a := by rw [hm]; unfold wrap64; decide
            have q1 : a < 0 := by omega
            have q2 : 0 < wrap64 (a - 1) := by rw [hm]; unfold wrap64; decide
            have hf : fits (a * -1) = false := by rw [hm]; decide
            have HF := Lib.hid hf
            clear hm hf
            go_enter Try.func8, Try.ntmps8
            go_wp2_with fail
            go_ret2
            exact ⟨by unfold fitN fitE; rw [HF.out]; rfl, rfl⟩
          · have e1 : wrap64 (-a) = -a := by have := HB.out; unfold wrap64; omega
            have e2 : (a == -a) = false := by simp; omega
            have e3 : (-a).tdiv a = -1 := by rw [Int.neg_tdiv, Int.tdiv_self ha]
            have e4 : (-a).tdiv (-1) = a := by rw [Int.tdiv_neg, Int.tdiv_one, Int.neg_neg]
            have e5 : wrap64 a = a := by have := HB.out; unfold wrap64; omega
            have e6 : wrap64 (-1) = -1 := by unfold wrap64; decide
            have e7 : (a == -1) = false := by simpa using hc
            have hf : fits (a * -1) = true := by have := HB.out; rw [fits_iff]; omega
            have hN := Lib.hid (And.intro hm hf)
            clear hm hf hc
            go_enter Try.func8, Try.ntmps8
            go_wp2_with fail
            all_goals
              go_ret2
              exact ⟨fit_ret _ _ hN.out.2 (by omega), rfl⟩
        · have hc1 : (a == -1) = false := by simpa using hc
          have hd1 : (b == -1) = false := by simpa using hd
          have hN := Lib.hid (And.intro ha (And.intro hb (And.intro hc hd)))
          clear hc hd
          go_enter Try.func8, Try.ntmps8
          go_wp2_with fail
          all_goals
            go_ret2
            refine ⟨?_, rfl⟩
            obtain ⟨⟨h1, h2⟩, h3, h4⟩ := HB.out
            obtain ⟨_, _, hc, hd⟩ := hN.out
          · have hf := over_of_ne b a (a * b) ha (Int.mul_comm a b) h3 h4 (by simp_all)
            unfold fitN fitE; rw [hf]; rfl
          · have hf := fits_of_eq a b h3 h4 hb hd (by assumption)
            unfold fitN fitE; rw [hf, wrap_fits _ hf]; rfl
          · have hf := over_of_ne a b (a * b) hb rfl h1 h2 (by assumption)
            unfold fitN fitE; rw [hf]; rfl
end Go.Proofs.Ytblcoknalailjaa
