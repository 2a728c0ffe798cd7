/- The reference's sums, of one wide number. -/
import Derived.Test.YtblcoknalailjaaSmAdd
namespace Go.Proofs.Ytblcoknalailjaa
open Go Go.RowKit

def wideV (S : Int) : Value := .agg #[.int .i64 (S / 18446744073709551616), .int .u64 (loW S)]
set_option maxRecDepth 100000 in
set_option maxHeartbeats 800000 in
theorem plus_any (S n : Int) (w : World) (h1 : -9223372036854775808 ≤ n) (h2 : n ≤ 9223372036854775807) (h3 : -85070591730234615865843651857942052864 ≤ S) (h4 : S < 85070591730234615865843651857942052864) :
    Calls Try.prog 13 #[.agg #[.int .i64 (S / 18446744073709551616), .int .u64 (loW S)], .int .i64 n] w fun e w' => e = .returned (.agg #[.int .i64 ((S + n) / 18446744073709551616), .int .u64 (loW (S + n))]) ∧ Below w.heap.size w w' := by
  have l0 := loW_bound S
  have e1 : IntKind.u64.wrap (loW S + IntKind.u64.wrap n) = loW (S + n) := by rw [wrapU, wrapU]; unfold loW; omega
  have q0 : 0 ≤ S / 18446744073709551616 + 4611686018427387904 := by omega
  have q1 : S / 18446744073709551616 < 4611686018427387904 := by omega
  have e2 : ((loW (S + n) < loW S ∧ n < 0 → (S + n) / 18446744073709551616 = S / 18446744073709551616) ∧ (loW (S + n) < loW S ∧ 0 ≤ n → (S + n) / 18446744073709551616 = S / 18446744073709551616 + 1)) ∧ ((loW S ≤ loW (S + n) ∧ n < 0 → (S + n) / 18446744073709551616 = S / 18446744073709551616 - 1) ∧ (loW S ≤ loW (S + n) ∧ 0 ≤ n → (S + n) / 18446744073709551616 = S / 18446744073709551616)) := by unfold loW; omega
  generalize S / 18446744073709551616 = H at *
  generalize (S + n) / 18446744073709551616 = H' at *
  generalize loW (S + n) = L at *
  generalize loW S = L0 at *
  have HE := Lib.hid e2
  clear e2
  go_enter Try.func13, Try.ntmps13
  go_wp2_with fail
  all_goals
    have e2 := HE.out
    exact bodyPost_ret (v := .agg #[.int .i64 H', .int .u64 L]) (by simp [results, Try.results13, go_sem]; omega) rfl ⟨rfl, ((Below.refl _ _).alloc (Nat.le_refl _) _).alloc (by simp) _⟩
set_option maxRecDepth 100000 in
set_option maxHeartbeats 800000 in
theorem fit_any (S : Int) (w : World) (h3 : -85070591730234615865843651857942052864 ≤ S) (h4 : S < 85070591730234615865843651857942052864) :
    Calls Try.prog 14 #[.agg #[.int .i64 (S / 18446744073709551616), .int .u64 (loW S)]] w fun e w' => e = .returned (.tuple #[.int .i64 (fitN S), .int .i64 (fitE S)]) ∧ Below w.heap.size w w' := by
  obtain ⟨l1, l2⟩ := loW_bound S
  have e0 : wrap64 (loW S) = sg (loW S) := wrapS _ l1 l2
  have hs := Lib.hid (sg_lo S)
  have hs2 : S / 18446744073709551616 = 0 ∧ 0 ≤ sg (loW S) ∨ S / 18446744073709551616 = -1 ∧ sg (loW S) < 0 ↔ fits S = true := by
    rw [fits_iff]; unfold sg loW; split <;> omega
  have HS := Lib.hid hs2
  clear hs2 l1 l2
  go_enter Try.func14, Try.ntmps14
  go_wp2_with fail
  all_goals
    go_ret2
    refine ⟨?_, (Below.refl _ _).alloc (Nat.le_refl _) _⟩
    have hs2 := HS.out
    by_cases hf : fits S = true
    · have h6 := hs.out hf
      have h7 := hs2.2 hf
      first
      | (exfalso; omega)
      | (unfold fitN fitE; rw [hf, h6]; rfl)
    · have h7 := mt hs2.1 hf
      first
      | (exfalso; omega)
      | (unfold fitN fitE; simp [hf])
end Go.Proofs.Ytblcoknalailjaa
