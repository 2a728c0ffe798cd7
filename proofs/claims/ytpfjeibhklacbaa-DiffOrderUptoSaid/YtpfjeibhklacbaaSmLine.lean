/- A number added to the sum at the head of a line. -/
import Derived.Test.YtpfjeibhklacbaaSmAdd
namespace Go.Proofs.Ytpfjeibhklacbaa
open Go Go.RowKit

set_option maxRecDepth 100000 in
set_option maxHeartbeats 1600000 in
theorem add_line (S T : Int) (g : Nat) (t : TypeId) (rest : List Value) (w : World) (h : Own w g t (.int .u64 (hiW S) :: .int .u64 (loW S) :: rest)) :
    Calls Try.prog 47 #[.pointer (some ⟨g, 0, none⟩), .agg #[.int .u64 (hiW T), .int .u64 (loW T)]] w fun e w' => e = .returned (.tuple #[]) ∧ Own w' g t (.int .u64 (hiW (S + T)) :: .int .u64 (loW (S + T)) :: rest) ∧ ∀ B, B ≤ g → Below B w w' := by
  have c0 := h.at_ 0
  have c1 := h.at_ 1
  have f1 := h.open_ 1
  have f0 := h.open_ 0
  have hg := h.inside
  simp only [List.getElem?_cons_zero, List.getElem?_cons_succ] at c0 c1
  obtain ⟨a1, a2⟩ := loW_bound S
  obtain ⟨b1, b2⟩ := loW_bound T
  obtain ⟨a3, a4⟩ := hiW_bound S
  obtain ⟨b3, b4⟩ := hiW_bound T
  have k1 := add64 (loW S) (loW T) 0 a1 b1 (by omega) (by omega)
  have k2 := add64 (hiW S) (hiW T) ((loW S + loW T) / 18446744073709551616) a3 b3 (by omega) (by omega)
  clear a1 a2 b1 b2 a3 a4 b3 b4
  go_enter Try.func47, Try.ntmps47
  go_wp2_with fail
  go_region_with (simp only [k1])
  all_goals
    go_wp2_with fail
    go_region_with (simp only [k2])
  all_goals
    go_wp2_with fail
    rw [lo_add, hi_add]
    exact bodyPost_end (results_none rfl _ _ _) rfl ⟨rfl, own_of ((((h.set_ 1 _).set_ 0 _).more _).draws 2) rfl, fun B hB => ((((Below.refl B w).setCell hB _).setCell hB _).alloc (by simp; omega) _).drew.drew⟩
end Go.Proofs.Ytpfjeibhklacbaa
