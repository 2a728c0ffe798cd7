/- The two words of a sum: of one number, added to, and told as one. -/
import Derived.Test.YtpfjeibhklacbaaProg
import Derived.Test.YtpfjeibhklacbaaSmFacts
import Derived.Test.YtpfjeibhklacbaaMem
import Derived.Laws.Externs
import Derived.Deep.RegionWith
import Derived.Outline
import Derived.WalkSpells
import Derived.WalkLawsBesides
import Derived.BigQuiet
namespace Go.Proofs.Ytpfjeibhklacbaa
open Go Go.RowKit

theorem add64 (x y c : Int) (hx : 0 ≤ x) (hy : 0 ≤ y) (hc0 : 0 ≤ c) (hc : c ≤ 1) (w : World) : (callFunc 67 #[.int .u64 x, .int .u64 y, .int .u64 c]).run Try.prog w =
    .ok (.value (.tuple #[.int .u64 ((x + y + c) % 18446744073709551616), .int .u64 ((x + y + c) / 18446744073709551616)])) w := by
  rw [run_callFunc_extern Try.func67 (by kernel_rfl) (by kernel_rfl) (by kernel_rfl) (e := add64Entry) (by kernel_rfl), run_add64 x y c hx hy hc0 hc]
  rfl

theorem wrapU (x : Int) : IntKind.u64.wrap x = x % 18446744073709551616 := by simp [IntKind.wrap, IntKind.bits, IntKind.signed]
theorem wrapS (x : Int) (h1 : 0 ≤ x) (h2 : x < 18446744073709551616) : wrap64 x = sg x := by unfold wrap64 sg; split <;> omega
set_option maxRecDepth 100000 in
set_option maxHeartbeats 400000 in
theorem of_any (n : Int) (w : World) (h1 : -9223372036854775808 ≤ n) (h2 : n ≤ 9223372036854775807) :
    Calls Try.prog 24 #[.int .i64 n] w fun e w' => e = .returned (.agg #[.int .u64 (hiW n), .int .u64 (loW n)]) ∧ Below w.heap.size w w' := by
  have e1 : IntKind.u64.wrap (n / 9223372036854775808) = hiW n := by rw [wrapU]; unfold hiW; omega
  have e2 : IntKind.u64.wrap n = loW n := by rw [wrapU]; rfl
  have HE := Lib.hid (And.intro e1 e2)
  clear e1 e2
  go_enter Try.func24, Try.ntmps24
  go_wp2_with fail
  obtain ⟨e1, e2⟩ := HE.out
  rw [e1, e2]
  exact bodyPost_ret (v := .agg #[.int .u64 (hiW n), .int .u64 (loW n)]) (by simp [results, Try.results24, go_sem]) rfl ⟨rfl, (Below.refl _ _).alloc (Nat.le_refl _) _⟩

set_option maxRecDepth 100000 in
set_option maxHeartbeats 400000 in
theorem number_any (S : Int) (w : World) (h1 : -170141183460469231731687303715884105728 ≤ S) (h2 : S < 170141183460469231731687303715884105728) :
    Calls Try.prog 48 #[.agg #[.int .u64 (hiW S), .int .u64 (loW S)]] w fun e w' => e = .returned (.tuple #[.int .i64 (fitN S), .int .i64 (fitE S)]) ∧ Below w.heap.size w w' := by
  obtain ⟨l1, l2⟩ := loW_bound S
  have e0 : wrap64 (loW S) = sg (loW S) := wrapS _ l1 l2
  have e1 : IntKind.u64.wrap (wrap64 (loW S) / 9223372036854775808) = hiW (sg (loW S)) := by rw [e0, wrapU]; unfold hiW sg; split <;> omega
  have e2 := hi_fits S h1 h2
  have e3 := sg_lo S
  clear h1 h2 l1 l2
  have HE := Lib.hid (And.intro e0 e3)
  by_cases hf : fits S = true
  · have t1 : (hiW S != IntKind.u64.wrap (wrap64 (loW S) / 9223372036854775808)) = false := by rw [e1, bne, e2, hf]; rfl
    have HF := Lib.hid hf
    clear e0 e1 e2 e3 hf
    go_enter Try.func48, Try.ntmps48
    go_wp2_with fail
    obtain ⟨e0, e3⟩ := HE.out
    rw [e0, e3 HF.out]
    go_ret2
    exact ⟨by unfold fitN fitE; rw [HF.out]; rfl, (Below.refl _ _).alloc (Nat.le_refl _) _⟩
  · have hf : fits S = false := by simpa using hf
    have t1 : (hiW S != IntKind.u64.wrap (wrap64 (loW S) / 9223372036854775808)) = true := by rw [e1, bne, e2, hf]; rfl
    have HF := Lib.hid hf
    clear e0 e1 e2 e3 hf
    go_enter Try.func48, Try.ntmps48
    go_wp2_with fail
    go_ret2
    exact ⟨by unfold fitN fitE; rw [HF.out]; rfl, (Below.refl _ _).alloc (Nat.le_refl _) _⟩

set_option maxRecDepth 100000 in
set_option maxHeartbeats 1600000 in
theorem add_any (S T : Int) (g : Nat) (w : World) (h : Own w g 51 [.int .u64 (hiW S), .int .u64 (loW S)]) :
    Calls Try.prog 47 #[.pointer (some ⟨g, 0, none⟩), .agg #[.int .u64 (hiW T), .int .u64 (loW T)]] w fun e w' => e = .returned (.tuple #[]) ∧ Own w' g 51 [.int .u64 (hiW (S + T)), .int .u64 (loW (S + T))] ∧ ∀ B, B ≤ g → Below B w w' := by
  have c0 := h.at_ 0
  have c1 := h.at_ 1
  have f1 := h.open_ 1
  have f0 := h.open_ 0
  have hg := h.inside
  simp only [List.getElem?_cons_zero, List.getElem?_cons_succ] at c0 c1
  obtain ⟨a1, a2⟩ := loW_bound S
  obtain ⟨b1, b2⟩ := loW_bound T
  obtain ⟨a3, a4⟩ := hiW_bound S
  obtain ⟨b3, b4⟩ := hiW_bound T
  have k1 := add64 (loW S) (loW T) 0 a1 b1 (by omega) (by omega)
  have k2 := add64 (hiW S) (hiW T) ((loW S + loW T) / 18446744073709551616) a3 b3 (by omega) (by omega)
  clear a1 a2 b1 b2 a3 a4 b3 b4
  go_enter Try.func47, Try.ntmps47
  go_wp2_with fail
  go_region_with (simp only [k1])
  all_goals
    go_wp2_with fail
    go_region_with (simp only [k2])
  all_goals
    go_wp2_with fail
    rw [lo_add, hi_add]
    exact bodyPost_end (results_none rfl _ _ _) rfl ⟨rfl, own_of ((((h.set_ 1 _).set_ 0 _).more _).draws 2) rfl, fun B hB => ((((Below.refl B w).setCell hB _).setCell hB _).alloc (by simp; omega) _).drew.drew⟩
end Go.Proofs.Ytpfjeibhklacbaa
