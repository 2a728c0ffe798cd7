/- The law PackMany returns true for every list of strings: frames that are put one behind the other are taken one by one, as they were put. No condition beyond those of the statement. -/
import Derived.Test.YteedegljijendaaLift
import Derived.Test.YteedegljijendaaManyWalk
import Derived.SliceStrings
namespace Go.Proofs.Yteedegljijendaa.lawPackMany
open Go.ChangeShapes Go.WideShapes Go.ChangeAt Go.RowKit
open Go.ChangeMaps (open_string)

theorem cellsStr : Try.prog.cellsOf 9 = 1 := by kernel_rfl

theorem contract (H : Type) (enc : TypeId × Value → H) (W : World) (base : Nat) (args : Array Value) (ds gs : List (DataW H)) (before : List MemPlace)
    (hval : ∀ (j : Nat) t v, Try.f12.params[j]? = some t → args[j]? = some v → Value.okWide Try.prog W .any base t v)
    (hW : DataW.Whole enc Try.prog Try.f12.params.toList Rows.packManySpec.vars false W args.toList ds gs before) :
    Calls Try.prog 12 args W fun e W' => ∃ v, e = .returned v ∧ Rows.packManySpec.post enc Try.prog Try.f12 false true false false W args v W' := by
  have hW' := hW
  obtain ⟨p, q, hA0, hV, rfl, hfz, hnd⟩ := hW
  have hA : DataW.TrodAll enc Try.prog W 0 (fun _ => true) true Try.f12.params.toList args.toList ds p := hA0
  clear hA0
  rw [Try.params12] at hA hval
  obtain ⟨v0, vs0, d0, ds0, p0, q0, hargs, rfl, rfl, h0, r0⟩ := trodAll_cons hA
  obtain ⟨rfl, rfl, rfl⟩ := trodAll_nil r0
  obtain rfl : args = #[v0] := by cases args; simp_all
  obtain ⟨rfl, rfl⟩ := trodVars_none hV
  obtain ⟨fuel, hf⟩ := h0
  obtain ⟨A, ss, cap, hv, hr, hn, hsz⟩ : ∃ (A : Option Addr) (ss : List ByteArray) (cap : Nat), v0 = .slice A ss.length cap ∧ ReadsS W W.heap.size A ss ∧ ss.length ≤ maxLen ∧ ∀ s ∈ ss, s.size ≤ maxLen := by
    obtain ⟨a0, len0, cap0, rfl⟩ := okWide_slice Try.underlying46 (hval 0 46 v0 rfl rfl)
    rcases open_strings Try.underlying46 Try.underlying9 cellsStr hf with ⟨hcs, _⟩ | ⟨a, len, cap, ss, hcs, _, hl, hm, hz, _, hcell, hws⟩
    · have hcs' : Value.slice a0 len0 cap0 = .slice none 0 0 := by simpa [Value.cells] using hcs
      rw [hcs']
      exact ⟨none, [], 0, rfl, fun i s h => by simp at h, by simp, fun s h => by cases h⟩
    · have hcs' : Value.slice a0 len0 cap0 = .slice (some a) len cap := by simpa [Value.cells] using hcs
      rw [hcs']
      have hlen : ss.length = cap := by simpa using hz
      have htk : (ss.take len).length = len := by rw [List.length_take]; omega
      refine ⟨some a, ss.take len, cap, by rw [htk], ?_, by omega, fun s h => hws s (List.mem_of_mem_take h)⟩
      intro i s hs
      have hi : i < len := by have := (List.getElem?_eq_some_iff.1 hs).1; omega
      rw [List.getElem?_take_of_lt hi] at hs
      have hc := hcell i (by omega)
      rw [List.getD_eq_getElem?_getD, hs, Option.getD_some] at hc
      obtain ⟨b, o, sp⟩ := a
      cases sp with
      | some x =>
        exfalso
        have h0 := hcell 0 (by omega)
        simp only [Addr.add, if_true, World.cell?, Option.isSome_some] at h0
        split at h0 <;> simp at h0
      | none =>
        have hadd : (⟨b, o, none⟩ : Addr).add i = ⟨b, o + i, none⟩ := by unfold Addr.add; split <;> simp_all
        rw [hadd] at hc
        exact ⟨b, o, rfl, World.block_lt_of_cell? W ⟨b, o + i, none⟩ hc, hc⟩
  subst hv
  refine (many_walk A ss cap W hr hn hsz).mono fun e W' ⟨he, hb⟩ => ⟨_, he, ?_⟩
  exact post_law laidOut (by rw [Try.params12]; decide +kernel) Try.underlying4 (by kernel_rfl) rfl hW' rfl hb

set_option maxRecDepth 100000 in
theorem lifted (os : Os) (started : os.Started) (H : Type) (enc : TypeId × Value → H) :
    ReturnsInHanded {} Try.checked os 12 .any (Rows.packManySpec.pre6 enc Try.prog Try.f12 Rows.packManyRow.domain false) (Rows.packManySpec.post enc Try.prog Try.f12 false true false false) := by
  refine returnsInHanded_of_change (C := Try.checked) own started (by kernel_rfl) Try.func12
    (ChangeSpec.witness6 (enc := enc) (C := Try.checked) false ⟨#[], #[.slice none 0 0], []⟩ 8 (by kernel_rfl) (by kernel_rfl) (by kernel_rfl) (by kernel_rfl)) ?_
  intro W base args ds gs before hval hW _ _
  exact contract H enc W base args ds gs before hval hW

theorem proved : Rows.PackManySaid :=
  OpenClaim.holds_of_wide 12 Try.f12 rfl rfl rfl rfl rfl rfl rfl ⟨rfl, rfl, rfl, rfl, rfl⟩ rfl rfl rfl rfl rfl (by kernel_rfl) Try.func12 (by kernel_rfl)
    (of_decide_eq_true (by kernel_rfl)) (by unfold Func.isWrapper; first | (rw [if_pos (by decide +kernel)]; kernel_rfl) | (rw [if_neg (by decide +kernel)]; exact ⟨rfl, rfl⟩))
    (fun os started H enc _ => lifted os started H enc)
end Go.Proofs.Yteedegljijendaa.lawPackMany
