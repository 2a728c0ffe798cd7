/- The law ValueMakes returns true for any row, any columns and any rows that hold together at most 1048576 values and letters: Cols and Join answer as the reference does. The condition: the arguments hold together at most 1048576 values and letters. -/
import Derived.Test.YthcoobennehkfaaLift
import Derived.Test.YthcoobennehkfaaOpenInts
import Derived.Test.YthcoobennehkfaaOpenVals
import Derived.Test.YthcoobennehkfaaVMakesWalk
import Derived.Test.YthcoobennehkfaaBulk
import Derived.SizedLaws
namespace Go.Proofs.Ythcoobennehkfaa.lawValueMakes
open Go.ChangeShapes Go.WideShapes Go.ChangeAt Go.RowKit
open Go.ChangeMaps (open_string)

set_option maxRecDepth 100000 in
theorem contract (H : Type) (enc : TypeId × Value → H) (W : World) (base : Nat) (args : Array Value) (ds gs : List (DataW H)) (before : List MemPlace)
    (hval : ∀ (j : Nat) t v, Try.f5.params[j]? = some t → args[j]? = some v → Value.okWide Try.prog W .any base t v)
    (hW : DataW.Whole enc Try.prog Try.f5.params.toList Rows.valueMakesSpec.vars false W args.toList ds gs before) (hk : Rows.uptoSmall H (ds ++ gs) = true) :
    Calls Try.prog 5 args W fun e W' => ∃ v, e = .returned v ∧ Rows.valueMakesSpec.post enc Try.prog Try.f5 false true false false W args v W' := by
  have hW' := hW
  obtain ⟨p, q, hA0, hV, rfl, hfz, hnd⟩ := hW
  have hA : DataW.TrodAll enc Try.prog W 0 (fun _ => true) true Try.f5.params.toList args.toList ds p := hA0
  clear hA0
  rw [Try.params5] at hA hval
  obtain ⟨v0, vs0, d0, ds0, p0, q0, hargs, rfl, rfl, h0, r0⟩ := trodAll_cons hA
  obtain ⟨v1, vs1, d1, ds1, p1, q1, rfl, rfl, rfl, h1, r1⟩ := trodAll_cons r0
  obtain ⟨v2, vs2, d2, ds2, p2, q2, rfl, rfl, rfl, h2, r2⟩ := trodAll_cons r1
  obtain ⟨rfl, rfl, rfl⟩ := trodAll_nil r2
  obtain rfl : args = #[v0, v1, v2] := by cases args; simp_all
  obtain ⟨rfl, rfl⟩ := trodVars_none hV
  obtain ⟨A0, c0, l0, rfl, hc0, hm0, ht0, ok0, hd0⟩ := open_row (hval 0 24 v0 rfl rfl) h0
  have hu0 : l0.length ≤ Rows.uptoBulk d0 := by
    rcases hd0 with ⟨_, rfl, _⟩ | ⟨es, sp, rfl, he⟩
    · simp
    · rw [← he]; exact bulk_slice es sp
  obtain ⟨A1, c1, l1, rfl, hc1, hm1, ht1, ok1, hd1⟩ := open_intsL Try.underlying37 Try.underlying3 (by kernel_rfl) (hval 1 37 v1 rfl rfl) h1
  have hu1 : l1.length ≤ Rows.uptoBulk d1 := by
    rcases hd1 with ⟨_, rfl, _⟩ | ⟨es, sp, rfl, he⟩
    · simp
    · rw [← he]; exact bulk_slice es sp
  obtain ⟨A2, c2, l2, rfl, hc2, hm2, ht2, ok2, hd2⟩ := open_rows (hval 2 38 v2 rfl rfl) h2
  have hu2 : l2.length ≤ Rows.uptoBulk d2 := by
    rcases hd2 with ⟨_, rfl, _⟩ | ⟨es, sp, rfl, he⟩
    · simp
    · rw [← he]; exact bulk_slice es sp
  have hbulk := of_decide_eq_true hk
  simp only [Rows.uptoBulkAll, Rows.uptoBulk, List.cons_append, List.nil_append] at hbulk
  refine (vmakes_walk A0 c0 l0 A1 c1 l1 A2 c2 l2 W ht0 hc0 (by omega) hm0 ok0 ht1 hc1 (by omega) hm1 ok1 ht2 hc2 (by omega) hm2 ok2 (by omega)).mono fun e W' ⟨he, hb⟩ => ⟨_, he, ?_⟩
  exact post_law laidOut (by rw [Try.params5]; decide +kernel) Try.underlying4 (by kernel_rfl) rfl hW' rfl hb

set_option maxRecDepth 100000 in
theorem lifted (os : Os) (started : os.Started) (H : Type) (enc : TypeId × Value → H) (F : Stop.Interp) :
    ReturnsInHanded {} Try.checked os 5 .any ((Rows.OpenSpec.upto Rows.valueMakesSpec).pre6 enc Try.prog Try.f5 Rows.valueMakesUptoRow.domain false) (((Rows.OpenSpec.upto Rows.valueMakesSpec).at F).post enc Try.prog Try.f5 false true false false) := by
  refine returnsInHanded_of_cond (C := Try.checked) (s := Rows.OpenSpec.upto Rows.valueMakesSpec) (k := Rows.uptoSmall) rfl own started (by kernel_rfl) Try.func5
    (OpenSpec.witness (enc := enc) (C := Try.checked) (s := Rows.OpenSpec.upto Rows.valueMakesSpec) (k := Rows.uptoSmall) rfl false ⟨#[], #[.slice none 0 0, .slice none 0 0, .slice none 0 0], []⟩ 8 (by kernel_rfl) (by kernel_rfl) (by kernel_rfl)
      (x := ([.nil, .nil, .nil], [], [])) (by kernel_rfl) rfl (by kernel_rfl)) ?_
  intro W base args ds gs before hval hW _ hk _
  exact contract H enc W base args ds gs before hval hW hk

theorem proved : Rows.ValueMakesUptoSaid :=
  OpenClaim.holds_of_cond 5 Try.f5 rfl rfl rfl rfl rfl rfl rfl ⟨rfl, rfl, rfl, rfl, rfl⟩ rfl rfl rfl rfl rfl (by kernel_rfl) Try.func5 (by kernel_rfl)
    (of_decide_eq_true (by kernel_rfl)) (by unfold Func.isWrapper; first | (rw [if_pos (by decide +kernel)]; kernel_rfl) | (rw [if_neg (by decide +kernel)]; exact ⟨rfl, rfl⟩))
    (fun os started H enc _ F => lifted os started H enc F)
end Go.Proofs.Ythcoobennehkfaa.lawValueMakes
