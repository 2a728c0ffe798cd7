/- An argument that is a slice of one-cell numbers, opened. -/
import Derived.Test.YtjidjpmdmcleoaaInts
import Derived.Test.YtjidjpmdmcleoaaLift
import Derived.ChangeSlices
namespace Go.Proofs.Ytjidjpmdmcleoaa
open Go Go.RowKit Go.ChangeShapes Go.WideShapes Go.ChangeAt

section
variable {H : Type} {enc : TypeId × Value → H} {P : Program} {w : World} {base : Nat} {spare : Nat → Bool} {held : Bool}
/-- the slice, its list; and what its reading tells of its length -/
theorem open_intsL {t e : TypeId} (ht : P.underlying t = some (.slice e)) (he : P.underlying e = some (.int .i64)) (hc : P.cellsOf e = 1) {v : Value} {d : DataW H} {p : List MemPlace} {r : Reach} {b0 : Nat} (hv : Value.okWide P w r b0 t v) (h : DataW.Trod enc P w base spare held t v d p) :
    ∃ (A : Option Addr) (c : Nat) (l : List Int), v = .slice A l.length c ∧ l.length ≤ c ∧ c ≤ maxLen ∧ Ints w w.heap.size A l ∧ Fit64 l ∧ (d = .nil ∧ l = [] ∧ c = 0 ∨ ∃ es sp, d = .slice es sp ∧ es.length = l.length) := by
  obtain ⟨a0, n0, c0, rfl⟩ := okWide_slice ht hv
  obtain ⟨fuel, hf⟩ := h
  simp only [Value.cells] at hf
  rcases ChangeShapes.open_ints ht he hc hf with ⟨e, hx⟩ | ⟨a, len, cap, zs, e, hb, hl, hm, hz, hx, hcell, hws⟩
  · simp only [List.cons.injEq, and_true, Value.slice.injEq] at e
    obtain ⟨rfl, rfl, rfl⟩ := e
    obtain ⟨rfl, _⟩ := Prod.mk.inj hx
    exact ⟨none, 0, [], rfl, by simp, by unfold maxLen; omega, Ints.nil_, fun n hn => (by cases hn), .inl ⟨rfl, rfl, rfl⟩⟩
  · simp only [List.cons.injEq, and_true, Value.slice.injEq] at e
    obtain ⟨rfl, rfl, rfl⟩ := e
    obtain ⟨rfl, rfl⟩ := Prod.mk.inj hx
    have hlz : n0 ≤ zs.length := by rw [hz]; split <;> omega
    have htk : (zs.take n0).length = n0 := by rw [List.length_take]; omega
    refine ⟨some a, c0, zs.take n0, by rw [htk], by rw [htk]; exact hl, hm, fun hpos => ?_, fun n hn => wf_i64 (hws n (List.mem_of_mem_take hn)), .inr ⟨_, _, rfl, by simp [lits]⟩⟩
    rw [htk] at hpos
    have haz : a.add 0 = a := by unfold Addr.add; simp
    have h0 := hcell 0 (by omega)
    rw [haz] at h0
    obtain ⟨b, o, sp⟩ := a
    have hspot : sp = none := by
      cases sp with
      | none => rfl
      | some s =>
        unfold World.cell? at h0
        simp only at h0
        split at h0 <;> simp at h0
    subst hspot
    refine ⟨b, o, rfl, World.block_lt_of_cell? w _ h0, fun i n hi => ?_⟩
    have hil : i < n0 := by have := (List.getElem?_eq_some_iff.1 hi).1; omega
    rw [List.getElem?_take_of_lt hil] at hi
    have hci := hcell i (by omega)
    rw [List.getD_eq_getElem?_getD, hi, Option.getD_some] at hci
    have hadd : (⟨b, o, none⟩ : Addr).add i = ⟨b, o + i, none⟩ := by unfold Addr.add; split <;> simp_all
    rwa [hadd] at hci
end
end Go.Proofs.Ytjidjpmdmcleoaa
