/- A slice that came in, of elements of some cells each, opened into a list. -/
import Derived.Test.YtpfjeibhklacbaaLies
import Derived.WalkKit
import Derived.ProofKit
import Derived.OpenShut
import Derived.JoinedCond
import Derived.Carry
import Derived.ChangeArms
import Derived.Deep.Slices
import Derived.SizedLaws
namespace Go.Proofs.Ytpfjeibhklacbaa
open Go Go.RowKit Go.ChangeShapes Go.WideShapes Go.ChangeAt Go.Deep

section
variable {H : Type} {enc : TypeId × Value → H} {P : Program} {w : World} {base : Nat} {spare : Nat → Bool} {held : Bool}
/-- the slice, its list; and what its reading tells of its length -/
theorem open_list_at {α : Type} [Inhabited α] {size : Nat} {cells : α → List Value} {OK : α → Prop} {t e : TypeId} (ht : P.underlying t = some (.slice e)) (hc : P.cellsOf e = size) (hpos : 0 < size) (hcl : ∀ x, (cells x).length = size)
    (dec : ∀ {n : Nat} {cs : List Value} {x : DataW H × List MemPlace}, DataW.trod enc P w base spare held n e cs = some x → ∃ a, cs = cells a ∧ OK a)
    {fuel : Nat} {cs : List Value} {x : DataW H × List MemPlace} (hf : DataW.trod enc P w base spare held fuel t cs = some x) :
    ∃ (A : Option Addr) (c : Nat) (l : List α), cs = [.slice A l.length c] ∧ l.length ≤ c ∧ c ≤ maxLen ∧ Lies size cells w w.heap.size A l ∧ (∀ a ∈ l, OK a) ∧ (x.1 = .nil ∧ l = [] ∧ c = 0 ∨ ∃ es sp, x.1 = .slice es sp ∧ es.length = l.length) := by
  rcases open_slice ht hf with ⟨e, hx⟩ | ⟨a, len, cap, m, n, D, Pl, e, hb, hl, hm, hmm, hx, hi⟩
  · subst e hx
    exact ⟨none, 0, [], rfl, by simp, by unfold maxLen; omega, fun h => absurd h (by simp), fun a ha => (by cases ha), .inl ⟨rfl, rfl, rfl⟩⟩
  · subst e hx
    obtain ⟨n0, rfl⟩ : ∃ n0, n0 = len := ⟨_, rfl⟩
    obtain ⟨c0, rfl⟩ : ∃ c0, c0 = cap := ⟨_, rfl⟩
    have hlm : n0 ≤ m := by rw [hmm]; split <;> omega
    rw [hc] at hi
    have hT : ∀ i, ∃ x : α, i < n0 → OK x ∧ ∀ (j : Nat) (u : Value), (cells x)[j]? = some u → w.cell? ((a.add (i * size)).add j) = some u := by
      intro i
      by_cases hil : i < n0
      · obtain ⟨cs', hcs, htr⟩ := hi i (by omega)
        obtain ⟨x, rfl, hok⟩ := dec htr
        obtain ⟨_, _, hat⟩ := World.cells?_some hcs
        refine ⟨x, fun _ => ⟨hok, fun j u hj => ?_⟩⟩
        have hjs : j < size := by have := (List.getElem?_eq_some_iff.1 hj).1; rw [hcl] at this; exact this
        rw [hat j hjs]
        exact hj
      · exact ⟨default, fun h => absurd h hil⟩
    obtain ⟨f, hf'⟩ : ∃ f : Nat → α, ∀ i, i < n0 → OK (f i) ∧ ∀ (j : Nat) (u : Value), (cells (f i))[j]? = some u → w.cell? ((a.add (i * size)).add j) = some u :=
      ⟨fun i => Classical.choose (hT i), fun i => Classical.choose_spec (hT i)⟩
    clear hT
    have hlen : ((List.range n0).map f).length = n0 := by simp
    refine ⟨some a, c0, (List.range n0).map f, by rw [hlen], by rw [hlen]; exact hl, hm, fun hp => ?_, fun x hx => ?_, .inr ⟨_, _, rfl, by simp⟩⟩
    · rw [hlen] at hp
      have hz : ((a.add (0 * size)).add 0) = a := by unfold Addr.add; simp
      obtain ⟨v0, h0⟩ : ∃ v0, w.cell? a = some v0 := by
        have h1 : 0 < (cells (f 0)).length := by rw [hcl]; exact hpos
        have := (hf' 0 hp).2 0 _ (List.getElem?_eq_getElem h1)
        rw [hz] at this
        exact ⟨_, this⟩
      have hspot : a.spot = none := by
        cases hs : a.spot with
        | none => rfl
        | some s =>
          unfold World.cell? at h0
          rw [hs] at h0
          split at h0 <;> simp at h0
      obtain ⟨b, o, sp⟩ := a
      simp only at hspot
      subst hspot
      have hadd : ∀ k j, ((⟨b, o, none⟩ : Addr).add k).add j = ⟨b, o + k + j, none⟩ := fun k j => by unfold Addr.add; split <;> split <;> simp_all
      refine ⟨b, o, rfl, World.block_lt_of_cell? w _ h0, fun i x hit j u hj => ?_⟩
      have hil : i < n0 := by have := (List.getElem?_eq_some_iff.1 hit).1; omega
      have hti : f i = x := by simpa [hil] using hit
      subst hti
      have := (hf' i hil).2 j u hj
      rwa [hadd] at this
    · obtain ⟨i, hi1, rfl⟩ := List.mem_map.1 hx
      exact (hf' i (List.mem_range.1 hi1)).1
theorem open_list {α : Type} [Inhabited α] {size : Nat} {cells : α → List Value} {OK : α → Prop} {t e : TypeId} (ht : P.underlying t = some (.slice e)) (hc : P.cellsOf e = size) (hpos : 0 < size) (hcl : ∀ x, (cells x).length = size)
    (dec : ∀ {n : Nat} {cs : List Value} {x : DataW H × List MemPlace}, DataW.trod enc P w base spare held n e cs = some x → ∃ a, cs = cells a ∧ OK a)
    {v : Value} {d : DataW H} {p : List MemPlace} {r : Reach} {b0 : Nat} (hv : Value.okWide P w r b0 t v) (h : DataW.Trod enc P w base spare held t v d p) :
    ∃ (A : Option Addr) (c : Nat) (l : List α), v = .slice A l.length c ∧ l.length ≤ c ∧ c ≤ maxLen ∧ Lies size cells w w.heap.size A l ∧ (∀ a ∈ l, OK a) ∧ (d = .nil ∧ l = [] ∧ c = 0 ∨ ∃ es sp, d = .slice es sp ∧ es.length = l.length) := by
  obtain ⟨a0, n0, c0, rfl⟩ := okWide_slice ht hv
  obtain ⟨fuel, hf⟩ := h
  obtain ⟨A, c, l, e, h1⟩ := open_list_at ht hc hpos hcl dec hf
  exact ⟨A, c, l, by simpa [Value.cells] using e, h1⟩
end
end Go.Proofs.Ytpfjeibhklacbaa
