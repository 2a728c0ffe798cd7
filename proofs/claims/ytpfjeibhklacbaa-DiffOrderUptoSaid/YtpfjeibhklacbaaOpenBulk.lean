/- A slice that came in, opened into a list, with the bulk of each element. -/
import Derived.Test.YtpfjeibhklacbaaOpenList
import Derived.Test.YtpfjeibhklacbaaBulk
namespace Go.Proofs.Ytpfjeibhklacbaa
open Go Go.RowKit Go.ChangeShapes Go.WideShapes Go.ChangeAt Go.Deep

section
variable {H : Type} {enc : TypeId × Value → H} {P : Program} {w : World} {base : Nat} {spare : Nat → Bool} {held : Bool}
theorem lies_gen {α : Type} {size : Nat} {cells : α → List Value} (hcl : ∀ x, 0 < (cells x).length) {len : Nat} {a : Addr} {f : Nat → α} (hp : 0 < len) (hf : ∀ i, i < len → ∀ (j : Nat) (u : Value), (cells (f i))[j]? = some u → w.cell? ((a.add (i * size)).add j) = some u) :
    Lies size cells w w.heap.size (some a) ((List.range len).map f) := fun _ => by
  have hz : ((a.add (0 * size)).add 0) = a := by unfold Addr.add; simp
  obtain ⟨v0, h0⟩ : ∃ v0, w.cell? a = some v0 := by
    have := hf 0 hp 0 _ (List.getElem?_eq_getElem (hcl (f 0)))
    rw [hz] at this
    exact ⟨_, this⟩
  have hspot : a.spot = none := by
    cases hs : a.spot with
    | none => rfl
    | some s =>
      unfold World.cell? at h0
      rw [hs] at h0
      split at h0 <;> simp at h0
  obtain ⟨b, o, sp⟩ := a
  simp only at hspot
  subst hspot
  have hadd : ∀ k j, ((⟨b, o, none⟩ : Addr).add k).add j = ⟨b, o + k + j, none⟩ := fun k j => by unfold Addr.add; split <;> split <;> simp_all
  refine ⟨b, o, rfl, World.block_lt_of_cell? w _ h0, fun i x hit j u hj => ?_⟩
  have hil : i < len := by have := (List.getElem?_eq_some_iff.1 hit).1; simpa using this
  have hti : f i = x := by simpa [hil] using hit
  subst hti
  have := hf i hil j u hj
  rwa [hadd] at this
theorem bulk_sum : ∀ es : List (DataW H × List MemPlace), (es.map (fun z => Rows.uptoBulk z.1)).sum = Rows.uptoBulkAll (es.map (·.1))
  | [] => by simp [Rows.uptoBulkAll]
  | x :: es => by simp only [List.map_cons, List.sum_cons, Rows.uptoBulkAll]; rw [bulk_sum es]
theorem mem_le_sum : ∀ {bs : List Nat} {b : Nat}, b ∈ bs → b ≤ bs.sum
  | [], _, h => by cases h
  | x :: bs, b, h => by
    rw [List.sum_cons]
    rcases List.mem_cons.1 h with rfl | h
    · omega
    · have := mem_le_sum h; omega
theorem len_le_sum : ∀ {bs : List Nat}, (∀ b ∈ bs, 1 ≤ b) → bs.length ≤ bs.sum
  | [], _ => Nat.le_refl _
  | x :: bs, h => by
    have h1 := h x (by simp)
    have h2 := len_le_sum (bs := bs) fun b hb => h b (by simp [hb])
    rw [List.sum_cons, List.length_cons]
    omega
theorem sum_pair {α : Type} {g : α → Nat} : ∀ (l : List α) (bs : List Nat), bs.length = l.length → (∀ (i : Nat) (a : α), l[i]? = some a → ∃ b, bs[i]? = some b ∧ g a ≤ b) → (l.map g).sum ≤ bs.sum
  | [], _, _, _ => Nat.zero_le _
  | x :: l, [], h, _ => by simp at h
  | x :: l, b :: bs, h, hp => by
    obtain ⟨b', h1, h2⟩ := hp 0 x rfl
    obtain rfl : b = b' := by simpa using h1
    have := sum_pair l bs (by simpa using h) fun i a hi => by
      obtain ⟨b2, h3, h4⟩ := hp (i + 1) a (by simpa using hi)
      exact ⟨b2, by simpa using h3, h4⟩
    simp only [List.map_cons, List.sum_cons]
    omega
/-- the slice, its list, and how much each of its elements tells -/
theorem open_list_bulk {α : Type} [Inhabited α] {size : Nat} {cells : α → List Value} {OK : α → Nat → Prop} {t e : TypeId} {fuel : Nat} (ht : P.underlying t = some (.slice e)) (hc : P.cellsOf e = size) (hcl : ∀ x, 0 < (cells x).length)
    (dec : ∀ {n : Nat} {cs : List Value} {x : DataW H × List MemPlace}, n < fuel → DataW.trod enc P w base spare held n e cs = some x → ∃ a, cs = cells a ∧ OK a (Rows.uptoBulk x.1))
    {cs : List Value} {x : DataW H × List MemPlace} (hf : DataW.trod enc P w base spare held fuel t cs = some x) :
    ∃ (A : Option Addr) (c : Nat) (l : List α) (bs : List Nat), cs = [.slice A l.length c] ∧ l.length ≤ c ∧ c ≤ maxLen ∧ Lies size cells w w.heap.size A l ∧ bs.length = l.length ∧ bs.sum + 1 ≤ Rows.uptoBulk x.1 ∧ (∀ b ∈ bs, 1 ≤ b) ∧
      ∀ (i : Nat) (a : α), l[i]? = some a → ∃ b, bs[i]? = some b ∧ OK a b := by
  rcases DataW.trod_slice ht hf with ⟨h1, h2⟩ | ⟨a, len, cap, elems, rest, n, hfu, h1, h2, hb, hl, hm, hlen, hel, hsp, hns⟩
  · subst h1 h2
    exact ⟨none, 0, [], [], rfl, Nat.le_refl _, Nat.zero_le _, Lies.nil_, rfl, by simp [Rows.uptoBulk], fun b h => (by cases h), fun i a h => (by simp at h)⟩
  · rw [hc] at hel
    have hT : ∀ i, i < len → ∃ y : α, (∃ b, (elems.map (fun z => Rows.uptoBulk z.1))[i]? = some b ∧ OK y b) ∧ ∀ (j : Nat) (u : Value), (cells y)[j]? = some u → w.cell? ((a.add (i * size)).add j) = some u := fun i hi => by
      have h1 := hel i hi
      rw [List.getElem?_eq_getElem (by omega)] at h1
      obtain ⟨cs', h2, h3⟩ := Option.bind_eq_some_iff.1 h1
      obtain ⟨y, rfl, hy⟩ := dec (by omega) h3
      obtain ⟨_, hle2, hat⟩ := World.cells?_some h2
      refine ⟨y, ⟨_, by rw [List.getElem?_map, List.getElem?_eq_getElem (by omega)]; rfl, hy⟩, fun j u hj => ?_⟩
      rw [hat j (by have := (List.getElem?_eq_some_iff.1 hj).1; omega)]
      exact hj
    obtain ⟨f, hf'⟩ := choose_lt hT
    have hle : ((List.range len).map f).length = len := by simp
    refine ⟨some a, cap, (List.range len).map f, elems.map (fun z => Rows.uptoBulk z.1), by rw [hle]; exact h1, by rw [hle]; exact hl, hm, ?_, by rw [hle, List.length_map, hlen], ?_, ?_, ?_⟩
    · by_cases hp : 0 < len
      · exact lies_gen hcl hp fun i hi => (hf' i hi).2
      · exact fun h => by rw [hle] at h; omega
    · rw [h2]
      simp only [Rows.uptoBulk]
      rw [bulk_sum]
      omega
    · intro b hb
      obtain ⟨z, _, rfl⟩ := List.mem_map.1 hb
      exact bulk_pos _
    · intro i y hi
      have hil : i < len := by have := (List.getElem?_eq_some_iff.1 hi).1; simpa using this
      have hti : f i = y := by simpa [hil] using hi
      subst hti
      exact (hf' i hil).1
end
end Go.Proofs.Ytpfjeibhklacbaa
