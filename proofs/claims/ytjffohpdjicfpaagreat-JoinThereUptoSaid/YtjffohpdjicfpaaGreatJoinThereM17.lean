/- Part 17 of the texts on which JoinThere rests: facts and contracts. -/
import Derived.Test.YtjffohpdjicfpaaGreatJoinThereM16
import Derived.WalkKit
import Derived.ProofKit
import Derived.OpenShut
import Derived.JoinedCond
import Derived.Carry
import Derived.ChangeArms
import Derived.Deep.Slices
import Derived.SizedLaws
namespace Go.Proofs.YtjffohpdjicfpaaGreat
open Go Go.RowKit Go.ChangeShapes Go.WideShapes Go.ChangeAt Go.Deep
section
variable {H : Type} {enc : TypeId × Value → H} {P : Program} {w : World} {base : Nat} {spare : Nat → Bool} {held : Bool}
end
section
variable {H : Type} {enc : TypeId × Value → H} {P : Program} {w : World} {base : Nat} {spare : Nat → Bool} {held : Bool}
theorem lies_gen {α : Type} {size : Nat} {cells : α → List Value} (hcl : ∀ x, 0 < (cells x).length) {len : Nat} {a : Addr} {f : Nat → α} (hp : 0 < len) (hf : ∀ i, i < len → ∀ (j : Nat) (u : Value), (cells (f i))[j]? = some u → w.cell? ((a.add (i * size)).add j) = some u) :
    Lies size cells w w.heap.size (some a) ((List.range len).map f) := fun _ => by
  have hz : ((a.add (0 * size)).add 0) = a := by unfold Addr.add; simp
  obtain ⟨v0, h0⟩ : ∃ v0, w.cell? a = some v0 := by
    have := hf 0 hp 0 _ (List.getElem?_eq_getElem (hcl (f 0)))
    rw [hz] at this
    exact ⟨_, this⟩
  have hspot : a.spot = none := by
    cases hs : a.spot with
    | none => rfl
    | some s =>
      unfold World.cell? at h0
      rw [hs] at h0
      split at h0 <;> simp at h0
  obtain ⟨b, o, sp⟩ := a
  simp only at hspot
  subst hspot
  have hadd : ∀ k j, ((⟨b, o, none⟩ : Addr).add k).add j = ⟨b, o + k + j, none⟩ := fun k j => by unfold Addr.add; split <;> split <;> simp_all
  refine ⟨b, o, rfl, World.block_lt_of_cell? w _ h0, fun i x hit j u hj => ?_⟩
  have hil : i < len := by have := (List.getElem?_eq_some_iff.1 hit).1; simpa using this
  have hti : f i = x := by simpa [hil] using hit
  subst hti
  have := hf i hil j u hj
  rwa [hadd] at this
theorem bulk_sum : ∀ es : List (DataW H × List MemPlace), (es.map (fun z => Rows.uptoBulk z.1)).sum = Rows.uptoBulkAll (es.map (·.1))
  | [] => by simp [Rows.uptoBulkAll]
  | x :: es => by simp only [List.map_cons, List.sum_cons, Rows.uptoBulkAll]; rw [bulk_sum es]
theorem mem_le_sum : ∀ {bs : List Nat} {b : Nat}, b ∈ bs → b ≤ bs.sum
  | [], _, h => by cases h
  | x :: bs, b, h => by
    rw [List.sum_cons]
    rcases List.mem_cons.1 h with rfl | h
    · omega
    · have := mem_le_sum h; omega
theorem len_le_sum : ∀ {bs : List Nat}, (∀ b ∈ bs, 1 ≤ b) → bs.length ≤ bs.sum
  | [], _ => Nat.le_refl _
  | x :: bs, h => by
    have h1 := h x (by simp)
    have h2 := len_le_sum (bs := bs) fun b hb => h b (by simp [hb])
    rw [List.sum_cons, List.length_cons]
    omega
theorem open_list_bulk {α : Type} [Inhabited α] {size : Nat} {cells : α → List Value} {OK : α → Nat → Prop} {t e : TypeId} {fuel : Nat} (ht : P.underlying t = some (.slice e)) (hc : P.cellsOf e = size) (hcl : ∀ x, 0 < (cells x).length)
    (dec : ∀ {n : Nat} {cs : List Value} {x : DataW H × List MemPlace}, n < fuel → DataW.trod enc P w base spare held n e cs = some x → ∃ a, cs = cells a ∧ OK a (Rows.uptoBulk x.1))
    {cs : List Value} {x : DataW H × List MemPlace} (hf : DataW.trod enc P w base spare held fuel t cs = some x) :
    ∃ (A : Option Addr) (c : Nat) (l : List α) (bs : List Nat), cs = [.slice A l.length c] ∧ l.length ≤ c ∧ c ≤ maxLen ∧ Lies size cells w w.heap.size A l ∧ bs.length = l.length ∧ bs.sum + 1 ≤ Rows.uptoBulk x.1 ∧ (∀ b ∈ bs, 1 ≤ b) ∧
      ∀ (i : Nat) (a : α), l[i]? = some a → ∃ b, bs[i]? = some b ∧ OK a b := by
  rcases DataW.trod_slice ht hf with ⟨h1, h2⟩ | ⟨a, len, cap, elems, rest, n, hfu, h1, h2, hb, hl, hm, hlen, hel, hsp, hns⟩
  · subst h1 h2
    exact ⟨none, 0, [], [], rfl, Nat.le_refl _, Nat.zero_le _, Lies.nil_, rfl, by simp [Rows.uptoBulk], fun b h => (by cases h), fun i a h => (by simp at h)⟩
  · rw [hc] at hel
    have hT : ∀ i, i < len → ∃ y : α, (∃ b, (elems.map (fun z => Rows.uptoBulk z.1))[i]? = some b ∧ OK y b) ∧ ∀ (j : Nat) (u : Value), (cells y)[j]? = some u → w.cell? ((a.add (i * size)).add j) = some u := fun i hi => by
      have h1 := hel i hi
      rw [List.getElem?_eq_getElem (by omega)] at h1
      obtain ⟨cs', h2, h3⟩ := Option.bind_eq_some_iff.1 h1
      obtain ⟨y, rfl, hy⟩ := dec (by omega) h3
      obtain ⟨_, hle2, hat⟩ := World.cells?_some h2
      refine ⟨y, ⟨_, by rw [List.getElem?_map, List.getElem?_eq_getElem (by omega)]; rfl, hy⟩, fun j u hj => ?_⟩
      rw [hat j (by have := (List.getElem?_eq_some_iff.1 hj).1; omega)]
      exact hj
    obtain ⟨f, hf'⟩ := choose_lt hT
    have hle : ((List.range len).map f).length = len := by simp
    refine ⟨some a, cap, (List.range len).map f, elems.map (fun z => Rows.uptoBulk z.1), by rw [hle]; exact h1, by rw [hle]; exact hl, hm, ?_, by rw [hle, List.length_map, hlen], ?_, ?_, ?_⟩
    · by_cases hp : 0 < len
      · exact lies_gen hcl hp fun i hi => (hf' i hi).2
      · exact fun h => by rw [hle] at h; omega
    · rw [h2]
      simp only [Rows.uptoBulk]
      rw [bulk_sum]
      omega
    · intro b hb
      obtain ⟨z, _, rfl⟩ := List.mem_map.1 hb
      exact bulk_pos _
    · intro i y hi
      have hil : i < len := by have := (List.getElem?_eq_some_iff.1 hi).1; simpa using this
      have hti : f i = y := by simpa [hil] using hi
      subst hti
      exact (hf' i hil).1
end
set_option maxRecDepth 100000
section
variable {H : Type} {enc : TypeId × Value → H} {w : World} {base : Nat} {spare : Nat → Bool} {held : Bool}
set_option maxRecDepth 100000 in
theorem trod_val {fuel : Nat} {cs : List Value} {x : DataW H × List MemPlace} (h : DataW.trod enc Tryz.prog w base spare held fuel 122 cs = some x) : ∃ v : Vl, cs = v.cells ∧ VOk v := by
  obtain ⟨xs, n, _, _, hlen, hxs, hf⟩ := DataW.trod_struct Tryz.underlying122 h
  have hc : Tryz.prog.cellsOf 122 = 3 := by kernel_rfl
  have hcb : Tryz.prog.cellsOf 4 = 1 := by kernel_rfl
  have hci : Tryz.prog.cellsOf 2 = 1 := by kernel_rfl
  have hcs : Tryz.prog.cellsOf 9 = 1 := by kernel_rfl
  rw [hc] at hlen
  match cs, hlen with
  | [c0, c1, c2], _ =>
    have h0 := hf 0 _ rfl
    have h1 := hf 1 _ rfl
    have h2 := hf 2 _ rfl
    match xs, hxs with
    | [y0, y1, y2], _ =>
      simp only [hcb, hci, hcs, List.drop_zero, List.take_succ_cons, List.take_zero, List.drop_succ_cons, List.getElem?_cons_zero, List.getElem?_cons_succ] at h0 h1 h2
      obtain ⟨n0, e0, _⟩ := DataW.trod_bool Tryz.underlying4 h0
      obtain ⟨n1, e1, _, w1⟩ := DataW.trod_int Tryz.underlying2 h1
      obtain ⟨n2, e2, _, w2⟩ := DataW.trod_string Tryz.underlying9 h2
      obtain rfl := (List.cons.inj e0).1
      obtain rfl := (List.cons.inj e1).1
      obtain rfl := (List.cons.inj e2).1
      exact ⟨⟨n0, n1, n2⟩, rfl, w2, wf_i64 w1⟩
theorem open_rowC {fuel : Nat} {cs : List Value} {x : DataW H × List MemPlace} (h : DataW.trod enc Tryz.prog w base spare held fuel 47 cs = some x) :
    ∃ (A : Option Addr) (c : Nat) (l : List Vl), cs = [.slice A l.length c] ∧ Vals w w.heap.size A l ∧ (∀ v ∈ l, VOk v) ∧ l.length ≤ Rows.uptoBulk x.1 := by
  obtain ⟨A, c, l, bs, e, h1, h2, h3, h4, h5, h6, h7⟩ := open_list_bulk (size := 3) (cells := Vl.cells) (OK := fun v _ => VOk v) Tryz.underlying47 (by kernel_rfl) (fun _ => by simp [Vl.cells]) (fun {n cs x} _ ht => trod_val ht) h
  have := len_le_sum h6
  refine ⟨A, c, l, e, vals_of_lies h3, fun v hv => ?_, by omega⟩
  obtain ⟨i, hi⟩ := List.getElem?_of_mem hv
  exact (h7 i v hi).elim fun _ h => h.2
def UIs (w : World) (u : Up) (b : Nat) : Prop := UIn w w.heap.size u ∧ (b ≤ 1048576 → UOk u)
set_option maxRecDepth 100000 in
theorem trod_up {fuel : Nat} {cs : List Value} {x : DataW H × List MemPlace} (h : DataW.trod enc Tryz.prog w base spare held fuel 49 cs = some x) : ∃ u : Up, cs = u.cells ∧ UIs w u (Rows.uptoBulk x.1) := by
  obtain ⟨xs, n, hfu, hx, hlen, hxs, hf⟩ := DataW.trod_struct Tryz.underlying49 h
  have hc : Tryz.prog.cellsOf 49 = 6 := by kernel_rfl
  have hc0 : Tryz.prog.cellsOf 47 = 1 := by kernel_rfl
  have hc1 : Tryz.prog.cellsOf 26 = 3 := by kernel_rfl
  have hc2 : Tryz.prog.cellsOf 2 = 1 := by kernel_rfl
  rw [hc] at hlen
  match cs, hlen with
  | [c0, c1, c2, c3, c4, c5], _ =>
    have h0 := hf 0 _ rfl
    have h1 := hf 1 _ rfl
    have h2 := hf 2 _ rfl
    have h3 := hf 3 _ rfl
    match xs, hxs with
    | [y0, y1, y2, y3], _ =>
      simp only [hc0, hc1, hc2, List.drop_zero, List.take_succ_cons, List.take_zero, List.drop_succ_cons, List.getElem?_cons_zero, List.getElem?_cons_succ] at h0 h1 h2 h3
      obtain ⟨A0, k0, l0, e0, i0, o0, m0⟩ := open_rowC h0
      obtain ⟨A1, k1, l1, e1, i1, o1, m1⟩ := open_rowC h1
      obtain ⟨t, e2⟩ := trod_time h2
      obtain ⟨d, e3, _, w3⟩ := DataW.trod_int Tryz.underlying2 h3
      have hM : Rows.uptoBulk x.1 = Rows.uptoBulk y0.1 + (Rows.uptoBulk y1.1 + (Rows.uptoBulk y2.1 + (Rows.uptoBulk y3.1 + 0))) + 1 := by
        rw [hx]
        simp only [List.map_cons, List.map_nil, Rows.uptoBulk, Rows.uptoBulkAll]
      obtain rfl := (List.cons.inj e0).1
      obtain rfl := (List.cons.inj e1).1
      obtain rfl := (List.cons.inj e3).1
      simp only [Tm.cells, List.cons.injEq, and_true] at e2
      obtain ⟨rfl, rfl, rfl⟩ := e2
      refine ⟨⟨A0, k0, l0, A1, k1, l1, t, d⟩, rfl, ⟨i0, i1⟩, fun hb => ⟨?_, ?_, o0, o1, wf_i64 w3⟩⟩
      · show l0.length ≤ _; omega
      · show l1.length ≤ _; omega
theorem open_upsC {fuel : Nat} {cs : List Value} {x : DataW H × List MemPlace} (h : DataW.trod enc Tryz.prog w base spare held fuel 22 cs = some x) :
    ∃ s : Rw Up, cs = s.cells ∧ s.l.length ≤ s.c ∧ s.c ≤ maxLen ∧ Ups w w.heap.size s.A s.l ∧ (Rows.uptoBulk x.1 ≤ 1048576 → ∀ u ∈ s.l, UOk u) ∧ s.l.length + 1 ≤ Rows.uptoBulk x.1 := by
  obtain ⟨A, c, l, bs, e, h1, h2, h3, h4, h5, h6, h7⟩ := open_list_bulk (size := 6) (cells := Up.cells) (OK := UIs w) Tryz.underlying22 (by kernel_rfl) (fun _ => by simp [Up.cells]) (fun {n cs x} _ ht => trod_up ht) h
  have := len_le_sum h6
  refine ⟨⟨A, c, l⟩, e, h1, h2, ⟨h3, fun u hu => ?_⟩, fun hb u hu => ?_, by show l.length + 1 ≤ _; omega⟩
  · obtain ⟨i, hi⟩ := List.getElem?_of_mem hu
    exact (h7 i u hi).elim fun _ h => h.2.1
  · obtain ⟨i, hi⟩ := List.getElem?_of_mem hu
    obtain ⟨b, hb1, hb2⟩ := h7 i u hi
    have := mem_le_sum (List.mem_of_getElem? hb1)
    exact hb2.2 (by omega)
theorem open_ups {v : Value} {d : DataW H} {p : List MemPlace} {r : Reach} {b0 : Nat} (hv : Value.okWide Tryz.prog w r b0 22 v) (h : DataW.Trod enc Tryz.prog w base spare held 22 v d p) :
    ∃ (A : Option Addr) (c : Nat) (l : List Up), v = .slice A l.length c ∧ l.length ≤ c ∧ c ≤ maxLen ∧ Ups w w.heap.size A l ∧ (Rows.uptoBulk d ≤ 1048576 → ∀ u ∈ l, UOk u) ∧ l.length ≤ Rows.uptoBulk d := by
  obtain ⟨a0, n0, c0, rfl⟩ := okWide_slice Tryz.underlying22 hv
  obtain ⟨fuel, hf⟩ := h
  simp only [Value.cells] at hf
  obtain ⟨⟨A, c, l⟩, e, h1, h2, h3, h4, h5⟩ := open_upsC hf
  exact ⟨A, c, l, by simpa [Rw.cells] using e, h1, h2, h3, h4, Nat.le_of_succ_le h5⟩
end
end Go.Proofs.YtjffohpdjicfpaaGreat
