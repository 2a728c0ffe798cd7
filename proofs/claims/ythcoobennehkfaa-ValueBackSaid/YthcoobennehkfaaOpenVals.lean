/- An argument that is a value, a row, or a list of rows, opened. -/
import Derived.Test.YthcoobennehkfaaOpenList
import Derived.Test.YthcoobennehkfaaVRows2
import Derived.Test.YthcoobennehkfaaLift
namespace Go.Proofs.Ythcoobennehkfaa
open Go Go.RowKit Go.ChangeShapes Go.WideShapes Go.ChangeAt Go.Deep

section
variable {H : Type} {enc : TypeId × Value → H} {w : World} {base : Nat} {spare : Nat → Bool} {held : Bool}
set_option maxRecDepth 100000 in
theorem trod_val {fuel : Nat} {cs : List Value} {x : DataW H × List MemPlace} (h : DataW.trod enc Try.prog w base spare held fuel 23 cs = some x) : ∃ v : Vl, cs = v.cells ∧ VOk v := by
  obtain ⟨xs, n, _, _, hlen, hxs, hf⟩ := DataW.trod_struct Try.underlying23 h
  have hc : Try.prog.cellsOf 23 = 3 := by kernel_rfl
  have hcb : Try.prog.cellsOf 4 = 1 := by kernel_rfl
  have hci : Try.prog.cellsOf 2 = 1 := by kernel_rfl
  have hcs : Try.prog.cellsOf 9 = 1 := by kernel_rfl
  rw [hc] at hlen
  match cs, hlen with
  | [c0, c1, c2], _ =>
    have h0 := hf 0 _ rfl
    have h1 := hf 1 _ rfl
    have h2 := hf 2 _ rfl
    match xs, hxs with
    | [y0, y1, y2], _ =>
      simp only [hcb, hci, hcs, List.drop_zero, List.take_succ_cons, List.take_zero, List.drop_succ_cons, List.getElem?_cons_zero, List.getElem?_cons_succ] at h0 h1 h2
      obtain ⟨n0, e0, _⟩ := DataW.trod_bool Try.underlying4 h0
      obtain ⟨n1, e1, _, w1⟩ := DataW.trod_int Try.underlying2 h1
      obtain ⟨n2, e2, _, w2⟩ := DataW.trod_string Try.underlying9 h2
      obtain rfl := (List.cons.inj e0).1
      obtain rfl := (List.cons.inj e1).1
      obtain rfl := (List.cons.inj e2).1
      exact ⟨⟨n0, n1, n2⟩, rfl, w2, wf_i64 w1⟩
set_option maxRecDepth 100000 in
theorem open_val {r : Reach} {b0 : Nat} {v : Value} {d : DataW H} {p : List MemPlace} (hv : Value.okWide Try.prog w r b0 23 v) (h : DataW.Trod enc Try.prog w base spare held 23 v d p) : ∃ x : Vl, v = x.val ∧ VOk x := by
  obtain ⟨cs, rfl, hsz⟩ := okWide_struct Try.underlying23 hv
  obtain ⟨fuel, hf⟩ := h
  obtain ⟨t, ht, hok⟩ := trod_val hf
  refine ⟨t, ?_, hok⟩
  obtain ⟨l⟩ := cs
  simp only [Value.cells] at ht
  unfold Vl.val
  rw [show l = t.cells from by simpa using ht]
  rfl
set_option maxRecDepth 100000 in
theorem open_row {v : Value} {d : DataW H} {p : List MemPlace} {r : Reach} {b0 : Nat} (hv : Value.okWide Try.prog w r b0 24 v) (h : DataW.Trod enc Try.prog w base spare held 24 v d p) :
    ∃ (A : Option Addr) (c : Nat) (l : List Vl), v = .slice A l.length c ∧ l.length ≤ c ∧ c ≤ maxLen ∧ Vals w w.heap.size A l ∧ (∀ a ∈ l, VOk a) ∧ (d = .nil ∧ l = [] ∧ c = 0 ∨ ∃ es sp, d = .slice es sp ∧ es.length = l.length) := by
  obtain ⟨A, c, l, e, h1, h2, h3, h4, h5⟩ := open_list (size := 3) (cells := Vl.cells) (OK := VOk) Try.underlying24 (by kernel_rfl) (by decide) (fun _ => rfl) trod_val hv h
  exact ⟨A, c, l, e, h1, h2, vals_of_lies h3, h4, h5⟩
/-- a row as it lies in a list of rows -/
structure RowV where
  A : Option Addr
  c : Nat
  l : List Vl
instance : Inhabited RowV := ⟨⟨none, 0, []⟩⟩
set_option maxRecDepth 100000 in
theorem trod_row {fuel : Nat} {cs : List Value} {x : DataW H × List MemPlace} (h : DataW.trod enc Try.prog w base spare held fuel 24 cs = some x) :
    ∃ r : RowV, cs = [.slice r.A r.l.length r.c] ∧ (Vals w w.heap.size r.A r.l ∧ (∀ a ∈ r.l, VOk a) ∧ r.l.length ≤ maxLen) := by
  obtain ⟨A, c, l, e, h1, h2, h3, h4, _⟩ := open_list_at (size := 3) (cells := Vl.cells) (OK := VOk) Try.underlying24 (by kernel_rfl) (by decide) (fun _ => rfl) trod_val h
  exact ⟨⟨A, c, l⟩, e, vals_of_lies h3, h4, Nat.le_trans h1 h2⟩
set_option maxRecDepth 100000 in
theorem open_rows {v : Value} {d : DataW H} {p : List MemPlace} {r : Reach} {b0 : Nat} (hv : Value.okWide Try.prog w r b0 38 v) (h : DataW.Trod enc Try.prog w base spare held 38 v d p) :
    ∃ (A : Option Addr) (c : Nat) (L : List (List Vl)), v = .slice A L.length c ∧ L.length ≤ c ∧ c ≤ maxLen ∧ RowsAt w w.heap.size A L ∧ ((∀ l ∈ L, l.length ≤ maxLen) ∧ ∀ l ∈ L, ∀ v ∈ l, VOk v) ∧ (d = .nil ∧ L = [] ∧ c = 0 ∨ ∃ es sp, d = .slice es sp ∧ es.length = L.length) := by
  obtain ⟨A, c, l, e, h1, h2, h3, h4, h5⟩ := open_list (size := 1) (cells := fun r : RowV => [.slice r.A r.l.length r.c]) (OK := fun r : RowV => Vals w w.heap.size r.A r.l ∧ (∀ a ∈ r.l, VOk a) ∧ r.l.length ≤ maxLen) Try.underlying38 (by kernel_rfl) (by decide) (fun _ => rfl) trod_row hv h
  refine ⟨A, c, l.map RowV.l, by rw [List.length_map]; exact e, by rw [List.length_map]; exact h1, h2, fun hp => ?_, ⟨fun m hm => ?_, fun m hm => ?_⟩, ?_⟩
  · rw [List.length_map] at hp
    obtain ⟨b, o, rfl, hb, hc⟩ := h3 hp
    refine ⟨b, o, rfl, hb, fun i m hi => ?_⟩
    rw [List.getElem?_map] at hi
    cases hr : l[i]? with
    | none => rw [hr] at hi; simp at hi
    | some y =>
      rw [hr] at hi
      obtain rfl : y.l = m := by simpa using hi
      have := hc i y hr 0 _ rfl
      rw [Nat.mul_one, Nat.add_zero] at this
      exact ⟨y.A, y.c, this, (h4 y (List.mem_of_getElem? hr)).1⟩
  · obtain ⟨y, hy, rfl⟩ := List.mem_map.1 hm
    exact (h4 y hy).2.2
  · obtain ⟨y, hy, rfl⟩ := List.mem_map.1 hm
    exact (h4 y hy).2.1
  · rw [List.length_map]
    rcases h5 with ⟨h5, rfl, h6⟩ | h5
    · exact .inl ⟨h5, rfl, h6⟩
    · exact .inr h5
end
end Go.Proofs.Ythcoobennehkfaa
