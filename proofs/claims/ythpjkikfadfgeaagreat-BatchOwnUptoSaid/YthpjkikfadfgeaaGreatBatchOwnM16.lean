/- Part 16 of the texts on which BatchOwn rests: facts and contracts. -/
import Derived.Test.YthpjkikfadfgeaaGreatBatchOwnM15
namespace Go.Proofs.YthpjkikfadfgeaaGreat
open Go Go.RowKit Go.ChangeShapes Go.WideShapes Go.ChangeAt Go.Deep

def UOkK (u : Up) : Prop := UOk u ∧ u.key.length ≤ 1099511627776 ∧ u.row.length ≤ 1099511627776
set_option maxRecDepth 100000
section
variable {H : Type} {enc : TypeId × Value → H} {w : World} {base : Nat} {spare : Nat → Bool} {held : Bool}
def UIsK (w : World) (u : Up) (b : Nat) : Prop := UIn w w.heap.size u ∧ (b ≤ 1048576 → UOkK u)
set_option maxRecDepth 100000 in
theorem trod_upK {fuel : Nat} {cs : List Value} {x : DataW H × List MemPlace} (h : DataW.trod enc Tryz.prog w base spare held fuel 38 cs = some x) : ∃ u : Up, cs = u.cells ∧ UIsK w u (Rows.uptoBulk x.1) := by
  obtain ⟨xs, n, hfu, hx, hlen, hxs, hf⟩ := DataW.trod_struct Tryz.underlying38 h
  have hc : Tryz.prog.cellsOf 38 = 6 := by kernel_rfl
  have hc0 : Tryz.prog.cellsOf 32 = 1 := by kernel_rfl
  have hc1 : Tryz.prog.cellsOf 36 = 3 := by kernel_rfl
  have hc2 : Tryz.prog.cellsOf 2 = 1 := by kernel_rfl
  rw [hc] at hlen
  match cs, hlen with
  | [c0, c1, c2, c3, c4, c5], _ =>
    have h0 := hf 0 _ rfl
    have h1 := hf 1 _ rfl
    have h2 := hf 2 _ rfl
    have h3 := hf 3 _ rfl
    match xs, hxs with
    | [y0, y1, y2, y3], _ =>
      simp only [hc0, hc1, hc2, List.drop_zero, List.take_succ_cons, List.take_zero, List.drop_succ_cons, List.getElem?_cons_zero, List.getElem?_cons_succ] at h0 h1 h2 h3
      obtain ⟨A0, k0, l0, e0, i0, o0, m0⟩ := open_rowC h0
      obtain ⟨A1, k1, l1, e1, i1, o1, m1⟩ := open_rowC h1
      obtain ⟨t, e2⟩ := trod_time h2
      obtain ⟨d, e3, _, w3⟩ := DataW.trod_int Tryz.underlying2 h3
      have hM : Rows.uptoBulk x.1 = Rows.uptoBulk y0.1 + (Rows.uptoBulk y1.1 + (Rows.uptoBulk y2.1 + (Rows.uptoBulk y3.1 + 0))) + 1 := by
        rw [hx]
        simp only [List.map_cons, List.map_nil, Rows.uptoBulk, Rows.uptoBulkAll]
      obtain rfl := (List.cons.inj e0).1
      obtain rfl := (List.cons.inj e1).1
      obtain rfl := (List.cons.inj e3).1
      simp only [Tm.cells, List.cons.injEq, and_true] at e2
      obtain ⟨rfl, rfl, rfl⟩ := e2
      refine ⟨⟨A0, k0, l0, A1, k1, l1, t, d⟩, rfl, ⟨i0, i1⟩, fun hb => ⟨⟨?_, ?_, o0, o1, wf_i64 w3⟩, ?_, ?_⟩⟩
      · show l0.length ≤ _; omega
      · show l1.length ≤ _; omega
      · show l0.length ≤ _; omega
      · show l1.length ≤ _; omega
theorem open_upsK {fuel : Nat} {cs : List Value} {x : DataW H × List MemPlace} (h : DataW.trod enc Tryz.prog w base spare held fuel 22 cs = some x) :
    ∃ s : Rw Up, cs = s.cells ∧ s.l.length ≤ s.c ∧ s.c ≤ maxLen ∧ Ups w w.heap.size s.A s.l ∧ (Rows.uptoBulk x.1 ≤ 1048576 → ∀ u ∈ s.l, UOkK u) ∧ s.l.length + 1 ≤ Rows.uptoBulk x.1 := by
  obtain ⟨A, c, l, bs, e, h1, h2, h3, h4, h5, h6, h7⟩ := open_list_bulk (size := 6) (cells := Up.cells) (OK := UIsK w) Tryz.underlying22 (by kernel_rfl) (fun _ => by simp [Up.cells]) (fun {n cs x} _ ht => trod_upK ht) h
  have := len_le_sum h6
  refine ⟨⟨A, c, l⟩, e, h1, h2, ⟨h3, fun u hu => ?_⟩, fun hb u hu => ?_, by show l.length + 1 ≤ _; omega⟩
  · obtain ⟨i, hi⟩ := List.getElem?_of_mem hu
    exact (h7 i u hi).elim fun _ h => h.2.1
  · obtain ⟨i, hi⟩ := List.getElem?_of_mem hu
    obtain ⟨b, hb1, hb2⟩ := h7 i u hi
    have := mem_le_sum (List.mem_of_getElem? hb1)
    exact hb2.2 (by omega)
set_option maxRecDepth 100000 in
theorem trod_mergerK {fuel : Nat} {cs : List Value} {x : DataW H × List MemPlace} (h : DataW.trod enc Tryz.prog w base spare held fuel 25 cs = some x) : ∃ m : Mg, cs = m.cells ∧ MgIn w w.heap.size m ∧ (Rows.uptoBulk x.1 ≤ 1048576 → MgOk m ∧ ∀ u, u ∈ m.a ∨ u ∈ m.b ∨ u ∈ m.o → u.key.length ≤ 1099511627776 ∧ u.row.length ≤ 1099511627776) ∧ m.a.length + m.b.length + m.o.length ≤ Rows.uptoBulk x.1 := by
  obtain ⟨xs, n, _, hx, hlen, hxs, hf⟩ := DataW.trod_struct Tryz.underlying25 h
  have hc : Tryz.prog.cellsOf 25 = 6 := by kernel_rfl
  have hc0 : Tryz.prog.cellsOf 23 = 1 := by kernel_rfl
  have hc1 : Tryz.prog.cellsOf 22 = 1 := by kernel_rfl
  have hc2 : Tryz.prog.cellsOf 3 = 1 := by kernel_rfl
  rw [hc] at hlen
  match cs, hlen with
  | [c0, c1, c2, c3, c4, c5], _ =>
    have h0 := hf 0 _ rfl
    have h1 := hf 1 _ rfl
    have h2 := hf 2 _ rfl
    have h3 := hf 3 _ rfl
    have h4 := hf 4 _ rfl
    have h5 := hf 5 _ rfl
    match xs, hxs with
    | [y0, y1, y2, y3, y4, y5], _ =>
      simp only [hc0, hc1, hc2, List.drop_zero, List.take_succ_cons, List.take_zero, List.drop_succ_cons, List.getElem?_cons_zero, List.getElem?_cons_succ] at h0 h1 h2 h3 h4 h5
      obtain ⟨⟨A0, k0, l0⟩, e0, g0, m0, i0, o0, n0⟩ := open_upsK h0
      obtain ⟨⟨A1, k1, l1⟩, e1, g1, m1, i1, o1, n1⟩ := open_upsK h1
      obtain ⟨n2, e2, _, w2⟩ := DataW.trod_int Tryz.underlying3 h2
      obtain ⟨n3, e3, _, w3⟩ := DataW.trod_int Tryz.underlying3 h3
      obtain ⟨A4, k4, l4, e4, g4, m4, i4, n4⟩ := open_timesC h4
      obtain ⟨⟨A5, k5, l5⟩, e5, g5, m5, i5, o5, n5⟩ := open_upsK h5
      obtain rfl := (List.cons.inj e0).1
      obtain rfl := (List.cons.inj e1).1
      obtain rfl := (List.cons.inj e2).1
      obtain rfl := (List.cons.inj e3).1
      obtain rfl := (List.cons.inj e4).1
      obtain rfl := (List.cons.inj e5).1
      have hM : Rows.uptoBulk x.1 = Rows.uptoBulk y0.1 + (Rows.uptoBulk y1.1 + (Rows.uptoBulk y2.1 + (Rows.uptoBulk y3.1 + (Rows.uptoBulk y4.1 + (Rows.uptoBulk y5.1 + 0))))) + 1 := by
        rw [hx]
        simp only [List.map_cons, List.map_nil, Rows.uptoBulk, Rows.uptoBulkAll]
      have n0 : l0.length + 1 ≤ Rows.uptoBulk y0.1 := n0
      have n1 : l1.length + 1 ≤ Rows.uptoBulk y1.1 := n1
      have n5 : l5.length + 1 ≤ Rows.uptoBulk y5.1 := n5
      refine ⟨⟨A0, k0, l0, A1, k1, l1, n2, n3, A4, k4, l4, A5, k5, l5⟩, rfl, ⟨i0, i1, i4, i5⟩, fun hb => ⟨⟨⟨?_, fun u hu => (o0 (by omega) u hu).1⟩, ⟨?_, fun u hu => (o1 (by omega) u hu).1⟩, ⟨?_, g4, m4⟩, ⟨?_, fun u hu => (o5 (by omega) u hu).1⟩, wf_i64 w2, wf_i64 w3⟩, fun u hu => ?_⟩, ?_⟩
      · show l0.length ≤ _; omega
      · show l1.length ≤ _; omega
      · show l4.length ≤ _; omega
      · show l5.length ≤ _; omega
      · rcases hu with hu | hu | hu
        · exact (o0 (by omega) u hu).2
        · exact (o1 (by omega) u hu).2
        · exact (o5 (by omega) u hu).2
      · show l0.length + l1.length + l5.length ≤ _; omega
theorem open_mergerk {v : Value} {d : DataW H} {p : List MemPlace} {r : Reach} {b0 : Nat} (hv : Value.okWide Tryz.prog w r b0 25 v) (h : DataW.Trod enc Tryz.prog w base spare held 25 v d p) : ∃ m : Mg, v = m.val ∧ MgIn w w.heap.size m ∧ (Rows.uptoBulk d ≤ 1048576 → MgOk m ∧ ∀ u, u ∈ m.a ∨ u ∈ m.b ∨ u ∈ m.o → u.key.length ≤ 1099511627776 ∧ u.row.length ≤ 1099511627776) ∧ m.a.length + m.b.length + m.o.length ≤ Rows.uptoBulk d := by
  obtain ⟨cs, rfl, hsz⟩ := okWide_struct Tryz.underlying25 hv
  obtain ⟨fuel, hf⟩ := h
  obtain ⟨e, he, hok⟩ := trod_mergerK hf
  refine ⟨e, ?_, hok⟩
  obtain ⟨l⟩ := cs
  simp only [Value.cells] at he
  unfold Mg.val
  rw [show l = e.cells from by simpa using he]
  rfl
end
end Go.Proofs.YthpjkikfadfgeaaGreat
