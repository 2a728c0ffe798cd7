/- Part 15 of the texts on which SpineEnds rests: facts and contracts. -/
import Derived.Test.YtenjlhlighkenaaGreatSpineEndsM14
namespace Go.Proofs.YtenjlhlighkenaaGreat
open Go Go.RowKit Go.ChangeShapes Go.WideShapes Go.ChangeAt Go.Deep

def UOkK (u : Up) : Prop := UOk u ∧ u.key.length ≤ 1099511627776 ∧ u.row.length ≤ 1099511627776
set_option maxRecDepth 100000
section
variable {H : Type} {enc : TypeId × Value → H} {w : World} {base : Nat} {spare : Nat → Bool} {held : Bool}
def UIsK (w : World) (u : Up) (b : Nat) : Prop := UIn w w.heap.size u ∧ (b ≤ 1048576 → UOkK u)
set_option maxRecDepth 100000 in
theorem trod_upK {fuel : Nat} {cs : List Value} {x : DataW H × List MemPlace} (h : DataW.trod enc Tryz.prog w base spare held fuel 57 cs = some x) : ∃ u : Up, cs = u.cells ∧ UIsK w u (Rows.uptoBulk x.1) := by
  obtain ⟨xs, n, hfu, hx, hlen, hxs, hf⟩ := DataW.trod_struct Tryz.underlying57 h
  have hc : Tryz.prog.cellsOf 57 = 6 := by kernel_rfl
  have hc0 : Tryz.prog.cellsOf 55 = 1 := by kernel_rfl
  have hc1 : Tryz.prog.cellsOf 26 = 3 := by kernel_rfl
  have hc2 : Tryz.prog.cellsOf 2 = 1 := by kernel_rfl
  rw [hc] at hlen
  match cs, hlen with
  | [c0, c1, c2, c3, c4, c5], _ =>
    have h0 := hf 0 _ rfl
    have h1 := hf 1 _ rfl
    have h2 := hf 2 _ rfl
    have h3 := hf 3 _ rfl
    match xs, hxs with
    | [y0, y1, y2, y3], _ =>
      simp only [hc0, hc1, hc2, List.drop_zero, List.take_succ_cons, List.take_zero, List.drop_succ_cons, List.getElem?_cons_zero, List.getElem?_cons_succ] at h0 h1 h2 h3
      obtain ⟨A0, k0, l0, e0, i0, o0, m0⟩ := open_rowC h0
      obtain ⟨A1, k1, l1, e1, i1, o1, m1⟩ := open_rowC h1
      obtain ⟨t, e2⟩ := trod_time h2
      obtain ⟨d, e3, _, w3⟩ := DataW.trod_int Tryz.underlying2 h3
      have hM : Rows.uptoBulk x.1 = Rows.uptoBulk y0.1 + (Rows.uptoBulk y1.1 + (Rows.uptoBulk y2.1 + (Rows.uptoBulk y3.1 + 0))) + 1 := by
        rw [hx]
        simp only [List.map_cons, List.map_nil, Rows.uptoBulk, Rows.uptoBulkAll]
      obtain rfl := (List.cons.inj e0).1
      obtain rfl := (List.cons.inj e1).1
      obtain rfl := (List.cons.inj e3).1
      simp only [Tm.cells, List.cons.injEq, and_true] at e2
      obtain ⟨rfl, rfl, rfl⟩ := e2
      refine ⟨⟨A0, k0, l0, A1, k1, l1, t, d⟩, rfl, ⟨i0, i1⟩, fun hb => ⟨⟨?_, ?_, o0, o1, wf_i64 w3⟩, ?_, ?_⟩⟩
      · show l0.length ≤ _; omega
      · show l1.length ≤ _; omega
      · show l0.length ≤ _; omega
      · show l1.length ≤ _; omega
theorem open_upsK {fuel : Nat} {cs : List Value} {x : DataW H × List MemPlace} (h : DataW.trod enc Tryz.prog w base spare held fuel 32 cs = some x) :
    ∃ s : Rw Up, cs = s.cells ∧ s.l.length ≤ s.c ∧ s.c ≤ maxLen ∧ Ups w w.heap.size s.A s.l ∧ (Rows.uptoBulk x.1 ≤ 1048576 → ∀ u ∈ s.l, UOkK u) ∧ s.l.length + 1 ≤ Rows.uptoBulk x.1 := by
  obtain ⟨A, c, l, bs, e, h1, h2, h3, h4, h5, h6, h7⟩ := open_list_bulk (size := 6) (cells := Up.cells) (OK := UIsK w) Tryz.underlying32 (by kernel_rfl) (fun _ => by simp [Up.cells]) (fun {n cs x} _ ht => trod_upK ht) h
  have := len_le_sum h6
  refine ⟨⟨A, c, l⟩, e, h1, h2, ⟨h3, fun u hu => ?_⟩, fun hb u hu => ?_, by show l.length + 1 ≤ _; omega⟩
  · obtain ⟨i, hi⟩ := List.getElem?_of_mem hu
    exact (h7 i u hi).elim fun _ h => h.2.1
  · obtain ⟨i, hi⟩ := List.getElem?_of_mem hu
    obtain ⟨b, hb1, hb2⟩ := h7 i u hi
    have := mem_le_sum (List.mem_of_getElem? hb1)
    exact hb2.2 (by omega)
end
end Go.Proofs.YtenjlhlighkenaaGreat
namespace Go.Proofs.YtenjlhlighkenaaGreat
open Go Go.RowKit Go.ChangeShapes Go.WideShapes Go.ChangeAt Go.Deep

set_option maxRecDepth 100000
section
variable {H : Type} {enc : TypeId × Value → H} {w : World} {base : Nat} {spare : Nat → Bool} {held : Bool}
set_option maxRecDepth 100000 in
theorem trod_batchS {fuel : Nat} {cs : List Value} {x : DataW H × List MemPlace} (h : DataW.trod enc Tryz.prog w base spare held fuel 61 cs = some x) : ∃ b : Bt, cs = b.cells ∧ BtIn w w.heap.size b ∧ (Rows.uptoBulk x.1 ≤ 1048576 → BtOk b ∧ ∀ u ∈ b.l, u.key.length ≤ 1099511627776 ∧ u.row.length ≤ 1099511627776) ∧ b.l.length ≤ Rows.uptoBulk x.1 ∧ b.l.length ≤ b.uc ∧ b.uc ≤ maxLen := by
  obtain ⟨xs, n, _, hx, hlen, hxs, hf⟩ := DataW.trod_struct Tryz.underlying61 h
  have hc : Tryz.prog.cellsOf 61 = 2 := by kernel_rfl
  have hc0 : Tryz.prog.cellsOf 28 = 1 := by kernel_rfl
  have hc1 : Tryz.prog.cellsOf 32 = 1 := by kernel_rfl
  rw [hc] at hlen
  match cs, hlen with
  | [c0, c1], _ =>
    have h0 := hf 0 _ rfl
    have h1 := hf 1 _ rfl
    match xs, hxs with
    | [y0, y1], _ =>
      simp only [hc0, hc1, List.drop_zero, List.take_succ_cons, List.take_zero, List.drop_succ_cons, List.getElem?_cons_zero, List.getElem?_cons_succ] at h0 h1
      obtain ⟨A0, k0, l0, e0, g0, m0, i0, n0⟩ := open_timesC h0
      obtain ⟨⟨A1, k1, l1⟩, e1, g1, m1, i1, o1, n1⟩ := open_upsK h1
      obtain rfl := (List.cons.inj e0).1
      obtain rfl := (List.cons.inj e1).1
      have hM : Rows.uptoBulk x.1 = Rows.uptoBulk y0.1 + (Rows.uptoBulk y1.1 + 0) + 1 := by
        rw [hx]
        simp only [List.map_cons, List.map_nil, Rows.uptoBulk, Rows.uptoBulkAll]
      have n1 : l1.length + 1 ≤ Rows.uptoBulk y1.1 := n1
      exact ⟨⟨A0, k0, l0, A1, k1, l1⟩, rfl, ⟨i0, i1⟩, fun hb => ⟨⟨⟨by show l0.length ≤ _; omega, g0, m0⟩, ⟨by show l1.length ≤ _; omega, fun u hu => (o1 (by omega) u hu).1⟩⟩, fun u hu => (o1 (by omega) u hu).2⟩, by show l1.length ≤ _; omega, g1, m1⟩
theorem trod_mergerS {fuel : Nat} {cs : List Value} {x : DataW H × List MemPlace} (h : DataW.trod enc Tryz.prog w base spare held fuel 63 cs = some x) : ∃ m : Mg, cs = m.cells ∧ MgIn w w.heap.size m ∧ (Rows.uptoBulk x.1 ≤ 1048576 → MgOk m ∧ ∀ u, u ∈ m.a ∨ u ∈ m.b ∨ u ∈ m.o → u.key.length ≤ 1099511627776 ∧ u.row.length ≤ 1099511627776) ∧ m.a.length + m.b.length + m.o.length ≤ Rows.uptoBulk x.1 ∧ McOk m ∧ m.o.length ≤ m.oc ∧ m.oc ≤ maxLen := by
  obtain ⟨xs, n, _, hx, hlen, hxs, hf⟩ := DataW.trod_struct Tryz.underlying63 h
  have hc : Tryz.prog.cellsOf 63 = 6 := by kernel_rfl
  have hc0 : Tryz.prog.cellsOf 28 = 1 := by kernel_rfl
  have hc1 : Tryz.prog.cellsOf 32 = 1 := by kernel_rfl
  have hc2 : Tryz.prog.cellsOf 3 = 1 := by kernel_rfl
  rw [hc] at hlen
  match cs, hlen with
  | [c0, c1, c2, c3, c4, c5], _ =>
    have h0 := hf 0 _ rfl
    have h1 := hf 1 _ rfl
    have h2 := hf 2 _ rfl
    have h3 := hf 3 _ rfl
    have h4 := hf 4 _ rfl
    have h5 := hf 5 _ rfl
    match xs, hxs with
    | [y0, y1, y2, y3, y4, y5], _ =>
      simp only [hc0, hc1, hc2, List.drop_zero, List.take_succ_cons, List.take_zero, List.drop_succ_cons, List.getElem?_cons_zero, List.getElem?_cons_succ] at h0 h1 h2 h3 h4 h5
      obtain ⟨⟨A0, k0, l0⟩, e0, g0, m0, i0, o0, n0⟩ := open_upsK h0
      obtain ⟨⟨A1, k1, l1⟩, e1, g1, m1, i1, o1, n1⟩ := open_upsK h1
      obtain ⟨n2, e2, _, w2⟩ := DataW.trod_int Tryz.underlying3 h2
      obtain ⟨n3, e3, _, w3⟩ := DataW.trod_int Tryz.underlying3 h3
      obtain ⟨A4, k4, l4, e4, g4, m4, i4, n4⟩ := open_timesC h4
      obtain ⟨⟨A5, k5, l5⟩, e5, g5, m5, i5, o5, n5⟩ := open_upsK h5
      obtain rfl := (List.cons.inj e0).1
      obtain rfl := (List.cons.inj e1).1
      obtain rfl := (List.cons.inj e2).1
      obtain rfl := (List.cons.inj e3).1
      obtain rfl := (List.cons.inj e4).1
      obtain rfl := (List.cons.inj e5).1
      have hM : Rows.uptoBulk x.1 = Rows.uptoBulk y0.1 + (Rows.uptoBulk y1.1 + (Rows.uptoBulk y2.1 + (Rows.uptoBulk y3.1 + (Rows.uptoBulk y4.1 + (Rows.uptoBulk y5.1 + 0))))) + 1 := by
        rw [hx]
        simp only [List.map_cons, List.map_nil, Rows.uptoBulk, Rows.uptoBulkAll]
      have n0 : l0.length + 1 ≤ Rows.uptoBulk y0.1 := n0
      have n1 : l1.length + 1 ≤ Rows.uptoBulk y1.1 := n1
      have n5 : l5.length + 1 ≤ Rows.uptoBulk y5.1 := n5
      refine ⟨⟨A0, k0, l0, A1, k1, l1, n2, n3, A4, k4, l4, A5, k5, l5⟩, rfl, ⟨i0, i1, i4, i5⟩, fun hb => ⟨⟨⟨?_, fun u hu => (o0 (by omega) u hu).1⟩, ⟨?_, fun u hu => (o1 (by omega) u hu).1⟩, ⟨?_, g4, m4⟩, ⟨?_, fun u hu => (o5 (by omega) u hu).1⟩, wf_i64 w2, wf_i64 w3⟩, fun u hu => ?_⟩, ?_, ⟨g0, m0, g1, m1⟩, g5, m5⟩
      · show l0.length ≤ _; omega
      · show l1.length ≤ _; omega
      · show l4.length ≤ _; omega
      · show l5.length ≤ _; omega
      · rcases hu with hu | hu | hu
        · exact (o0 (by omega) u hu).2
        · exact (o1 (by omega) u hu).2
        · exact (o5 (by omega) u hu).2
      · show l0.length + l1.length + l5.length ≤ _; omega
structure LvSh (l : Lv) : Prop where
  b : ∀ u ∈ l.b.l, u.key.length ≤ 1099511627776 ∧ u.row.length ≤ 1099511627776
  m : ∀ u, u ∈ l.m.a ∨ u ∈ l.m.b ∨ u ∈ l.m.o → u.key.length ≤ 1099511627776 ∧ u.row.length ≤ 1099511627776
  le : l.b.l.length ≤ l.b.uc
  uc : l.b.uc ≤ maxLen
  ole : l.m.o.length ≤ l.m.oc
  oc : l.m.oc ≤ maxLen
def LvIs (w : World) (l : Lv) (b : Nat) : Prop := LvIn w w.heap.size l ∧ (b ≤ 1048576 → LvOk l ∧ LvSh l) ∧ wtL l ≤ b
set_option maxRecDepth 100000 in
theorem trod_lvS {fuel : Nat} {cs : List Value} {x : DataW H × List MemPlace} (h : DataW.trod enc Tryz.prog w base spare held fuel 65 cs = some x) : ∃ l : Lv, cs = l.cells ∧ LvIs w l (Rows.uptoBulk x.1) := by
  obtain ⟨xs, n, _, hx, hlen, hxs, hf⟩ := DataW.trod_struct Tryz.underlying65 h
  have hc : Tryz.prog.cellsOf 65 = 10 := by kernel_rfl
  have hc0 : Tryz.prog.cellsOf 3 = 1 := by kernel_rfl
  have hc1 : Tryz.prog.cellsOf 4 = 1 := by kernel_rfl
  have hc2 : Tryz.prog.cellsOf 61 = 2 := by kernel_rfl
  have hc3 : Tryz.prog.cellsOf 63 = 6 := by kernel_rfl
  rw [hc] at hlen
  match cs, hlen with
  | [c0, c1, c2, c3, c4, c5, c6, c7, c8, c9], _ =>
    have h0 := hf 0 _ rfl
    have h1 := hf 1 _ rfl
    have h2 := hf 2 _ rfl
    have h3 := hf 3 _ rfl
    match xs, hxs with
    | [y0, y1, y2, y3], _ =>
      simp only [hc0, hc1, hc2, hc3, List.drop_zero, List.take_succ_cons, List.take_zero, List.drop_succ_cons, List.getElem?_cons_zero, List.getElem?_cons_succ] at h0 h1 h2 h3
      obtain ⟨n0, e0, _, w0⟩ := DataW.trod_int Tryz.underlying3 h0
      obtain ⟨n1, e1, _⟩ := DataW.trod_bool Tryz.underlying4 h1
      obtain ⟨b, e2, i2, o2, l2, r2, m2⟩ := trod_batchS h2
      obtain ⟨m, e3, i3, o3, l3, r3, r4, r5⟩ := trod_mergerS h3
      obtain rfl := (List.cons.inj e0).1
      obtain rfl := (List.cons.inj e1).1
      have hM : Rows.uptoBulk x.1 = Rows.uptoBulk y0.1 + (Rows.uptoBulk y1.1 + (Rows.uptoBulk y2.1 + (Rows.uptoBulk y3.1 + 0))) + 1 := by
        rw [hx]
        simp only [List.map_cons, List.map_nil, Rows.uptoBulk, Rows.uptoBulkAll]
      refine ⟨⟨n0, n1, b, m⟩, ?_, ⟨i2, i3⟩, fun hb => ⟨⟨wf_i64 w0, (o2 (by omega)).1, (o3 (by omega)).1, r3⟩, ⟨(o2 (by omega)).2, (o3 (by omega)).2, r2, m2, r4, r5⟩⟩, ?_⟩
      · have e2 : [c2, c3] = b.cells := e2
        have e3 : [c4, c5, c6, c7, c8, c9] = m.cells := e3
        show _ = _ :: _ :: (b.cells ++ m.cells)
        rw [← e2, ← e3]
        rfl
      · have h4 : wtL ⟨n0, n1, b, m⟩ ≤ b.l.length + (m.a.length + m.b.length + m.o.length) := by
          unfold wtL partsM
          simp only [List.length_append, List.length_drop]
          split <;> omega
        omega
theorem wt_sum : ∀ (L : List Lv) (bs : List Nat), bs.length = L.length → (∀ (i : Nat) (l : Lv), L[i]? = some l → ∃ b, bs[i]? = some b ∧ wtL l ≤ b) → wtS L ≤ bs.sum
  | [], _, _, _ => Nat.zero_le _
  | l :: L, [], h, _ => by cases h
  | l :: L, b :: bs, h, hs => by
    rw [wt_cons', List.sum_cons]
    obtain ⟨b', e, hb⟩ := hs 0 l rfl
    obtain rfl : b = b' := Option.some.inj e
    have := wt_sum L bs (by simpa using h) (fun i x hx => hs (i + 1) x hx)
    omega
set_option maxRecDepth 100000 in
theorem trod_spS {fuel : Nat} {cs : List Value} {x : DataW H × List MemPlace} (h : DataW.trod enc Tryz.prog w base spare held fuel 31 cs = some x) : ∃ s : Sp, cs = s.cells ∧ SpIn w w.heap.size s ∧ (Rows.uptoBulk x.1 ≤ 1048576 → SpOk s ∧ ∀ l ∈ s.L, LvSh l) ∧ wtS s.L ≤ Rows.uptoBulk x.1 ∧ s.L.length ≤ Rows.uptoBulk x.1 := by
  obtain ⟨xs, n, _, hx, hlen, hxs, hf⟩ := DataW.trod_struct Tryz.underlying31 h
  have hc : Tryz.prog.cellsOf 31 = 2 := by kernel_rfl
  have hc0 : Tryz.prog.cellsOf 28 = 1 := by kernel_rfl
  have hc1 : Tryz.prog.cellsOf 29 = 1 := by kernel_rfl
  rw [hc] at hlen
  match cs, hlen with
  | [c0, c1], _ =>
    have h0 := hf 0 _ rfl
    have h1 := hf 1 _ rfl
    match xs, hxs with
    | [y0, y1], _ =>
      simp only [hc0, hc1, List.drop_zero, List.take_succ_cons, List.take_zero, List.drop_succ_cons, List.getElem?_cons_zero, List.getElem?_cons_succ] at h0 h1
      obtain ⟨A0, k0, l0, e0, g0, m0, i0, n0⟩ := open_timesC h0
      obtain ⟨A, c, l, bs, e, g1, m1, g3, g4, g5, g6, g7⟩ := open_list_bulk (size := 10) (cells := Lv.cells) (OK := LvIs w) Tryz.underlying29 (by kernel_rfl) (fun _ => by simp [Lv.cells]) (fun {n cs x} _ ht => trod_lvS ht) h1
      obtain rfl := (List.cons.inj e0).1
      obtain rfl := (List.cons.inj e).1
      have hM : Rows.uptoBulk x.1 = Rows.uptoBulk y0.1 + (Rows.uptoBulk y1.1 + 0) + 1 := by
        rw [hx]
        simp only [List.map_cons, List.map_nil, Rows.uptoBulk, Rows.uptoBulkAll]
      have hlb := len_le_sum g6
      have hws := wt_sum l bs g4 (fun i a ha => (g7 i a ha).imp fun b h => ⟨h.1, h.2.2.2⟩)
      have hel : ∀ a ∈ l, ∃ b, b ≤ bs.sum ∧ LvIs w a b := fun a ha => by
        obtain ⟨i, hi⟩ := List.getElem?_of_mem ha
        obtain ⟨b, hb1, hb2⟩ := g7 i a hi
        exact ⟨b, mem_le_sum (List.mem_of_getElem? hb1), hb2⟩
      refine ⟨⟨A0, k0, l0, A, c, l⟩, rfl, ⟨i0, ⟨g3, fun a ha => ?_⟩⟩, fun hb => ⟨⟨⟨?_, g0, m0⟩, ?_, g1, m1, fun a ha => ?_⟩, fun a ha => ?_⟩, ?_, ?_⟩
      · obtain ⟨_, _, h⟩ := hel a ha
        exact h.1
      · show l0.length ≤ _; omega
      · show l.length ≤ _; omega
      · obtain ⟨b, hb1, h⟩ := hel a ha
        exact (h.2.1 (by omega)).1
      · obtain ⟨b, hb1, h⟩ := hel a ha
        exact (h.2.1 (by omega)).2
      · show wtS l ≤ _; omega
      · show l.length ≤ _; omega
theorem open_spine {v : Value} {d : DataW H} {p : List MemPlace} {r : Reach} {b0 : Nat} (hv : Value.okWide Tryz.prog w r b0 31 v) (h : DataW.Trod enc Tryz.prog w base spare held 31 v d p) : ∃ s : Sp, v = s.val ∧ SpIn w w.heap.size s ∧ (Rows.uptoBulk d ≤ 1048576 → SpOk s ∧ ∀ l ∈ s.L, LvSh l) ∧ wtS s.L ≤ Rows.uptoBulk d ∧ s.L.length ≤ Rows.uptoBulk d := by
  obtain ⟨cs, rfl, hsz⟩ := okWide_struct Tryz.underlying31 hv
  obtain ⟨fuel, hf⟩ := h
  obtain ⟨e, he, hok⟩ := trod_spS hf
  refine ⟨e, ?_, hok⟩
  obtain ⟨l⟩ := cs
  simp only [Value.cells] at he
  unfold Sp.val
  rw [show l = e.cells from by simpa using he]
  rfl
end
end Go.Proofs.YtenjlhlighkenaaGreat
namespace Go.Proofs.YtenjlhlighkenaaGreat
open Go Go.RowKit

theorem ends_law (s : Sp) (w : World) (hs : SpIn w w.heap.size s) (ok : SpOk s ∧ ∀ l ∈ s.L, LvSh l) (hw : wtS s.L ≤ 1048576) (_ : 0 ≤ 1048576) :
    Calls Tryz.prog 5 #[s.val] w fun e w' => e = .returned (.bool true) ∧ Below w.heap.size w w' := ends_walk s w hs ok.1 hw
end Go.Proofs.YtenjlhlighkenaaGreat
