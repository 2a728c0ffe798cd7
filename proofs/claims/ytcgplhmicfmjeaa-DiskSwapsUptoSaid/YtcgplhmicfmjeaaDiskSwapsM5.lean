/- Part 5 of the texts on which DiskSwaps rests: facts and contracts. -/
import Derived.Test.YtcgplhmicfmjeaaDiskSwapsM4
namespace Go.Proofs.Ytcgplhmicfmjeaa
open Go Go.RowKit Go.ChangeShapes Go.WideShapes Go.ChangeAt Go.Deep

set_option maxRecDepth 100000

section
variable {H : Type} {enc : TypeId × Value → H} {w : World} {base : Nat} {spare : Nat → Bool} {held : Bool}
set_option maxRecDepth 100000 in
theorem trod_file {fuel : Nat} {cs : List Value} {x : DataW H × List MemPlace} (h : DataW.trod enc Try.prog w base spare held fuel 42 cs = some x) : ∃ f : Fl, cs = f.cells ∧ 2 + f.d.size ≤ Rows.uptoBulk x.1 := by
  obtain ⟨xs, n, _, hx, hlen, hxs, hf⟩ := DataW.trod_struct Try.underlying42 h
  have hc : Try.prog.cellsOf 42 = 2 := by kernel_rfl
  have hcs : Try.prog.cellsOf 9 = 1 := by kernel_rfl
  rw [hc] at hlen
  match cs, hlen with
  | [c0, c1], _ =>
    have h0 := hf 0 _ rfl
    have h1 := hf 1 _ rfl
    match xs, hxs with
    | [y0, y1], _ =>
      simp only [hcs, List.drop_zero, List.take_succ_cons, List.take_zero, List.drop_succ_cons, List.getElem?_cons_zero, List.getElem?_cons_succ] at h0 h1
      obtain ⟨n0, e0, x0, w0⟩ := DataW.trod_string Try.underlying9 h0
      obtain ⟨n1, e1, x1, w1⟩ := DataW.trod_string Try.underlying9 h1
      obtain rfl := (List.cons.inj e0).1
      obtain rfl := (List.cons.inj e1).1
      refine ⟨⟨n0, n1⟩, rfl, ?_⟩
      rw [hx]
      subst x0 x1
      simp only [List.map_cons, List.map_nil, Rows.uptoBulk, Rows.uptoBulkAll]
      have l1 : n1.data.toList.length = n1.size := by rw [Array.length_toList]; rfl
      first | (dsimp only; omega) | omega | (simp; omega)
set_option maxRecDepth 100000 in
theorem trod_write {fuel : Nat} {cs : List Value} {x : DataW H × List MemPlace} (h : DataW.trod enc Try.prog w base spare held fuel 36 cs = some x) : ∃ f : Wr, cs = f.cells ∧ 2 + f.d.size ≤ Rows.uptoBulk x.1 := by
  obtain ⟨xs, n, _, hx, hlen, hxs, hf⟩ := DataW.trod_struct Try.underlying36 h
  have hc : Try.prog.cellsOf 36 = 4 := by kernel_rfl
  have hcs : Try.prog.cellsOf 9 = 1 := by kernel_rfl
  have hck : Try.prog.cellsOf 34 = 1 := by kernel_rfl
  rw [hc] at hlen
  match cs, hlen with
  | [c0, c1, c2, c3], _ =>
    have h0 := hf 0 _ rfl
    have h1 := hf 1 _ rfl
    have h2 := hf 2 _ rfl
    have h3 := hf 3 _ rfl
    match xs, hxs with
    | [y0, y1, y2, y3], _ =>
      simp only [hcs, hck, List.drop_zero, List.take_succ_cons, List.take_zero, List.drop_succ_cons, List.getElem?_cons_zero, List.getElem?_cons_succ] at h0 h1 h2 h3
      obtain ⟨n0, e0, x0, w0⟩ := DataW.trod_int Try.underlying34 h0
      obtain ⟨n1, e1, x1, w1⟩ := DataW.trod_string Try.underlying9 h1
      obtain ⟨n2, e2, x2, w2⟩ := DataW.trod_string Try.underlying9 h2
      obtain ⟨n3, e3, x3, w3⟩ := DataW.trod_string Try.underlying9 h3
      obtain rfl := (List.cons.inj e0).1
      obtain rfl := (List.cons.inj e1).1
      obtain rfl := (List.cons.inj e2).1
      obtain rfl := (List.cons.inj e3).1
      refine ⟨⟨n0, n1, n2, n3⟩, rfl, ?_⟩
      rw [hx]
      subst x0 x1 x2 x3
      simp only [List.map_cons, List.map_nil, Rows.uptoBulk, Rows.uptoBulkAll]
      have l3 : n3.data.toList.length = n3.size := by rw [Array.length_toList]; rfl
      first | (dsimp only; omega) | omega | (simp; omega)
theorem sum_of {α : Type} {f : α → Nat} : ∀ {l : List α} {bs : List Nat}, bs.length = l.length → (∀ (i : Nat) (a : α), l[i]? = some a → ∃ b, bs[i]? = some b ∧ f a ≤ b) → (l.map f).sum ≤ bs.sum
  | [], _, _, _ => by simp
  | a :: l, [], h, _ => by simp at h
  | a :: l, b :: bs, h, k => by
    have ih := sum_of (f := f) (l := l) (bs := bs) (by simpa using h) (fun i x hi => by have := k (i + 1) x (by simpa using hi); simpa using this)
    obtain ⟨b', hb, hle⟩ := k 0 a rfl
    have : b = b' := by simpa using hb
    simp only [List.map_cons, List.sum_cons]; omega
theorem open_filesC {fuel : Nat} {cs : List Value} {x : DataW H × List MemPlace} (h : DataW.trod enc Try.prog w base spare held fuel 22 cs = some x) :
    ∃ (A : Option Addr) (c : Nat) (l : List Fl), cs = [.slice A l.length c] ∧ Lies 2 Fl.cells w w.heap.size A l ∧ wtF l ≤ Rows.uptoBulk x.1 := by
  obtain ⟨A, c, l, bs, e, h1, h2, h3, h4, h5, h6, h7⟩ := open_list_bulk (size := 2) (cells := Fl.cells) (OK := fun f b => 2 + f.d.size ≤ b) Try.underlying22 (by kernel_rfl) (fun _ => by simp [Fl.cells]) (fun {n cs x} _ ht => trod_file ht) h
  have := sum_of (f := fun f : Fl => 2 + f.d.size) h4 h7
  exact ⟨A, c, l, e, h3, by unfold wtF; omega⟩
theorem open_writesC {fuel : Nat} {cs : List Value} {x : DataW H × List MemPlace} (h : DataW.trod enc Try.prog w base spare held fuel 23 cs = some x) :
    ∃ (A : Option Addr) (c : Nat) (l : List Wr), cs = [.slice A l.length c] ∧ l.length ≤ c ∧ c ≤ maxLen ∧ Lies 4 Wr.cells w w.heap.size A l ∧ wtW l ≤ Rows.uptoBulk x.1 := by
  obtain ⟨A, c, l, bs, e, h1, h2, h3, h4, h5, h6, h7⟩ := open_list_bulk (size := 4) (cells := Wr.cells) (OK := fun f b => 2 + f.d.size ≤ b) Try.underlying23 (by kernel_rfl) (fun _ => by simp [Wr.cells]) (fun {n cs x} _ ht => trod_write ht) h
  have := sum_of (f := fun f : Wr => 2 + f.d.size) h4 h7
  exact ⟨A, c, l, e, h1, h2, h3, by unfold wtW; omega⟩
theorem open_writes {v : Value} {d : DataW H} {p : List MemPlace} {r : Reach} {b0 : Nat} (hv : Value.okWide Try.prog w r b0 23 v) (h : DataW.Trod enc Try.prog w base spare held 23 v d p) :
    ∃ (A : Option Addr) (c : Nat) (l : List Wr), v = .slice A l.length c ∧ l.length ≤ c ∧ c ≤ maxLen ∧ Lies 4 Wr.cells w w.heap.size A l ∧ wtW l ≤ Rows.uptoBulk d := by
  obtain ⟨a0, n0, c0, rfl⟩ := okWide_slice Try.underlying23 hv
  obtain ⟨fuel, hf⟩ := h
  simp only [Value.cells] at hf
  obtain ⟨A, c, l, e, h1⟩ := open_writesC hf
  exact ⟨A, c, l, by simpa using e, h1⟩
set_option maxRecDepth 100000 in
theorem trod_disk {fuel : Nat} {cs : List Value} {x : DataW H × List MemPlace} (h : DataW.trod enc Try.prog w base spare held fuel 25 cs = some x) : ∃ y : Dl, cs = y.cells ∧ DIn w w.heap.size y ∧ (-9223372036854775808 ≤ y.fuse ∧ y.fuse ≤ 9223372036854775807) ∧ wtD y.d ≤ Rows.uptoBulk x.1 := by
  obtain ⟨xs, n, _, hx, hlen, hxs, hf⟩ := DataW.trod_struct Try.underlying25 h
  have hc : Try.prog.cellsOf 25 = 5 := by kernel_rfl
  have hc0 : Try.prog.cellsOf 22 = 1 := by kernel_rfl
  have hc1 : Try.prog.cellsOf 23 = 1 := by kernel_rfl
  have hc2 : Try.prog.cellsOf 3 = 1 := by kernel_rfl
  have hc3 : Try.prog.cellsOf 4 = 1 := by kernel_rfl
  rw [hc] at hlen
  match cs, hlen with
  | [c0, c1, c2, c3, c4], _ =>
    have h0 := hf 0 _ rfl
    have h1 := hf 1 _ rfl
    have h2 := hf 2 _ rfl
    have h3 := hf 3 _ rfl
    have h4 := hf 4 _ rfl
    match xs, hxs with
    | [y0, y1, y2, y3, y4], _ =>
      simp only [hc0, hc1, hc2, hc3, List.drop_zero, List.take_succ_cons, List.take_zero, List.drop_succ_cons, List.getElem?_cons_zero, List.getElem?_cons_succ] at h0 h1 h2 h3 h4
      obtain ⟨A0, k0_, l0, e0, i0, m0⟩ := open_filesC h0
      obtain ⟨A1, k1_, l1, e1, g1, _, i1, m1⟩ := open_writesC h1
      obtain ⟨n2, e2, _, w2⟩ := DataW.trod_int Try.underlying3 h2
      obtain ⟨n3, e3, _⟩ := DataW.trod_bool Try.underlying4 h3
      obtain ⟨n4, e4, _, w4⟩ := DataW.trod_int Try.underlying3 h4
      obtain rfl := (List.cons.inj e0).1
      obtain rfl := (List.cons.inj e1).1
      obtain rfl := (List.cons.inj e2).1
      obtain rfl := (List.cons.inj e3).1
      obtain rfl := (List.cons.inj e4).1
      have hM : Rows.uptoBulk x.1 = Rows.uptoBulk y0.1 + (Rows.uptoBulk y1.1 + (Rows.uptoBulk y2.1 + (Rows.uptoBulk y3.1 + (Rows.uptoBulk y4.1 + 0)))) + 1 := by
        rw [hx]
        simp only [List.map_cons, List.map_nil, Rows.uptoBulk, Rows.uptoBulkAll]
      refine ⟨⟨A0, k0_, l0, A1, k1_, l1, n2, n3, n4⟩, rfl, ⟨i0, i1, g1⟩, wf_i64 w4, ?_⟩
      unfold wtD Dl.d
      dsimp only
      omega
theorem open_disk {v : Value} {d : DataW H} {p : List MemPlace} {r : Reach} {b0 : Nat} (hv : Value.okWide Try.prog w r b0 25 v) (h : DataW.Trod enc Try.prog w base spare held 25 v d p) : ∃ y : Dl, v = y.val ∧ DIn w w.heap.size y ∧ (-9223372036854775808 ≤ y.fuse ∧ y.fuse ≤ 9223372036854775807) ∧ wtD y.d ≤ Rows.uptoBulk d := by
  obtain ⟨cs, rfl, hsz⟩ := okWide_struct Try.underlying25 hv
  obtain ⟨fuel, hf⟩ := h
  obtain ⟨e, he, hok⟩ := trod_disk hf
  refine ⟨e, ?_, hok⟩
  obtain ⟨l⟩ := cs
  simp only [Value.cells] at he
  unfold Dl.val
  rw [show l = e.cells from by simpa using he]
  rfl
end
end Go.Proofs.Ytcgplhmicfmjeaa
