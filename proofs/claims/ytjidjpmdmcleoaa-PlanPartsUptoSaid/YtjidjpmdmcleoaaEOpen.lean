/- An argument that is a value, a row, or an expression, opened. -/
import Derived.Test.YtjidjpmdmcleoaaOpenList
import Derived.Test.YtjidjpmdmcleoaaEMem
import Derived.Test.YtjidjpmdmcleoaaLift
namespace Go.Proofs.Ytjidjpmdmcleoaa
open Go Go.RowKit Go.ChangeShapes Go.WideShapes Go.ChangeAt Go.Deep

theorem vals_of_lies {W : World} {B : Nat} {A : Option Addr} {l : List Vl} (h : Lies 3 Vl.cells W B A l) : Vals W B A l := fun hp => by
  obtain ⟨b, o, e, hb, hc⟩ := h hp
  exact ⟨b, o, e, hb, fun i v hi => ⟨hc i v hi 0 _ rfl, hc i v hi 1 _ rfl, hc i v hi 2 _ rfl⟩⟩

section
variable {H : Type} {enc : TypeId × Value → H} {w : World} {base : Nat} {spare : Nat → Bool} {held : Bool}
set_option maxRecDepth 100000 in
theorem trod_val {fuel : Nat} {cs : List Value} {x : DataW H × List MemPlace} (h : DataW.trod enc Try.prog w base spare held fuel 24 cs = some x) : ∃ v : Vl, cs = v.cells ∧ VOk v := by
  obtain ⟨xs, n, _, _, hlen, hxs, hf⟩ := DataW.trod_struct Try.underlying24 h
  have hc : Try.prog.cellsOf 24 = 3 := by kernel_rfl
  have hcb : Try.prog.cellsOf 4 = 1 := by kernel_rfl
  have hci : Try.prog.cellsOf 2 = 1 := by kernel_rfl
  have hcs : Try.prog.cellsOf 9 = 1 := by kernel_rfl
  rw [hc] at hlen
  match cs, hlen with
  | [c0, c1, c2], _ =>
    have h0 := hf 0 _ rfl
    have h1 := hf 1 _ rfl
    have h2 := hf 2 _ rfl
    match xs, hxs with
    | [y0, y1, y2], _ =>
      simp only [hcb, hci, hcs, List.drop_zero, List.take_succ_cons, List.take_zero, List.drop_succ_cons, List.getElem?_cons_zero, List.getElem?_cons_succ] at h0 h1 h2
      obtain ⟨n0, e0, _⟩ := DataW.trod_bool Try.underlying4 h0
      obtain ⟨n1, e1, _, w1⟩ := DataW.trod_int Try.underlying2 h1
      obtain ⟨n2, e2, _, w2⟩ := DataW.trod_string Try.underlying9 h2
      obtain rfl := (List.cons.inj e0).1
      obtain rfl := (List.cons.inj e1).1
      obtain rfl := (List.cons.inj e2).1
      exact ⟨⟨n0, n1, n2⟩, rfl, w2, wf_i64 w1⟩
set_option maxRecDepth 100000 in
theorem open_val {r : Reach} {b0 : Nat} {v : Value} {d : DataW H} {p : List MemPlace} (hv : Value.okWide Try.prog w r b0 24 v) (h : DataW.Trod enc Try.prog w base spare held 24 v d p) : ∃ x : Vl, v = x.val ∧ VOk x := by
  obtain ⟨cs, rfl, hsz⟩ := okWide_struct Try.underlying24 hv
  obtain ⟨fuel, hf⟩ := h
  obtain ⟨t, ht, hok⟩ := trod_val hf
  refine ⟨t, ?_, hok⟩
  obtain ⟨l⟩ := cs
  simp only [Value.cells] at ht
  unfold Vl.val
  rw [show l = t.cells from by simpa using ht]
  rfl
set_option maxRecDepth 100000 in
theorem open_row {v : Value} {d : DataW H} {p : List MemPlace} {r : Reach} {b0 : Nat} (hv : Value.okWide Try.prog w r b0 28 v) (h : DataW.Trod enc Try.prog w base spare held 28 v d p) :
    ∃ (A : Option Addr) (c : Nat) (l : List Vl), v = .slice A l.length c ∧ l.length ≤ c ∧ c ≤ maxLen ∧ Vals w w.heap.size A l ∧ (∀ a ∈ l, VOk a) ∧ (d = .nil ∧ l = [] ∧ c = 0 ∨ ∃ es sp, d = .slice es sp ∧ es.length = l.length) := by
  obtain ⟨A, c, l, e, h1, h2, h3, h4, h5⟩ := open_list (size := 3) (cells := Vl.cells) (OK := VOk) Try.underlying28 (by kernel_rfl) (by decide) (fun _ => rfl) trod_val hv h
  exact ⟨A, c, l, e, h1, h2, vals_of_lies h3, h4, h5⟩
/-- the elements of a slice that was read, one fuel less -/
theorem slice_elems {P : Program} {t e : TypeId} {fuel : Nat} {cs : List Value} {x : DataW H × List MemPlace} (ht : P.underlying t = some (.slice e)) (h : DataW.trod enc P w base spare held fuel t cs = some x) :
    cs = [.slice none 0 0] ∨ ∃ (a : Addr) (len cap n : Nat), cs = [.slice (some a) len cap] ∧ fuel = n + 1 ∧ len ≤ cap ∧ cap ≤ maxLen ∧
      ∀ i, i < len → ∃ cs' x', w.cells? base (a.add (i * P.cellsOf e)) (P.cellsOf e) = some cs' ∧ DataW.trod enc P w base spare held n e cs' = some x' := by
  rcases DataW.trod_slice ht h with h0 | ⟨a, len, cap, elems, rest, n, hfu, rfl, rfl, hb, hl, hm, hlen, hel, hsp, hns⟩
  · exact .inl h0.1
  · refine .inr ⟨a, len, cap, n, rfl, hfu, hl, hm, fun i hi => ?_⟩
    have h1 := hel i hi
    rw [List.getElem?_eq_getElem (by omega)] at h1
    obtain ⟨cs', h2, h3⟩ := Option.bind_eq_some_iff.1 h1
    exact ⟨cs', _, h2, h3⟩
theorem lies_chosen {len : Nat} {a : Addr} {f : Nat → Lx} (hp : 0 < len) (hf : ∀ i, i < len → ∀ (j : Nat) (u : Value), (f i).cells[j]? = some u → w.cell? ((a.add (i * 6)).add j) = some u) :
    Lies 6 Lx.cells w w.heap.size (some a) ((List.range len).map f) := fun _ => by
  have hz : ((a.add (0 * 6)).add 0) = a := by unfold Addr.add; simp
  have h0 := hf 0 hp 0 _ rfl
  rw [hz] at h0
  have hspot : a.spot = none := by
    cases hs : a.spot with
    | none => rfl
    | some s =>
      unfold World.cell? at h0
      rw [hs] at h0
      split at h0 <;> simp at h0
  obtain ⟨b, o, sp⟩ := a
  simp only at hspot
  subst hspot
  have hadd : ∀ k j, ((⟨b, o, none⟩ : Addr).add k).add j = ⟨b, o + k + j, none⟩ := fun k j => by unfold Addr.add; split <;> split <;> simp_all
  refine ⟨b, o, rfl, World.block_lt_of_cell? w _ h0, fun i x hit j u hj => ?_⟩
  have hil : i < len := by have := (List.getElem?_eq_some_iff.1 hit).1; simpa using this
  have hti : f i = x := by simpa [hil] using hit
  subst hti
  have := hf i hil j u hj
  rwa [hadd] at this
/-- what an expression that came in has, at every depth -/
def LxFine (w : World) (e : Lx) : Prop := ∀ k, LxOk k e ∧ LxIn w w.heap.size k e
set_option maxRecDepth 100000 in
theorem trod_expr : ∀ (N fuel : Nat), fuel < N → ∀ {cs : List Value} {x : DataW H × List MemPlace}, DataW.trod enc Try.prog w base spare held fuel 27 cs = some x → ∃ e : Lx, cs = e.cells ∧ LxFine w e
  | 0, _, h, _, _, _ => absurd h (Nat.not_lt_zero _)
  | N + 1, fuel, hN, cs, x, h => by
    obtain ⟨xs, n, hfu, _, hlen, hxs, hf⟩ := DataW.trod_struct Try.underlying27 h
    have hc : Try.prog.cellsOf 27 = 6 := by kernel_rfl
    have hco : Try.prog.cellsOf 22 = 1 := by kernel_rfl
    have hci : Try.prog.cellsOf 3 = 1 := by kernel_rfl
    have hcv : Try.prog.cellsOf 24 = 3 := by kernel_rfl
    have hcs : Try.prog.cellsOf 25 = 1 := by kernel_rfl
    rw [hc] at hlen
    match cs, hlen with
    | [c0, c1, c2, c3, c4, c5], _ =>
      have h0 := hf 0 _ rfl
      have h1 := hf 1 _ rfl
      have h2 := hf 2 _ rfl
      have h3 := hf 3 _ rfl
      match xs, hxs with
      | [y0, y1, y2, y3], _ =>
        simp only [hco, hci, hcv, hcs, List.drop_zero, List.take_succ_cons, List.take_zero, List.drop_succ_cons, List.getElem?_cons_zero, List.getElem?_cons_succ] at h0 h1 h2 h3
        obtain ⟨n0, e0, _, w0⟩ := DataW.trod_int Try.underlying22 h0
        obtain ⟨n1, e1, _, w1⟩ := DataW.trod_int Try.underlying3 h1
        obtain ⟨v, e2, hv⟩ := trod_val h2
        obtain rfl := (List.cons.inj e0).1
        obtain rfl := (List.cons.inj e1).1
        simp only [Vl.cells, List.cons.injEq, and_true] at e2
        obtain ⟨rfl, rfl, rfl⟩ := e2
        rcases slice_elems Try.underlying25 h3 with e3 | ⟨a, len, cap, n2, e3, hfu2, hl, hm, hel⟩
        · obtain rfl := (List.cons.inj e3).1
          refine ⟨.mk n0 n1 v none 0 [], rfl, fun k => ?_⟩
          cases k with
          | zero => exact ⟨trivial, trivial⟩
          | succ k => exact ⟨⟨hv, wf_u8 w0, wf_i64 w1, Nat.zero_le _, fun _ h => by cases h⟩, Lies.nil_, fun _ h => by cases h⟩
        · obtain rfl := (List.cons.inj e3).1
          rw [hc] at hel
          have hT : ∀ i, i < len → ∃ x : Lx, LxFine w x ∧ ∀ (j : Nat) (u : Value), x.cells[j]? = some u → w.cell? ((a.add (i * 6)).add j) = some u := fun i hi => by
            obtain ⟨cs', x', hcs', htr⟩ := hel i hi
            obtain ⟨y, rfl, hy⟩ := trod_expr N n2 (by omega) htr
            obtain ⟨_, _, hat⟩ := World.cells?_some hcs'
            refine ⟨y, hy, fun j u hj => ?_⟩
            rw [hat j (List.getElem?_eq_some_iff.1 hj).1]
            exact hj
          obtain ⟨f, hf'⟩ := choose_lt hT
          have hle : ((List.range len).map f).length = len := by simp
          refine ⟨.mk n0 n1 v (some a) cap ((List.range len).map f), by simp [Lx.cells, Lx.op, Lx.col, Lx.c, Lx.A, Lx.kids, Lx.cap], fun k => ?_⟩
          cases k with
          | zero => exact ⟨trivial, trivial⟩
          | succ k =>
            have hmem : ∀ y ∈ (List.range len).map f, LxFine w y := fun y hy => by
              obtain ⟨i, hi, rfl⟩ := List.mem_map.1 hy
              exact (hf' i (List.mem_range.1 hi)).1
            refine ⟨⟨hv, wf_u8 w0, wf_i64 w1, by show ((List.range len).map f).length ≤ maxLen; rw [hle]; exact Nat.le_trans hl hm, fun y hy => (hmem y hy k).1⟩, ?_, fun y hy => (hmem y hy k).2⟩
            by_cases hp : 0 < len
            · exact lies_chosen hp fun i hi => (hf' i hi).2
            · exact fun h => by change 0 < ((List.range len).map f).length at h; rw [hle] at h; omega
set_option maxRecDepth 100000 in
theorem open_expr {v : Value} {d : DataW H} {p : List MemPlace} {r : Reach} {b0 : Nat} (hv : Value.okWide Try.prog w r b0 27 v) (h : DataW.Trod enc Try.prog w base spare held 27 v d p) : ∃ e : Lx, v = e.val ∧ LxFine w e := by
  obtain ⟨cs, rfl, hsz⟩ := okWide_struct Try.underlying27 hv
  obtain ⟨fuel, hf⟩ := h
  obtain ⟨e, he, hok⟩ := trod_expr (fuel + 1) fuel (Nat.lt_succ_self _) hf
  refine ⟨e, ?_, hok⟩
  obtain ⟨l⟩ := cs
  simp only [Value.cells] at he
  unfold Lx.val
  rw [show l = e.cells from by simpa using he]
  rfl
end
end Go.Proofs.Ytjidjpmdmcleoaa
