/- Boxed times, kept through a region that calls. -/
import Derived.Test.YtdbdjojgccbfcaaFronts
import Derived.Test.YtdbdjojgccbfcaaAt
namespace Go.Proofs.Ytdbdjojgccbfcaa
open Go Go.RowKit

theorem boxes1 (w : World) (s : Tm) : ∃ W, W = w.alloc (.cells #[.int .u64 (s.e : Int), .int .u64 (s.a : Int), .int .u64 (s.b : Int)] 26) ∧ Below w.heap.size w W ∧ Own W w.heap.size 26 s.cells :=
  ⟨_, rfl, (Below.refl _ _).alloc (Nat.le_refl _) _, by have := Own.made w 26 s.cells; simpa [Tm.cells] using this⟩
theorem boxes2 (w : World) (s t : Tm) : ∃ W, W = (w.alloc (.cells #[.int .u64 (s.e : Int), .int .u64 (s.a : Int), .int .u64 (s.b : Int)] 26)).alloc (.cells #[.int .u64 (t.e : Int), .int .u64 (t.a : Int), .int .u64 (t.b : Int)] 26) ∧
    Below w.heap.size w W ∧ Own W w.heap.size 26 s.cells ∧ Own W (w.heap.size + 1) 26 t.cells := by
  obtain ⟨W, hW, fb, f0⟩ := boxes1 w s
  have h1 : W.heap.size = w.heap.size + 1 := by rw [hW]; simp
  rw [← hW]
  obtain ⟨V, hV, gb, g0⟩ := boxes1 W t
  rw [← hV]
  rw [h1] at g0
  exact ⟨V, rfl, fb.trans (gb.mono (by omega)), f0.past gb f0.inside, g0⟩
theorem boxes3 (w : World) (s t u : Tm) : ∃ W, W = ((w.alloc (.cells #[.int .u64 (s.e : Int), .int .u64 (s.a : Int), .int .u64 (s.b : Int)] 26)).alloc (.cells #[.int .u64 (t.e : Int), .int .u64 (t.a : Int), .int .u64 (t.b : Int)] 26)).alloc (.cells #[.int .u64 (u.e : Int), .int .u64 (u.a : Int), .int .u64 (u.b : Int)] 26) ∧
    Below w.heap.size w W ∧ Own W w.heap.size 26 s.cells ∧ Own W (w.heap.size + 1) 26 t.cells ∧ Own W (w.heap.size + 1 + 1) 26 u.cells := by
  obtain ⟨W, hW, fb, f0, f1⟩ := boxes2 w s t
  have h1 : W.heap.size = w.heap.size + 1 + 1 := by rw [hW]; simp
  rw [← hW]
  obtain ⟨V, hV, gb, g0⟩ := boxes1 W u
  rw [← hV]
  rw [h1] at g0
  exact ⟨V, rfl, fb.trans (gb.mono (by omega)), f0.past gb f0.inside, f1.past gb f1.inside, g0⟩
theorem own_cells {a b : World} {g : Nat} {t : Tm} (h : Own a g 26 t.cells) (hb : Below a.heap.size a b) :
    b.cell? ⟨g, 0, none⟩ = some (.int .u64 (t.e : Int)) ∧ b.cell? ⟨g, 1, none⟩ = some (.int .u64 (t.a : Int)) ∧ b.cell? ⟨g, 2, none⟩ = some (.int .u64 (t.b : Int)) := by
  have h2 := h.past hb h.inside
  exact ⟨h2.at_ 0, h2.at_ 1, h2.at_ 2⟩
theorem keepB1 {a b : World} {g : Nat} {s : Tm} (h : Own a g 26 s.cells) (hb : Below a.heap.size a b) :
    Below a.heap.size a b ∧ b.cell? ⟨g, 0, none⟩ = some (.int .u64 (s.e : Int)) ∧ b.cell? ⟨g, 1, none⟩ = some (.int .u64 (s.a : Int)) ∧ b.cell? ⟨g, 2, none⟩ = some (.int .u64 (s.b : Int)) := ⟨hb, own_cells h hb⟩
theorem keepB2 {a b : World} {g g' : Nat} {s t : Tm} (h : Own a g 26 s.cells) (h' : Own a g' 26 t.cells) (hb : Below a.heap.size a b) :
    Below a.heap.size a b ∧ b.cell? ⟨g, 0, none⟩ = some (.int .u64 (s.e : Int)) ∧ b.cell? ⟨g, 1, none⟩ = some (.int .u64 (s.a : Int)) ∧ b.cell? ⟨g, 2, none⟩ = some (.int .u64 (s.b : Int)) ∧
      b.cell? ⟨g', 0, none⟩ = some (.int .u64 (t.e : Int)) ∧ b.cell? ⟨g', 1, none⟩ = some (.int .u64 (t.a : Int)) ∧ b.cell? ⟨g', 2, none⟩ = some (.int .u64 (t.b : Int)) := by
  obtain ⟨a0, a1, a2⟩ := own_cells h hb
  exact ⟨hb, a0, a1, a2, own_cells h' hb⟩
theorem keepB3 {a b : World} {g g' g'' : Nat} {s t u : Tm} (h : Own a g 26 s.cells) (h' : Own a g' 26 t.cells) (h'' : Own a g'' 26 u.cells) (hb : Below a.heap.size a b) :
    Below a.heap.size a b ∧ b.cell? ⟨g, 0, none⟩ = some (.int .u64 (s.e : Int)) ∧ b.cell? ⟨g, 1, none⟩ = some (.int .u64 (s.a : Int)) ∧ b.cell? ⟨g, 2, none⟩ = some (.int .u64 (s.b : Int)) ∧
      b.cell? ⟨g', 0, none⟩ = some (.int .u64 (t.e : Int)) ∧ b.cell? ⟨g', 1, none⟩ = some (.int .u64 (t.a : Int)) ∧ b.cell? ⟨g', 2, none⟩ = some (.int .u64 (t.b : Int)) ∧
      b.cell? ⟨g'', 0, none⟩ = some (.int .u64 (u.e : Int)) ∧ b.cell? ⟨g'', 1, none⟩ = some (.int .u64 (u.a : Int)) ∧ b.cell? ⟨g'', 2, none⟩ = some (.int .u64 (u.b : Int)) := by
  obtain ⟨a0, a1, a2⟩ := own_cells h hb
  obtain ⟨b0, b1, b2⟩ := own_cells h' hb
  exact ⟨hb, a0, a1, a2, b0, b1, b2, own_cells h'' hb⟩
end Go.Proofs.Ytdbdjojgccbfcaa
