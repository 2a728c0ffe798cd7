/- Boxed values, kept through a region that calls. -/
import Derived.Test.YthcoobennehkfaaVQuiet
namespace Go.Proofs.Ythcoobennehkfaa
open Go Go.RowKit

theorem vbox1 (w : World) (x : Vl) : ∃ W, W = w.alloc (.cells #[.bool x.t, .int .i64 x.n, .string x.s] 23) ∧ Below w.heap.size w W ∧ W.heap.size = w.heap.size + 1 ∧ Own W w.heap.size 23 x.cells :=
  ⟨_, rfl, (Below.refl _ _).alloc (Nat.le_refl _) _, by simp, by have := Own.made w 23 x.cells; simpa [Vl.cells] using this⟩
theorem vbox2 (w : World) (x y : Vl) : ∃ W, W = (w.alloc (.cells #[.bool x.t, .int .i64 x.n, .string x.s] 23)).alloc (.cells #[.bool y.t, .int .i64 y.n, .string y.s] 23) ∧ Below w.heap.size w W ∧ W.heap.size = w.heap.size + 2 ∧
    VlAt W w.heap.size 0 x ∧ VlAt W (w.heap.size + 1) 0 y := by
  obtain ⟨W, hW, fb, h1, f0⟩ := vbox1 w x
  rw [← hW]
  obtain ⟨V, hV, gb, h2, g0⟩ := vbox1 W y
  rw [← hV]
  rw [h1] at g0
  have k0 := f0.past gb f0.inside
  exact ⟨V, rfl, fb.trans (gb.mono (by omega)), by omega, ⟨k0.at_ 0, k0.at_ 1, k0.at_ 2⟩, ⟨g0.at_ 0, g0.at_ 1, g0.at_ 2⟩⟩
end Go.Proofs.Ythcoobennehkfaa
