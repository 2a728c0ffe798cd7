/- What an expression comes to hangs not on an earlier failure; the first failure stays. -/
import Derived.Test.YticcaogceoahdaaExp
namespace Go.Proofs.Yticcaogceoahdaa
open Go Go.RowKit

theorem fl_assoc (u x y : Int) : fl (fl u x) y = fl u (fl x y) := by unfold fl; split <;> simp_all
theorem fl_zero (u : Int) : fl u 0 = u := by unfold fl; split <;> simp_all
theorem zero_fl (u : Int) : fl 0 u = u := by unfold fl; simp
theorem fl_is0 (u x : Int) : fl u x = 0 ↔ u = 0 ∧ x = 0 := by unfold fl; split <;> simp_all
def Splits (f : Lx → Int → Vl × Int) : Prop := ∀ k u, f k u = ((f k 0).1, fl u (f k 0).2)
section
variable {f : Lx → Int → Vl × Int}
theorem nm_split (hf : Splits f) (k : Lx) (u : Int) : nm f k u = ((nm f k 0).1, fl u (nm f k 0).2) := by
  unfold nm
  rw [hf k u]
  dsimp only
  cases (f k 0).1.t
  · simp
  · simp [fl_assoc]
theorem cp_eq (hf : Splits f) (e : Lx) (u : Int) : cp f e u = ((f (kid e 0) 0).1.cmp (f (kid e 1) 0).1, if (f (kid e 0) 0).1.t != (f (kid e 1) 0).1.t then fl (fl (fl u (f (kid e 0) 0).2) (f (kid e 1) 0).2) 11 else fl (fl u (f (kid e 0) 0).2) (f (kid e 1) 0).2) := by
  have h1 := hf (kid e 0) u
  have h2 := hf (kid e 1) (fl u (f (kid e 0) 0).2)
  unfold cp
  dsimp only
  rw [h1]
  dsimp only
  rw [h2]
theorem cp_split (hf : Splits f) (e : Lx) (u : Int) : cp f e u = ((cp f e 0).1, fl u (cp f e 0).2) := by
  rw [cp_eq hf e u, cp_eq hf e 0]
  dsimp only
  split <;> simp only [fl_assoc, zero_fl]
theorem nm2 (hf : Splits f) (e : Lx) (u : Int) : nm f (kid e 1) (nm f (kid e 0) u).2 = ((nm f (kid e 1) 0).1, fl u (fl (nm f (kid e 0) 0).2 (nm f (kid e 1) 0).2)) := by
  rw [nm_split hf (kid e 0) u]
  dsimp only
  rw [nm_split hf (kid e 1) (fl u _), fl_assoc]
theorem hd_split (hf : Splits f) (e : Lx) (u : Int) : hd f e u = ((hd f e 0).1, fl u (hd f e 0).2) := by
  have h1 := cp_split hf e u
  have h2 := nm_split hf (kid e 0) u
  have h3 := nm2 hf e u
  have h4 := nm2 hf e 0
  unfold hd
  rw [h3, h4, h1, h2]
  simp only [zero_fl]
  split
  · rfl
  · split
    · rfl
    · split
      · split <;> rfl
      · split
        · split <;> rfl
        · rfl
theorem rk_split (hf : Splits f) (e : Lx) (u : Int) : rk f e u = ((rk f e 0).1, fl u (rk f e 0).2) := by
  have h2 := nm_split hf (kid e 0) u
  have h3 := nm2 hf e u
  have h4 := nm2 hf e 0
  unfold rk
  dsimp only
  rw [h3, h4, h2]
  simp only [zero_fl]
  split <;> rfl
end
theorem ev_split (row : List Vl) : ∀ n, Splits (ev row n)
  | 0 => fun k u => by show (Vl.zero, u) = (Vl.zero, fl u 0); rw [fl_zero]
  | n + 1 => fun e u => by
    have ih := ev_split row n
    have h1 := nm_split ih (kid e 0) u
    have h2 := hd_split ih e u
    have h3 := rk_split ih e u
    have h4 := ih (kid e 1) (fl u (nm (ev row n) (kid e 0) 0).2)
    have h5 := ih (kid e 2) (fl u (nm (ev row n) (kid e 0) 0).2)
    have h6 := ih (kid e 1) (nm (ev row n) (kid e 0) 0).2
    have h7 := ih (kid e 2) (nm (ev row n) (kid e 0) 0).2
    unfold ev
    rw [h1, h2, h3]
    dsimp only
    rw [h4, h5, h6, h7]
    split
    · split
      · rw [fl_zero]
      · rw [zero_fl]
    · split
      · rw [fl_zero]
      · split
        · split <;> simp only [fl_assoc]
        · split
          · rfl
          · simp only [fl_assoc]
end Go.Proofs.Yticcaogceoahdaa
