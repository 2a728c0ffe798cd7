/- Plain facts on frontiers: sorted, and what is ahead of none. -/
import Derived.Test.YtdbdjojgccbfcaaTm
import Derived.Shelf.SlSortCmp.NoneTotal
namespace Go.Proofs.Ytdbdjojgccbfcaa
open Go Go.RowKit Go.Sort Go.Lib

theorem ltT (x y : Tm) : ltOf Tm.cmp x y = decide (x.e < y.e ∨ x.e = y.e ∧ (x.a < y.a ∨ x.a = y.a ∧ x.b < y.b)) := by
  unfold ltOf Tm.cmp Tm.cmpN
  rw [decide_eq_decide]
  repeat' split
  all_goals omega
theorem swoT : SWO (ltOf Tm.cmp) where
  irrefl x := by rw [ltT]; simp
  trans x y z h1 h2 := by rw [ltT] at *; simp at *; omega
  ntrans x y z h1 h2 := by rw [ltT] at *; simp at *; omega
theorem totT (x y : Tm) (h1 : ltOf Tm.cmp x y = false) (h2 : ltOf Tm.cmp y x = false) : x = y := by
  rw [ltT] at *
  simp at *
  obtain ⟨a, b, c⟩ := x
  obtain ⟨d, e, f⟩ := y
  simp at *
  omega
/-- sorted in the line of times -/
def sortT (l : List Tm) : List Tm := l.mergeSort fun x y => !(ltOf Tm.cmp) y x
theorem sortT_len (l : List Tm) : (sortT l).length = l.length := List.length_mergeSort _
theorem mem_sortT {l : List Tm} {t : Tm} : t ∈ sortT l ↔ t ∈ l := List.mem_mergeSort
theorem sortT_sorted (l : List Tm) : (sortT l).Pairwise fun x y => ltOf Tm.cmp y x = false := by
  have h := List.pairwise_mergeSort (le := fun x y => !(ltOf Tm.cmp) y x) (fun a b c h1 h2 => by
    simp only [Bool.not_eq_true'] at *; exact swoT.ntrans _ _ _ h2 h1) (fun a b => by
    simp only [Bool.or_eq_true, Bool.not_eq_true', ltT]; simp; omega) l
  exact h.imp fun h => by simpa using h
end Go.Proofs.Ytdbdjojgccbfcaa
