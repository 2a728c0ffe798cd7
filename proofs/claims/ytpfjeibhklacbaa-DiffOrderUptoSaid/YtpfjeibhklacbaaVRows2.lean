/- A slice of rows that reads as a list of lists of values. -/
import Derived.Test.YtpfjeibhklacbaaAppendVl
namespace Go.Proofs.Ytpfjeibhklacbaa
open Go Go.RowKit

/-- a slice at A of as many rows as L has reads as L; all of it lies below block B; each row takes fewer than 2^47 bytes -/
def RowsAt (w : World) (B : Nat) (A : Option Addr) (L : List (List Vl)) : Prop :=
  0 < L.length → ∃ b o, A = some ⟨b, o, none⟩ ∧ b < B ∧ ∀ (i : Nat) (l : List Vl), L[i]? = some l → ∃ A' c', w.cell? ⟨b, o + i, none⟩ = some (.slice A' l.length c') ∧ Vals w B A' l
section
variable {w w' : World} {B B' : Nat} {A : Option Addr} {L : List (List Vl)}
theorem RowsAt.past (h : RowsAt w B A L) (hb : Below B' w w') (hB : B ≤ B') : RowsAt w' B A L := fun hn => by
  obtain ⟨b, o, e, hlt, hc⟩ := h hn
  refine ⟨b, o, e, hlt, fun i l hi => ?_⟩
  obtain ⟨A', c', h1, h2⟩ := hc i l hi
  exact ⟨A', c', (hb.cell (p := ⟨b, o + i, none⟩) (show b < B' by omega)).trans h1, h2.past hb hB⟩
theorem RowsAt.wide (h : RowsAt w B A L) (hB : B ≤ B') : RowsAt w B' A L := fun hn => by
  obtain ⟨b, o, e, hlt, hc⟩ := h hn
  refine ⟨b, o, e, by omega, fun i l hi => ?_⟩
  obtain ⟨A', c', h1, h2⟩ := hc i l hi
  exact ⟨A', c', h1, h2.wide hB⟩
end
theorem rowsAt_keep {a b : World} {A : Option Addr} {L : List (List Vl)} (h : RowsAt a a.heap.size A L) (hb : Below a.heap.size a b) : RowsAt b b.heap.size A L := (h.past hb (Nat.le_refl _)).wide hb.size
/-- the lengths, added up -/
def lens (L : List (List Vl)) : Nat := (L.map List.length).sum
theorem lens_flat (L : List (List Vl)) : L.flatten.length = lens L := by simp [lens, List.length_flatten]
theorem lens_snoc {L : List (List Vl)} {k : Nat} {l : List Vl} (h : L[k]? = some l) : lens (L.take (k + 1)) = lens (L.take k) + l.length := by
  rw [List.take_add_one, h]; simp [lens]
theorem flat_snoc {L : List (List Vl)} {k : Nat} {l : List Vl} (h : L[k]? = some l) : (L.take (k + 1)).flatten = (L.take k).flatten ++ l := by
  rw [List.take_add_one, h]; simp
theorem lens_take : ∀ (L : List (List Vl)) (k : Nat), lens (L.take k) ≤ lens L
  | [], k => by simp [lens]
  | l :: L, 0 => by simp [lens]
  | l :: L, k + 1 => by
    have := lens_take L k
    unfold lens at *
    simp only [List.take_succ_cons, List.map_cons, List.sum_cons]
    omega
end Go.Proofs.Ytpfjeibhklacbaa
