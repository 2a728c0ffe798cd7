/- A slice of one-cell numbers that reads as a list. -/
import Derived.Test.YtjidjpmdmcleoaaMem
namespace Go.Proofs.Ytjidjpmdmcleoaa
open Go Go.RowKit

/-- a slice at A of as many numbers as l has reads as l; it lies below block B -/
def Ints (w : World) (B : Nat) (A : Option Addr) (l : List Int) : Prop :=
  0 < l.length → ∃ b o, A = some ⟨b, o, none⟩ ∧ b < B ∧ ∀ (i : Nat) (n : Int), l[i]? = some n → w.cell? ⟨b, o + i, none⟩ = some (.int .i64 n)
section
variable {w w' : World} {B B' b o : Nat} {A : Option Addr} {l : List Int}
theorem Ints.past (h : Ints w B A l) (hb : Below B' w w') (hB : B ≤ B') : Ints w' B A l := fun hn => by
  obtain ⟨b, o, e, hlt, hc⟩ := h hn
  exact ⟨b, o, e, hlt, fun i n hi => (hb.cell (p := ⟨b, o + i, none⟩) (show b < B' by omega)).trans (hc i n hi)⟩
theorem Ints.wide (h : Ints w B A l) (hB : B ≤ B') : Ints w B' A l := fun hn => by
  obtain ⟨b, o, e, hlt, hc⟩ := h hn
  exact ⟨b, o, e, by omega, hc⟩
theorem Ints.nil_ : Ints w B A [] := fun h => absurd h (by simp)
end
theorem ints_keep {a b : World} {A : Option Addr} {l : List Int} (h : Ints a a.heap.size A l) (hb : Below a.heap.size a b) : Ints b b.heap.size A l := (h.past hb (Nat.le_refl _)).wide hb.size
/-- all of them fit a word -/
def Fit64 (l : List Int) : Prop := ∀ n ∈ l, -9223372036854775808 ≤ n ∧ n ≤ 9223372036854775807
end Go.Proofs.Ytjidjpmdmcleoaa
