/- A slice of values that reads as a row. -/
import Derived.Test.YtpfjeibhklacbaaProg
import Derived.Test.YtpfjeibhklacbaaVl
import Derived.Test.YtpfjeibhklacbaaMem
namespace Go.Proofs.Ytpfjeibhklacbaa
open Go Go.RowKit

/-- a value's three cells lie at b, o -/
def VlAt (w : World) (b o : Nat) (v : Vl) : Prop :=
  w.cell? ⟨b, o, none⟩ = some (.bool v.t) ∧ w.cell? ⟨b, o + 1, none⟩ = some (.int .i64 v.n) ∧ w.cell? ⟨b, o + 2, none⟩ = some (.string v.s)
/-- a slice at A of as many elements as l has reads as l; it lies below block B -/
def Vals (w : World) (B : Nat) (A : Option Addr) (l : List Vl) : Prop :=
  0 < l.length → ∃ b o, A = some ⟨b, o, none⟩ ∧ b < B ∧ ∀ (i : Nat) (v : Vl), l[i]? = some v → VlAt w b (o + i * 3) v
/-- what a value that came in has -/
def VOk (x : Vl) : Prop := x.s.size ≤ maxLen ∧ -9223372036854775808 ≤ x.n ∧ x.n ≤ 9223372036854775807
section
variable {w w' : World} {B B' b o : Nat} {A : Option Addr} {l : List Vl} {v : Vl}
theorem VlAt.past (h : VlAt w b o v) (hb : Below B w w') (hB : b < B) : VlAt w' b o v :=
  ⟨(hb.cell (p := ⟨b, o, none⟩) hB).trans h.1, (hb.cell (p := ⟨b, o + 1, none⟩) hB).trans h.2.1, (hb.cell (p := ⟨b, o + 2, none⟩) hB).trans h.2.2⟩
theorem Vals.past (h : Vals w B A l) (hb : Below B' w w') (hB : B ≤ B') : Vals w' B A l := fun hn => by
  obtain ⟨b, o, e, hlt, hc⟩ := h hn
  exact ⟨b, o, e, hlt, fun i v hi => (hc i v hi).past hb (by omega)⟩
theorem Vals.wide (h : Vals w B A l) (hB : B ≤ B') : Vals w B' A l := fun hn => by
  obtain ⟨b, o, e, hlt, hc⟩ := h hn
  exact ⟨b, o, e, by omega, hc⟩
theorem Vals.nil_ : Vals w B A [] := fun h => absurd h (by simp)
end
theorem vals_keep {a b : World} {A : Option Addr} {l : List Vl} (h : Vals a a.heap.size A l) (hb : Below a.heap.size a b) : Vals b b.heap.size A l := (h.past hb (Nat.le_refl _)).wide hb.size
end Go.Proofs.Ytpfjeibhklacbaa
