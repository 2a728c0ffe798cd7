/- A slice of times that reads as a list of them. -/
import Derived.Test.YtpfjeibhklacbaaProg
import Derived.Test.YtpfjeibhklacbaaTm
import Derived.Test.YtpfjeibhklacbaaMem
namespace Go.Proofs.Ytpfjeibhklacbaa
open Go Go.RowKit

/-- a time's three cells lie at b, o -/
def TmAt (w : World) (b o : Nat) (t : Tm) : Prop :=
  w.cell? ⟨b, o, none⟩ = some (.int .u64 (t.e : Int)) ∧ w.cell? ⟨b, o + 1, none⟩ = some (.int .u64 (t.a : Int)) ∧ w.cell? ⟨b, o + 2, none⟩ = some (.int .u64 (t.b : Int))
/-- a slice at A of as many elements as l has reads as l; it lies below block B -/
def Times (w : World) (B : Nat) (A : Option Addr) (l : List Tm) : Prop :=
  0 < l.length → ∃ b o, A = some ⟨b, o, none⟩ ∧ b < B ∧ ∀ (i : Nat) (t : Tm), l[i]? = some t → TmAt w b (o + i * 3) t
section
variable {w w' : World} {B B' b o : Nat} {A : Option Addr} {l : List Tm} {t : Tm}
theorem TmAt.past (h : TmAt w b o t) (hb : Below B w w') (hB : b < B) : TmAt w' b o t :=
  ⟨(hb.cell (p := ⟨b, o, none⟩) hB).trans h.1, (hb.cell (p := ⟨b, o + 1, none⟩) hB).trans h.2.1, (hb.cell (p := ⟨b, o + 2, none⟩) hB).trans h.2.2⟩
theorem Times.past (h : Times w B A l) (hb : Below B' w w') (hB : B ≤ B') : Times w' B A l := fun hn => by
  obtain ⟨b, o, e, hlt, hc⟩ := h hn
  exact ⟨b, o, e, hlt, fun i t hi => (hc i t hi).past hb (by omega)⟩
theorem Times.wide (h : Times w B A l) (hB : B ≤ B') : Times w B' A l := fun hn => by
  obtain ⟨b, o, e, hlt, hc⟩ := h hn
  exact ⟨b, o, e, by omega, hc⟩
theorem Times.nil_ : Times w B A [] := fun h => absurd h (by simp)
end
end Go.Proofs.Ytpfjeibhklacbaa
