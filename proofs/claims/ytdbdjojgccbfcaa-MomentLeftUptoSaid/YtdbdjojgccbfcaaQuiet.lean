/- A region that only reads what is old and calls what turns nothing old: one walk, in the order of the text, serves every order. -/
import Derived.Test.YtdbdjojgccbfcaaKeep
import Derived.Test.YtdbdjojgccbfcaaPast
import Derived.Deep.QuietTactic
import Derived.BigQuiet
namespace Go.Proofs.Ytdbdjojgccbfcaa
open Go Go.RowKit

/-- the same of a contract that hides its results' world -/
theorem past_cells {V : World} {g : Nat} {t : Tm} (h : Own V g 26 t.cells) :
    (∀ p : Past V, p.w.cell? ⟨g, 0, none⟩ = some (.int .u64 (t.e : Int))) ∧ (∀ p : Past V, p.w.cell? ⟨g, 1, none⟩ = some (.int .u64 (t.a : Int))) ∧ (∀ p : Past V, p.w.cell? ⟨g, 2, none⟩ = some (.int .u64 (t.b : Int))) :=
  ⟨fun p => (own_cells h p.h).1, fun p => (own_cells h p.h).2.1, fun p => (own_cells h p.h).2.2⟩
theorem past_times {V : World} {A : Option Addr} {l : List Tm} (h : Times V V.heap.size A l) (p : Past V) : Times p.w p.w.heap.size A l := times_keep h p.h
end Go.Proofs.Ytdbdjojgccbfcaa
