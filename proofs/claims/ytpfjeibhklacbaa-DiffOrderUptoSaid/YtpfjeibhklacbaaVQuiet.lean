/- Values that lie in old memory, through a region that calls. -/
import Derived.Test.YtpfjeibhklacbaaPast
import Derived.Test.YtpfjeibhklacbaaVals
namespace Go.Proofs.Ytpfjeibhklacbaa
open Go Go.RowKit
theorem past_vl {V : World} {b o : Nat} {v : Vl} (h : VlAt V b o v) (hb : b < V.heap.size) :
    (∀ p : Past V, p.w.cell? ⟨b, o, none⟩ = some (.bool v.t)) ∧ (∀ p : Past V, p.w.cell? ⟨b, o + 1, none⟩ = some (.int .i64 v.n)) ∧ (∀ p : Past V, p.w.cell? ⟨b, o + 2, none⟩ = some (.string v.s)) :=
  ⟨fun p => (h.past p.h hb).1, fun p => (h.past p.h hb).2.1, fun p => (h.past p.h hb).2.2⟩
theorem past_vals {V : World} {A : Option Addr} {l : List Vl} (h : Vals V V.heap.size A l) (p : Past V) : Vals p.w p.w.heap.size A l := vals_keep h p.h
end Go.Proofs.Ytpfjeibhklacbaa
