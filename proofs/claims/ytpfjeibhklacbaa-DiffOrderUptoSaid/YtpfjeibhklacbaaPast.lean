/- A region that only reads what is old and calls what turns nothing old: one walk, in the order of the text, serves every order. -/
import Derived.Test.YtpfjeibhklacbaaMem
import Derived.WalkKit
import Derived.Deep.QuietTactic
import Derived.BigQuiet
namespace Go.Proofs.Ytpfjeibhklacbaa
open Go Go.RowKit

/-- a world in which nothing of V has turned -/
structure Past (V : World) where
  w : World
  h : Below V.heap.size V w
instance (V : World) : Nonempty (Past V) := ⟨⟨V, Below.refl _ _⟩⟩
instance (V : World) : Inhabited (Past V) := ⟨⟨V, Below.refl _ _⟩⟩
theorem wp_region_past {P : Program} {id : Nat} {Q : Exit → Act → World → Prop} {a : Act} {w : World} {l : List Oper} (V : World) (hm : P.follows .mixedOrders = true) (hB : Region.lexB .any l.toArray = true) (hV : Below V.heap.size V w)
    (h : wpQuiet P l.toArray (fun w' => ∃ p : Past V, w' = p.w) (fun a' => ∀ w', (∃ p : Past V, w' = p.w) → Q .normal a' w') l a) : (Code.region id l.toArray true).wp P Q a w :=
  wp_region_quiet (C := fun w' => ∃ p : Past V, w' = p.w) hm hB ⟨⟨_, hV.drew⟩, rfl⟩ (by simpa using h)
theorem calls_past {P : Program} {V : World} {f : FuncId} {args : Array Value} {p : Past V} {v : Value}
    (h : Calls P f args p.w fun e w' => e = .returned v ∧ Below p.w.heap.size p.w w') : Calls P f args p.w fun e w'' => e = .returned v ∧ ∃ q : Past V, w'' = q.w :=
  h.mono fun _ w' ⟨he, hb⟩ => ⟨he, ⟨w', belows p.h hb⟩, rfl⟩
end Go.Proofs.Ytpfjeibhklacbaa
