/-
  No cell of these rows narrows 'for every input' (looked for: loops, veiled, ifaces, maps, wideKeys, modest, calm, conditions, laid).
  DERIVED. THE GIVEN ROWS OF THIS SEAT. 2 by the template 'for every input the law returns true; each argument reads behind the call as it read before'; 0 by the template 'total and deterministic' (their statements: YtdbdjojgccbfcaaTotals.lean).
  GIVEN WITH THE SEED: the statements are not yours to turn. If you find one false, say at which input.
  Laid BY PROGRAM, IN A SANDBOX (cutbox-rows.mjs): the forced cells as the released guide's own fill.sh prints them over the translation e350100cf6bacacf… (all of the seat's roots in one cut). By AI agents, Wed Nov 11 2026. No macro, syntax, notation, axiom, sorry.
-/
import Derived.Test.YtdbdjojgccbfcaaChecked
import GoSem.Claim
import GoSem.ClaimJoined
import GoSem.ClaimMapViews
import Derived.JoinedTies
import Derived.KernelRfl
namespace Go.Proofs.Ytdbdjojgccbfcaa
/- THE CELL 'sum', in the pinned program and in every row, IS THE sha256 OF THE DUMP (.gsa) THAT YtdbdjojgccbfcaaProg.lean LOADS. Nothing in Lean hashes anything: it is a label: what it is worth is what the hold of that sum in a sandbox is worth. -/
noncomputable def Try.pinned : Pinned := { name := "ytdbdjojgccbfcaa", sum := "e350100cf6bacacf86005917a900cc203b8493e4f81b8bfa226ac407a8bf4cd5", checked := Try.checked }
namespace Rows
def none {H : Type} : Left H := { results := [], args := [] }

/-- 'freshetlaw04.MomentFronts': WHATEVER THE INPUT: true; the input reads as it did. -/
def momentFrontsSpec : ChangeSpec := { name := "momentFronts", fn := fun _ => fun
  | [d1, d2] => { results := [.lit (.bool true)], args := [d1, d2] }
  | _ => none }
def momentFrontsRow : OpenClaim := { program := "ytdbdjojgccbfcaa", sum := "e350100cf6bacacf86005917a900cc203b8493e4f81b8bfa226ac407a8bf4cd5", func := "freshet/freshetlaw04.MomentFronts", spec := "momentFronts", unfollowed := true, recurses := true, apart := false }
def MomentFrontsSaid : Prop := momentFrontsRow.holds Try.pinned (OpenSpec.ofChange momentFrontsSpec)

/-- ITS FALSE NEIGHBOUR: 'it returns false'. Refute it at one input. -/
def momentFrontsWrong : ChangeSpec := { name := "momentFronts", fn := fun _ => fun
  | [d1, d2] => { results := [.lit (.bool false)], args := [d1, d2] }
  | _ => none }
def MomentFrontsWrongFalsely : Prop := momentFrontsRow.holds Try.pinned (OpenSpec.ofChange momentFrontsWrong)

/-- 'freshetlaw04.MomentLeft': WHATEVER THE INPUT: true; the input reads as it did. -/
def momentLeftSpec : ChangeSpec := { name := "momentLeft", fn := fun _ => fun
  | [d1, d2, d3] => { results := [.lit (.bool true)], args := [d1, d2, d3] }
  | _ => none }
def momentLeftRow : OpenClaim := { program := "ytdbdjojgccbfcaa", sum := "e350100cf6bacacf86005917a900cc203b8493e4f81b8bfa226ac407a8bf4cd5", func := "freshet/freshetlaw04.MomentLeft", spec := "momentLeft", unfollowed := true, recurses := true, apart := false }
def MomentLeftSaid : Prop := momentLeftRow.holds Try.pinned (OpenSpec.ofChange momentLeftSpec)

/-- ITS FALSE NEIGHBOUR: 'it returns false'. Refute it at one input. -/
def momentLeftWrong : ChangeSpec := { name := "momentLeft", fn := fun _ => fun
  | [d1, d2, d3] => { results := [.lit (.bool false)], args := [d1, d2, d3] }
  | _ => none }
def MomentLeftWrongFalsely : Prop := momentLeftRow.holds Try.pinned (OpenSpec.ofChange momentLeftWrong)

/- THE SECOND FORM. 'bulk': how many values and letters a reading holds, each counted each time it is reached (what is shared counts as often as it is met; a slice's spare places count too). A statement '..UptoSaid' is the law's where the arguments, and the package variables that the reading takes, are together of bulk at most 1048576: NARROWER than '..Said'. Prove '..Said' where nothing that the law and all that it calls make is longer than what came in: it says more and counts as full. Else prove '..UptoSaid'. A law counts once. -/
mutual
def uptoBulk {H : Type} : DataW H → Nat
  | .lit (.string bytes) => bytes.length + 1
  | .lit _ => 1
  | .nil => 1
  | .ptr d => uptoBulk d + 1
  | .slice elems spare => uptoBulkAll elems + uptoBulkAll spare + 1
  | .agg parts => uptoBulkAll parts + 1
  | .iface _ d => uptoBulk d + 1
  | .map entries => uptoBulkEntries entries + 1
  | .held _ => 1
def uptoBulkAll {H : Type} : List (DataW H) → Nat
  | [] => 0
  | d :: r => uptoBulk d + uptoBulkAll r
def uptoBulkEntries {H : Type} : List (Lit × DataW H) → Nat
  | [] => 0
  | x :: r => uptoBulkEntry x + uptoBulkEntries r
def uptoBulkEntry {H : Type} : Lit × DataW H → Nat
  | (.string bytes, d) => bytes.length + uptoBulk d + 1
  | (_, d) => uptoBulk d + 1
 end
def uptoSmall : (H : Type) → List (DataW H) → Bool := fun _ ds => decide (uptoBulkAll ds ≤ 1048576)
def OpenSpec.upto (s : _root_.Go.ChangeSpec) : _root_.Go.OpenSpec := { _root_.Go.OpenSpec.ofChange s with cond := some uptoSmall }

/-- 'freshetlaw04.MomentFronts', WHERE WHAT IT READS IS OF BULK AT MOST 1048576: true; the input reads as it did. -/
def momentFrontsUptoRow : OpenClaim := { program := "ytdbdjojgccbfcaa", sum := "e350100cf6bacacf86005917a900cc203b8493e4f81b8bfa226ac407a8bf4cd5", func := "freshet/freshetlaw04.MomentFronts", spec := "momentFronts", unfollowed := true, recurses := true, apart := false, narrowed := true }
def MomentFrontsUptoSaid : Prop := momentFrontsUptoRow.holds Try.pinned (OpenSpec.upto momentFrontsSpec)

/-- 'freshetlaw04.MomentLeft', WHERE WHAT IT READS IS OF BULK AT MOST 1048576: true; the input reads as it did. -/
def momentLeftUptoRow : OpenClaim := { program := "ytdbdjojgccbfcaa", sum := "e350100cf6bacacf86005917a900cc203b8493e4f81b8bfa226ac407a8bf4cd5", func := "freshet/freshetlaw04.MomentLeft", spec := "momentLeft", unfollowed := true, recurses := true, apart := false, narrowed := true }
def MomentLeftUptoSaid : Prop := momentLeftUptoRow.holds Try.pinned (OpenSpec.upto momentLeftSpec)

end Rows
end Go.Proofs.Ytdbdjojgccbfcaa
