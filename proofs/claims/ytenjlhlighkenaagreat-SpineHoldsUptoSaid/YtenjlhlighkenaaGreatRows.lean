/-
  No cell of these rows narrows 'for every input' (looked for: loops, veiled, ifaces, maps, wideKeys, modest, calm, conditions, laid).
  DERIVED. THE GIVEN ROWS OF THIS SEAT. 3 by the template 'for every input the law returns true; each argument reads behind the call as it read before'; 0 by the template 'total and deterministic' (their statements: YtenjlhlighkenaaGreatTotals.lean).
  GIVEN WITH THE SEED: the statements are not yours to turn. If you find one false, say at which input.
  Laid BY PROGRAM, IN A SANDBOX (cutbox-rows.mjs): the forced cells as the released guide's own fill.sh prints them over the translation b4e80ca0c9afaf6c… (all of the seat's roots in one cut). By AI agents, Wed Nov 11 2026. No macro, syntax, notation, axiom, sorry.
-/
import Derived.Test.YtenjlhlighkenaaGreatChecked
import GoSem.Claim
import GoSem.ClaimJoined
import GoSem.ClaimMapViews
import Derived.JoinedTies
import Derived.KernelRfl
namespace Go.Proofs.YtenjlhlighkenaaGreat
/- THE CELL 'sum', in the pinned program and in every row, IS THE sha256 OF THE DUMP (.gsa) THAT YtenjlhlighkenaaGreatProg.lean LOADS. Nothing in Lean hashes anything: it is a label: what it is worth is what the hold of that sum in a sandbox is worth. -/
noncomputable def Tryz.pinned : Pinned := { name := "ytenjlhlighkenaagreat", sum := "b4e80ca0c9afaf6cb6876a75edc69edd5e8c962e5289ecbb4183233d8b322d17", checked := Tryz.checked }
namespace Rows
def none {H : Type} : Left H := { results := [], args := [] }

/-- 'freshetlaw07.SpineHolds': WHATEVER THE INPUT: true; the input reads as it did. -/
def spineHoldsSpec : ChangeSpec := { name := "spineHolds", fn := fun _ => fun
  | [d1, d2] => { results := [.lit (.bool true)], args := [d1, d2] }
  | _ => none }
def spineHoldsRow : OpenClaim := { program := "ytenjlhlighkenaagreat", sum := "b4e80ca0c9afaf6cb6876a75edc69edd5e8c962e5289ecbb4183233d8b322d17", func := "freshet/freshetlaw07.SpineHolds", spec := "spineHolds", inPlace := ["internal/bytealg.abigen_runtime_cmpstring", "math/bits.Add64", "slices.overlaps[freshet/api.Level]"], unfollowed := true, recurses := true, apart := false }
def SpineHoldsSaid : Prop := spineHoldsRow.holds Tryz.pinned (OpenSpec.ofChange spineHoldsSpec)

/-- ITS FALSE NEIGHBOUR: 'it returns false'. Refute it at one input. -/
def spineHoldsWrong : ChangeSpec := { name := "spineHolds", fn := fun _ => fun
  | [d1, d2] => { results := [.lit (.bool false)], args := [d1, d2] }
  | _ => none }
def SpineHoldsWrongFalsely : Prop := spineHoldsRow.holds Tryz.pinned (OpenSpec.ofChange spineHoldsWrong)

/-- 'freshetlaw07.SpineGroups': WHATEVER THE INPUT: true; the input reads as it did. -/
def spineGroupsSpec : ChangeSpec := { name := "spineGroups", fn := fun _ => fun
  | [d1, d2] => { results := [.lit (.bool true)], args := [d1, d2] }
  | _ => none }
def spineGroupsRow : OpenClaim := { program := "ytenjlhlighkenaagreat", sum := "b4e80ca0c9afaf6cb6876a75edc69edd5e8c962e5289ecbb4183233d8b322d17", func := "freshet/freshetlaw07.SpineGroups", spec := "spineGroups", inPlace := ["internal/bytealg.abigen_runtime_cmpstring", "math/bits.Add64", "slices.overlaps[freshet/api.Level]"], unfollowed := true, recurses := true, apart := false }
def SpineGroupsSaid : Prop := spineGroupsRow.holds Tryz.pinned (OpenSpec.ofChange spineGroupsSpec)

/-- ITS FALSE NEIGHBOUR: 'it returns false'. Refute it at one input. -/
def spineGroupsWrong : ChangeSpec := { name := "spineGroups", fn := fun _ => fun
  | [d1, d2] => { results := [.lit (.bool false)], args := [d1, d2] }
  | _ => none }
def SpineGroupsWrongFalsely : Prop := spineGroupsRow.holds Tryz.pinned (OpenSpec.ofChange spineGroupsWrong)

/-- 'freshetlaw07.SpineEnds': WHATEVER THE INPUT: true; the input reads as it did. -/
def spineEndsSpec : ChangeSpec := { name := "spineEnds", fn := fun _ => fun
  | [d] => { results := [.lit (.bool true)], args := [d] }
  | _ => none }
def spineEndsRow : OpenClaim := { program := "ytenjlhlighkenaagreat", sum := "b4e80ca0c9afaf6cb6876a75edc69edd5e8c962e5289ecbb4183233d8b322d17", func := "freshet/freshetlaw07.SpineEnds", spec := "spineEnds", inPlace := ["internal/bytealg.abigen_runtime_cmpstring", "math/bits.Add64", "slices.overlaps[freshet/api.Level]"], unfollowed := true, recurses := true, apart := false }
def SpineEndsSaid : Prop := spineEndsRow.holds Tryz.pinned (OpenSpec.ofChange spineEndsSpec)

/-- ITS FALSE NEIGHBOUR: 'it returns false'. Refute it at one input. -/
def spineEndsWrong : ChangeSpec := { name := "spineEnds", fn := fun _ => fun
  | [d] => { results := [.lit (.bool false)], args := [d] }
  | _ => none }
def SpineEndsWrongFalsely : Prop := spineEndsRow.holds Tryz.pinned (OpenSpec.ofChange spineEndsWrong)

/- THE SECOND FORM. 'bulk': how many values and letters a reading holds, each counted each time it is reached (what is shared counts as often as it is met; a slice's spare places count too). A statement '..UptoSaid' is the law's where the arguments, and the package variables that the reading takes, are together of bulk at most 1048576: NARROWER than '..Said'. Prove '..Said' where nothing that the law and all that it calls make is longer than what came in: it says more and counts as full. Else prove '..UptoSaid'. A law counts once. -/
mutual
def uptoBulk {H : Type} : DataW H → Nat
  | .lit (.string bytes) => bytes.length + 1
  | .lit _ => 1
  | .nil => 1
  | .ptr d => uptoBulk d + 1
  | .slice elems spare => uptoBulkAll elems + uptoBulkAll spare + 1
  | .agg parts => uptoBulkAll parts + 1
  | .iface _ d => uptoBulk d + 1
  | .map entries => uptoBulkEntries entries + 1
  | .held _ => 1
def uptoBulkAll {H : Type} : List (DataW H) → Nat
  | [] => 0
  | d :: r => uptoBulk d + uptoBulkAll r
def uptoBulkEntries {H : Type} : List (Lit × DataW H) → Nat
  | [] => 0
  | x :: r => uptoBulkEntry x + uptoBulkEntries r
def uptoBulkEntry {H : Type} : Lit × DataW H → Nat
  | (.string bytes, d) => bytes.length + uptoBulk d + 1
  | (_, d) => uptoBulk d + 1
 end
def uptoSmall : (H : Type) → List (DataW H) → Bool := fun _ ds => decide (uptoBulkAll ds ≤ 1048576)
def OpenSpec.upto (s : _root_.Go.ChangeSpec) : _root_.Go.OpenSpec := { _root_.Go.OpenSpec.ofChange s with cond := some uptoSmall }

/-- 'freshetlaw07.SpineHolds', WHERE WHAT IT READS IS OF BULK AT MOST 1048576: true; the input reads as it did. -/
def spineHoldsUptoRow : OpenClaim := { program := "ytenjlhlighkenaagreat", sum := "b4e80ca0c9afaf6cb6876a75edc69edd5e8c962e5289ecbb4183233d8b322d17", func := "freshet/freshetlaw07.SpineHolds", spec := "spineHolds", inPlace := ["internal/bytealg.abigen_runtime_cmpstring", "math/bits.Add64", "slices.overlaps[freshet/api.Level]"], unfollowed := true, recurses := true, apart := false, narrowed := true }
def SpineHoldsUptoSaid : Prop := spineHoldsUptoRow.holds Tryz.pinned (OpenSpec.upto spineHoldsSpec)

/-- 'freshetlaw07.SpineGroups', WHERE WHAT IT READS IS OF BULK AT MOST 1048576: true; the input reads as it did. -/
def spineGroupsUptoRow : OpenClaim := { program := "ytenjlhlighkenaagreat", sum := "b4e80ca0c9afaf6cb6876a75edc69edd5e8c962e5289ecbb4183233d8b322d17", func := "freshet/freshetlaw07.SpineGroups", spec := "spineGroups", inPlace := ["internal/bytealg.abigen_runtime_cmpstring", "math/bits.Add64", "slices.overlaps[freshet/api.Level]"], unfollowed := true, recurses := true, apart := false, narrowed := true }
def SpineGroupsUptoSaid : Prop := spineGroupsUptoRow.holds Tryz.pinned (OpenSpec.upto spineGroupsSpec)

/-- 'freshetlaw07.SpineEnds', WHERE WHAT IT READS IS OF BULK AT MOST 1048576: true; the input reads as it did. -/
def spineEndsUptoRow : OpenClaim := { program := "ytenjlhlighkenaagreat", sum := "b4e80ca0c9afaf6cb6876a75edc69edd5e8c962e5289ecbb4183233d8b322d17", func := "freshet/freshetlaw07.SpineEnds", spec := "spineEnds", inPlace := ["internal/bytealg.abigen_runtime_cmpstring", "math/bits.Add64", "slices.overlaps[freshet/api.Level]"], unfollowed := true, recurses := true, apart := false, narrowed := true }
def SpineEndsUptoSaid : Prop := spineEndsUptoRow.holds Tryz.pinned (OpenSpec.upto spineEndsSpec)

end Rows
end Go.Proofs.YtenjlhlighkenaaGreat
