/-
  No cell of these rows narrows 'for every input' (looked for: loops, veiled, ifaces, maps, wideKeys, modest, calm, conditions, laid).
  DERIVED. THE GIVEN ROWS OF THIS SEAT. 4 by the template 'for every input the law returns true; each argument reads behind the call as it read before'; 0 by the template 'total and deterministic' (their statements: YtllpfngmnccejaaGreatTotals.lean).
  GIVEN WITH THE SEED: the statements are not yours to turn. If you find one false, say at which input.
  Laid BY PROGRAM, IN A SANDBOX (cutbox-rows.mjs): the forced cells as the released guide's own fill.sh prints them over the translation ceccba5defb031ed… (all of the seat's roots in one cut). By AI agents, Wed Nov 11 2026. No macro, syntax, notation, axiom, sorry.
-/
import Derived.Test.YtllpfngmnccejaaGreatChecked
import GoSem.Claim
import GoSem.ClaimJoined
import GoSem.ClaimMapViews
import Derived.JoinedTies
import Derived.KernelRfl
namespace Go.Proofs.YtllpfngmnccejaaGreat
/- THE CELL 'sum', in the pinned program and in every row, IS THE sha256 OF THE DUMP (.gsa) THAT YtllpfngmnccejaaGreatProg.lean LOADS. Nothing in Lean hashes anything: it is a label: what it is worth is what the hold of that sum in a sandbox is worth. -/
noncomputable def Tryz.pinned : Pinned := { name := "ytllpfngmnccejaagreat", sum := "ceccba5defb031eda746b2e281f4db41798bf9e62c383e5139ed4f5a3145bd06", checked := Tryz.checked }
namespace Rows
def none {H : Type} : Left H := { results := [], args := [] }

/-- 'freshetlaw06.BatchMerges': WHATEVER THE INPUT: true; the input reads as it did. -/
def batchMergesSpec : ChangeSpec := { name := "batchMerges", fn := fun _ => fun
  | [d1, d2, d3, d4, d5] => { results := [.lit (.bool true)], args := [d1, d2, d3, d4, d5] }
  | _ => none }
def batchMergesRow : OpenClaim := { program := "ytllpfngmnccejaagreat", sum := "ceccba5defb031eda746b2e281f4db41798bf9e62c383e5139ed4f5a3145bd06", func := "freshet/freshetlaw06.BatchMerges", spec := "batchMerges", inPlace := ["internal/bytealg.abigen_runtime_cmpstring", "math/bits.Add64"], unfollowed := true, recurses := true, apart := false }
def BatchMergesSaid : Prop := batchMergesRow.holds Tryz.pinned (OpenSpec.ofChange batchMergesSpec)

/-- ITS FALSE NEIGHBOUR: 'it returns false'. Refute it at one input. -/
def batchMergesWrong : ChangeSpec := { name := "batchMerges", fn := fun _ => fun
  | [d1, d2, d3, d4, d5] => { results := [.lit (.bool false)], args := [d1, d2, d3, d4, d5] }
  | _ => none }
def BatchMergesWrongFalsely : Prop := batchMergesRow.holds Tryz.pinned (OpenSpec.ofChange batchMergesWrong)

/-- 'freshetlaw06.BatchOwn': WHATEVER THE INPUT: true; the input reads as it did. -/
def batchOwnSpec : ChangeSpec := { name := "batchOwn", fn := fun _ => fun
  | [d1, d2] => { results := [.lit (.bool true)], args := [d1, d2] }
  | _ => none }
def batchOwnRow : OpenClaim := { program := "ytllpfngmnccejaagreat", sum := "ceccba5defb031eda746b2e281f4db41798bf9e62c383e5139ed4f5a3145bd06", func := "freshet/freshetlaw06.BatchOwn", spec := "batchOwn", inPlace := ["math/bits.Add64", "internal/bytealg.abigen_runtime_cmpstring"], unfollowed := true, recurses := true, apart := false }
def BatchOwnSaid : Prop := batchOwnRow.holds Tryz.pinned (OpenSpec.ofChange batchOwnSpec)

/-- ITS FALSE NEIGHBOUR: 'it returns false'. Refute it at one input. -/
def batchOwnWrong : ChangeSpec := { name := "batchOwn", fn := fun _ => fun
  | [d1, d2] => { results := [.lit (.bool false)], args := [d1, d2] }
  | _ => none }
def BatchOwnWrongFalsely : Prop := batchOwnRow.holds Tryz.pinned (OpenSpec.ofChange batchOwnWrong)

/-- 'freshettop.TopMerged': WHATEVER THE INPUT: true; the input reads as it did. -/
def topMergedSpec : ChangeSpec := { name := "topMerged", fn := fun _ => fun
  | [d1, d2, d3] => { results := [.lit (.bool true)], args := [d1, d2, d3] }
  | _ => none }
def topMergedRow : OpenClaim := { program := "ytllpfngmnccejaagreat", sum := "ceccba5defb031eda746b2e281f4db41798bf9e62c383e5139ed4f5a3145bd06", func := "freshet/freshettop.TopMerged", spec := "topMerged", inPlace := ["internal/bytealg.abigen_runtime_cmpstring", "slices.overlaps[freshet/disk.file]", "internal/abi.NoEscape", "internal/bytealg.MakeNoZero", "math/bits.Add64"], unfollowed := true, recurses := true, apart := false }
def TopMergedSaid : Prop := topMergedRow.holds Tryz.pinned (OpenSpec.ofChange topMergedSpec)

/-- ITS FALSE NEIGHBOUR: 'it returns false'. Refute it at one input. -/
def topMergedWrong : ChangeSpec := { name := "topMerged", fn := fun _ => fun
  | [d1, d2, d3] => { results := [.lit (.bool false)], args := [d1, d2, d3] }
  | _ => none }
def TopMergedWrongFalsely : Prop := topMergedRow.holds Tryz.pinned (OpenSpec.ofChange topMergedWrong)

/-- 'freshettop.TopBoth': WHATEVER THE INPUT: true; the input reads as it did. -/
def topBothSpec : ChangeSpec := { name := "topBoth", fn := fun _ => fun
  | [d1, d2] => { results := [.lit (.bool true)], args := [d1, d2] }
  | _ => none }
def topBothRow : OpenClaim := { program := "ytllpfngmnccejaagreat", sum := "ceccba5defb031eda746b2e281f4db41798bf9e62c383e5139ed4f5a3145bd06", func := "freshet/freshettop.TopBoth", spec := "topBoth", inPlace := ["internal/bytealg.abigen_runtime_cmpstring", "slices.overlaps[freshet/disk.file]", "internal/abi.NoEscape", "internal/bytealg.MakeNoZero", "math/bits.Add64"], unfollowed := true, recurses := true, apart := false }
def TopBothSaid : Prop := topBothRow.holds Tryz.pinned (OpenSpec.ofChange topBothSpec)

/-- ITS FALSE NEIGHBOUR: 'it returns false'. Refute it at one input. -/
def topBothWrong : ChangeSpec := { name := "topBoth", fn := fun _ => fun
  | [d1, d2] => { results := [.lit (.bool false)], args := [d1, d2] }
  | _ => none }
def TopBothWrongFalsely : Prop := topBothRow.holds Tryz.pinned (OpenSpec.ofChange topBothWrong)

/- THE SECOND FORM. 'bulk': how many values and letters a reading holds, each counted each time it is reached (what is shared counts as often as it is met; a slice's spare places count too). A statement '..UptoSaid' is the law's where the arguments, and the package variables that the reading takes, are together of bulk at most 1048576: NARROWER than '..Said'. Prove '..Said' where nothing that the law and all that it calls make is longer than what came in: it says more and counts as full. Else prove '..UptoSaid'. A law counts once. -/
mutual
def uptoBulk {H : Type} : DataW H → Nat
  | .lit (.string bytes) => bytes.length + 1
  | .lit _ => 1
  | .nil => 1
  | .ptr d => uptoBulk d + 1
  | .slice elems spare => uptoBulkAll elems + uptoBulkAll spare + 1
  | .agg parts => uptoBulkAll parts + 1
  | .iface _ d => uptoBulk d + 1
  | .map entries => uptoBulkEntries entries + 1
  | .held _ => 1
def uptoBulkAll {H : Type} : List (DataW H) → Nat
  | [] => 0
  | d :: r => uptoBulk d + uptoBulkAll r
def uptoBulkEntries {H : Type} : List (Lit × DataW H) → Nat
  | [] => 0
  | x :: r => uptoBulkEntry x + uptoBulkEntries r
def uptoBulkEntry {H : Type} : Lit × DataW H → Nat
  | (.string bytes, d) => bytes.length + uptoBulk d + 1
  | (_, d) => uptoBulk d + 1
 end
def uptoSmall : (H : Type) → List (DataW H) → Bool := fun _ ds => decide (uptoBulkAll ds ≤ 1048576)
def OpenSpec.upto (s : _root_.Go.ChangeSpec) : _root_.Go.OpenSpec := { _root_.Go.OpenSpec.ofChange s with cond := some uptoSmall }

/-- 'freshetlaw06.BatchMerges', WHERE WHAT IT READS IS OF BULK AT MOST 1048576: true; the input reads as it did. -/
def batchMergesUptoRow : OpenClaim := { program := "ytllpfngmnccejaagreat", sum := "ceccba5defb031eda746b2e281f4db41798bf9e62c383e5139ed4f5a3145bd06", func := "freshet/freshetlaw06.BatchMerges", spec := "batchMerges", inPlace := ["internal/bytealg.abigen_runtime_cmpstring", "math/bits.Add64"], unfollowed := true, recurses := true, apart := false, narrowed := true }
def BatchMergesUptoSaid : Prop := batchMergesUptoRow.holds Tryz.pinned (OpenSpec.upto batchMergesSpec)

/-- 'freshetlaw06.BatchOwn', WHERE WHAT IT READS IS OF BULK AT MOST 1048576: true; the input reads as it did. -/
def batchOwnUptoRow : OpenClaim := { program := "ytllpfngmnccejaagreat", sum := "ceccba5defb031eda746b2e281f4db41798bf9e62c383e5139ed4f5a3145bd06", func := "freshet/freshetlaw06.BatchOwn", spec := "batchOwn", inPlace := ["math/bits.Add64", "internal/bytealg.abigen_runtime_cmpstring"], unfollowed := true, recurses := true, apart := false, narrowed := true }
def BatchOwnUptoSaid : Prop := batchOwnUptoRow.holds Tryz.pinned (OpenSpec.upto batchOwnSpec)

/-- 'freshettop.TopMerged', WHERE WHAT IT READS IS OF BULK AT MOST 1048576: true; the input reads as it did. -/
def topMergedUptoRow : OpenClaim := { program := "ytllpfngmnccejaagreat", sum := "ceccba5defb031eda746b2e281f4db41798bf9e62c383e5139ed4f5a3145bd06", func := "freshet/freshettop.TopMerged", spec := "topMerged", inPlace := ["internal/bytealg.abigen_runtime_cmpstring", "slices.overlaps[freshet/disk.file]", "internal/abi.NoEscape", "internal/bytealg.MakeNoZero", "math/bits.Add64"], unfollowed := true, recurses := true, apart := false, narrowed := true }
def TopMergedUptoSaid : Prop := topMergedUptoRow.holds Tryz.pinned (OpenSpec.upto topMergedSpec)

/-- 'freshettop.TopBoth', WHERE WHAT IT READS IS OF BULK AT MOST 1048576: true; the input reads as it did. -/
def topBothUptoRow : OpenClaim := { program := "ytllpfngmnccejaagreat", sum := "ceccba5defb031eda746b2e281f4db41798bf9e62c383e5139ed4f5a3145bd06", func := "freshet/freshettop.TopBoth", spec := "topBoth", inPlace := ["internal/bytealg.abigen_runtime_cmpstring", "slices.overlaps[freshet/disk.file]", "internal/abi.NoEscape", "internal/bytealg.MakeNoZero", "math/bits.Add64"], unfollowed := true, recurses := true, apart := false, narrowed := true }
def TopBothUptoSaid : Prop := topBothUptoRow.holds Tryz.pinned (OpenSpec.upto topBothSpec)

end Rows
end Go.Proofs.YtllpfngmnccejaaGreat
