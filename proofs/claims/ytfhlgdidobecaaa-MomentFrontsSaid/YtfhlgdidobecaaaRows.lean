/-
  No cell of these rows narrows 'for every input' (looked for: loops, veiled, ifaces, maps, wideKeys, modest, calm, conditions, laid).
  DERIVED. THE GIVEN ROWS OF THIS SEAT. 4 by the template 'for every input the law returns true; each argument reads behind the call as it read before'; 0 by the template 'total and deterministic' (their statements: YtfhlgdidobecaaaTotals.lean).
  GIVEN WITH THE SEED: the statements are not yours to turn. If you find one false, say at which input.
  Laid BY PROGRAM, IN A SANDBOX (cutbox-rows.mjs): the forced cells as the released guide's own fill.sh prints them over the translation e22e0499d1e537cb… (all of the seat's roots in one cut). By AI agents, Wed Nov 11 2026. No macro, syntax, notation, axiom, sorry.
-/
import Derived.Test.YtfhlgdidobecaaaChecked
import GoSem.Claim
import GoSem.ClaimJoined
import GoSem.ClaimMapViews
import Derived.JoinedTies
import Derived.KernelRfl
namespace Go.Proofs.Ytfhlgdidobecaaa
/- THE CELL 'sum', in the pinned program and in every row, IS THE sha256 OF THE DUMP (.gsa) THAT YtfhlgdidobecaaaProg.lean LOADS. Nothing in Lean hashes anything: it is a label: what it is worth is what the hold of that sum in a sandbox is worth. -/
noncomputable def Try.pinned : Pinned := { name := "ytfhlgdidobecaaa", sum := "e22e0499d1e537cb3cc097794da8ccba9f894c916aa3e05a3623bdb50a76cb49", checked := Try.checked }
namespace Rows
def none {H : Type} : Left H := { results := [], args := [] }

/-- 'freshetlaw04.MomentFronts': WHATEVER THE INPUT: true; the input reads as it did. -/
def momentFrontsSpec : ChangeSpec := { name := "momentFronts", fn := fun _ => fun
  | [d1, d2] => { results := [.lit (.bool true)], args := [d1, d2] }
  | _ => none }
def momentFrontsRow : OpenClaim := { program := "ytfhlgdidobecaaa", sum := "e22e0499d1e537cb3cc097794da8ccba9f894c916aa3e05a3623bdb50a76cb49", func := "freshet/freshetlaw04.MomentFronts", spec := "momentFronts", unfollowed := true, recurses := true, apart := false }
def MomentFrontsSaid : Prop := momentFrontsRow.holds Try.pinned (OpenSpec.ofChange momentFrontsSpec)

/-- ITS FALSE NEIGHBOUR: 'it returns false'. Refute it at one input. -/
def momentFrontsWrong : ChangeSpec := { name := "momentFronts", fn := fun _ => fun
  | [d1, d2] => { results := [.lit (.bool false)], args := [d1, d2] }
  | _ => none }
def MomentFrontsWrongFalsely : Prop := momentFrontsRow.holds Try.pinned (OpenSpec.ofChange momentFrontsWrong)

/-- 'freshetlaw02.DiskWrites': WHATEVER THE INPUT: true; the input reads as it did. -/
def diskWritesSpec : ChangeSpec := { name := "diskWrites", fn := fun _ => fun
  | [d1, d2] => { results := [.lit (.bool true)], args := [d1, d2] }
  | _ => none }
def diskWritesRow : OpenClaim := { program := "ytfhlgdidobecaaa", sum := "e22e0499d1e537cb3cc097794da8ccba9f894c916aa3e05a3623bdb50a76cb49", func := "freshet/freshetlaw02.DiskWrites", spec := "diskWrites", inPlace := ["internal/bytealg.abigen_runtime_cmpstring", "slices.overlaps[freshet/disk.file]", "internal/abi.NoEscape", "internal/bytealg.MakeNoZero"], unfollowed := true, recurses := true, apart := false }
def DiskWritesSaid : Prop := diskWritesRow.holds Try.pinned (OpenSpec.ofChange diskWritesSpec)

/-- ITS FALSE NEIGHBOUR: 'it returns false'. Refute it at one input. -/
def diskWritesWrong : ChangeSpec := { name := "diskWrites", fn := fun _ => fun
  | [d1, d2] => { results := [.lit (.bool false)], args := [d1, d2] }
  | _ => none }
def DiskWritesWrongFalsely : Prop := diskWritesRow.holds Try.pinned (OpenSpec.ofChange diskWritesWrong)

/-- 'freshetlaw02.DiskSees': WHATEVER THE INPUT: true; the input reads as it did. -/
def diskSeesSpec : ChangeSpec := { name := "diskSees", fn := fun _ => fun
  | [d1, d2] => { results := [.lit (.bool true)], args := [d1, d2] }
  | _ => none }
def diskSeesRow : OpenClaim := { program := "ytfhlgdidobecaaa", sum := "e22e0499d1e537cb3cc097794da8ccba9f894c916aa3e05a3623bdb50a76cb49", func := "freshet/freshetlaw02.DiskSees", spec := "diskSees", inPlace := ["internal/bytealg.abigen_runtime_cmpstring", "slices.overlaps[freshet/disk.file]", "internal/abi.NoEscape", "internal/bytealg.MakeNoZero"], unfollowed := true, recurses := true, apart := false }
def DiskSeesSaid : Prop := diskSeesRow.holds Try.pinned (OpenSpec.ofChange diskSeesSpec)

/-- ITS FALSE NEIGHBOUR: 'it returns false'. Refute it at one input. -/
def diskSeesWrong : ChangeSpec := { name := "diskSees", fn := fun _ => fun
  | [d1, d2] => { results := [.lit (.bool false)], args := [d1, d2] }
  | _ => none }
def DiskSeesWrongFalsely : Prop := diskSeesRow.holds Try.pinned (OpenSpec.ofChange diskSeesWrong)

/-- 'freshetlaw02.DiskCrashes': WHATEVER THE INPUT: true; the input reads as it did. -/
def diskCrashesSpec : ChangeSpec := { name := "diskCrashes", fn := fun _ => fun
  | [d1, d2, d3] => { results := [.lit (.bool true)], args := [d1, d2, d3] }
  | _ => none }
def diskCrashesRow : OpenClaim := { program := "ytfhlgdidobecaaa", sum := "e22e0499d1e537cb3cc097794da8ccba9f894c916aa3e05a3623bdb50a76cb49", func := "freshet/freshetlaw02.DiskCrashes", spec := "diskCrashes", inPlace := ["internal/bytealg.abigen_runtime_cmpstring", "slices.overlaps[freshet/disk.file]", "internal/abi.NoEscape", "internal/bytealg.MakeNoZero"], unfollowed := true, recurses := true, apart := false }
def DiskCrashesSaid : Prop := diskCrashesRow.holds Try.pinned (OpenSpec.ofChange diskCrashesSpec)

/-- ITS FALSE NEIGHBOUR: 'it returns false'. Refute it at one input. -/
def diskCrashesWrong : ChangeSpec := { name := "diskCrashes", fn := fun _ => fun
  | [d1, d2, d3] => { results := [.lit (.bool false)], args := [d1, d2, d3] }
  | _ => none }
def DiskCrashesWrongFalsely : Prop := diskCrashesRow.holds Try.pinned (OpenSpec.ofChange diskCrashesWrong)

/- THE SECOND FORM. 'bulk': how many values and letters a reading holds, each counted each time it is reached (what is shared counts as often as it is met; a slice's spare places count too). A statement '..UptoSaid' is the law's where the arguments, and the package variables that the reading takes, are together of bulk at most 1048576: NARROWER than '..Said'. Prove '..Said' where nothing that the law and all that it calls make is longer than what came in: it says more and counts as full. Else prove '..UptoSaid'. A law counts once. -/
mutual
def uptoBulk {H : Type} : DataW H → Nat
  | .lit (.string bytes) => bytes.length + 1
  | .lit _ => 1
  | .nil => 1
  | .ptr d => uptoBulk d + 1
  | .slice elems spare => uptoBulkAll elems + uptoBulkAll spare + 1
  | .agg parts => uptoBulkAll parts + 1
  | .iface _ d => uptoBulk d + 1
  | .map entries => uptoBulkEntries entries + 1
  | .held _ => 1
def uptoBulkAll {H : Type} : List (DataW H) → Nat
  | [] => 0
  | d :: r => uptoBulk d + uptoBulkAll r
def uptoBulkEntries {H : Type} : List (Lit × DataW H) → Nat
  | [] => 0
  | x :: r => uptoBulkEntry x + uptoBulkEntries r
def uptoBulkEntry {H : Type} : Lit × DataW H → Nat
  | (.string bytes, d) => bytes.length + uptoBulk d + 1
  | (_, d) => uptoBulk d + 1
 end
def uptoSmall : (H : Type) → List (DataW H) → Bool := fun _ ds => decide (uptoBulkAll ds ≤ 1048576)
def OpenSpec.upto (s : _root_.Go.ChangeSpec) : _root_.Go.OpenSpec := { _root_.Go.OpenSpec.ofChange s with cond := some uptoSmall }

/-- 'freshetlaw04.MomentFronts', WHERE WHAT IT READS IS OF BULK AT MOST 1048576: true; the input reads as it did. -/
def momentFrontsUptoRow : OpenClaim := { program := "ytfhlgdidobecaaa", sum := "e22e0499d1e537cb3cc097794da8ccba9f894c916aa3e05a3623bdb50a76cb49", func := "freshet/freshetlaw04.MomentFronts", spec := "momentFronts", unfollowed := true, recurses := true, apart := false, narrowed := true }
def MomentFrontsUptoSaid : Prop := momentFrontsUptoRow.holds Try.pinned (OpenSpec.upto momentFrontsSpec)

/-- 'freshetlaw02.DiskWrites', WHERE WHAT IT READS IS OF BULK AT MOST 1048576: true; the input reads as it did. -/
def diskWritesUptoRow : OpenClaim := { program := "ytfhlgdidobecaaa", sum := "e22e0499d1e537cb3cc097794da8ccba9f894c916aa3e05a3623bdb50a76cb49", func := "freshet/freshetlaw02.DiskWrites", spec := "diskWrites", inPlace := ["internal/bytealg.abigen_runtime_cmpstring", "slices.overlaps[freshet/disk.file]", "internal/abi.NoEscape", "internal/bytealg.MakeNoZero"], unfollowed := true, recurses := true, apart := false, narrowed := true }
def DiskWritesUptoSaid : Prop := diskWritesUptoRow.holds Try.pinned (OpenSpec.upto diskWritesSpec)

/-- 'freshetlaw02.DiskSees', WHERE WHAT IT READS IS OF BULK AT MOST 1048576: true; the input reads as it did. -/
def diskSeesUptoRow : OpenClaim := { program := "ytfhlgdidobecaaa", sum := "e22e0499d1e537cb3cc097794da8ccba9f894c916aa3e05a3623bdb50a76cb49", func := "freshet/freshetlaw02.DiskSees", spec := "diskSees", inPlace := ["internal/bytealg.abigen_runtime_cmpstring", "slices.overlaps[freshet/disk.file]", "internal/abi.NoEscape", "internal/bytealg.MakeNoZero"], unfollowed := true, recurses := true, apart := false, narrowed := true }
def DiskSeesUptoSaid : Prop := diskSeesUptoRow.holds Try.pinned (OpenSpec.upto diskSeesSpec)

/-- 'freshetlaw02.DiskCrashes', WHERE WHAT IT READS IS OF BULK AT MOST 1048576: true; the input reads as it did. -/
def diskCrashesUptoRow : OpenClaim := { program := "ytfhlgdidobecaaa", sum := "e22e0499d1e537cb3cc097794da8ccba9f894c916aa3e05a3623bdb50a76cb49", func := "freshet/freshetlaw02.DiskCrashes", spec := "diskCrashes", inPlace := ["internal/bytealg.abigen_runtime_cmpstring", "slices.overlaps[freshet/disk.file]", "internal/abi.NoEscape", "internal/bytealg.MakeNoZero"], unfollowed := true, recurses := true, apart := false, narrowed := true }
def DiskCrashesUptoSaid : Prop := diskCrashesUptoRow.holds Try.pinned (OpenSpec.upto diskCrashesSpec)

end Rows
end Go.Proofs.Ytfhlgdidobecaaa
