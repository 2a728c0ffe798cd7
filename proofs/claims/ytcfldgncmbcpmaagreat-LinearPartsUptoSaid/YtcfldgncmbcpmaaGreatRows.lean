/-
  NARROWER THAN 'FOR EVERY INPUT', by the rows' own cells (each row's printed sentence says how): LinearParts: loops.
  DERIVED. THE GIVEN ROWS OF THIS SEAT. 4 by the template 'for every input the law returns true; each argument reads behind the call as it read before'; 0 by the template 'total and deterministic' (their statements: YtcfldgncmbcpmaaGreatTotals.lean).
  GIVEN WITH THE SEED: the statements are not yours to turn. If you find one false, say at which input.
  Laid BY PROGRAM, IN A SANDBOX (cutbox-rows.mjs): the forced cells as the released guide's own fill.sh prints them over the translation 4a0db7a6d306807a… (all of the seat's roots in one cut). By AI agents, Wed Nov 11 2026. No macro, syntax, notation, axiom, sorry.
-/
import Derived.Test.YtcfldgncmbcpmaaGreatChecked
import GoSem.Claim
import GoSem.ClaimJoined
import GoSem.ClaimMapViews
import Derived.JoinedTies
import Derived.KernelRfl
namespace Go.Proofs.YtcfldgncmbcpmaaGreat
/- THE CELL 'sum', in the pinned program and in every row, IS THE sha256 OF THE DUMP (.gsa) THAT YtcfldgncmbcpmaaGreatProg.lean LOADS. Nothing in Lean hashes anything: it is a label: what it is worth is what the hold of that sum in a sandbox is worth. -/
noncomputable def Tryz.pinned : Pinned := { name := "ytcfldgncmbcpmaagreat", sum := "4a0db7a6d306807a118ef18c2dd6b050e0b08c5343c2d7ff944cfb96932c5d9d", checked := Tryz.checked }
namespace Rows
def none {H : Type} : Left H := { results := [], args := [] }

/-- 'freshetlaw11.LinearTwice': WHATEVER THE INPUT: true; the input reads as it did. -/
def linearTwiceSpec : ChangeSpec := { name := "linearTwice", fn := fun _ => fun
  | [d] => { results := [.lit (.bool true)], args := [d] }
  | _ => none }
def linearTwiceRow : OpenClaim := { program := "ytcfldgncmbcpmaagreat", sum := "4a0db7a6d306807a118ef18c2dd6b050e0b08c5343c2d7ff944cfb96932c5d9d", func := "freshet/freshetlaw11.LinearTwice", spec := "linearTwice", inPlace := ["internal/bytealg.abigen_runtime_cmpstring", "math/bits.Add64"], unfollowed := true, recurses := true, apart := false }
def LinearTwiceSaid : Prop := linearTwiceRow.holds Tryz.pinned (OpenSpec.ofChange linearTwiceSpec)

/-- ITS FALSE NEIGHBOUR: 'it returns false'. Refute it at one input. -/
def linearTwiceWrong : ChangeSpec := { name := "linearTwice", fn := fun _ => fun
  | [d] => { results := [.lit (.bool false)], args := [d] }
  | _ => none }
def LinearTwiceWrongFalsely : Prop := linearTwiceRow.holds Tryz.pinned (OpenSpec.ofChange linearTwiceWrong)

/-- 'freshetlaw11.LinearKeys': WHATEVER THE INPUT: true; the input reads as it did. -/
def linearKeysSpec : ChangeSpec := { name := "linearKeys", fn := fun _ => fun
  | [d1, d2] => { results := [.lit (.bool true)], args := [d1, d2] }
  | _ => none }
def linearKeysRow : OpenClaim := { program := "ytcfldgncmbcpmaagreat", sum := "4a0db7a6d306807a118ef18c2dd6b050e0b08c5343c2d7ff944cfb96932c5d9d", func := "freshet/freshetlaw11.LinearKeys", spec := "linearKeys", inPlace := ["internal/bytealg.abigen_runtime_cmpstring", "math/bits.Add64"], unfollowed := true, recurses := true, apart := false }
def LinearKeysSaid : Prop := linearKeysRow.holds Tryz.pinned (OpenSpec.ofChange linearKeysSpec)

/-- ITS FALSE NEIGHBOUR: 'it returns false'. Refute it at one input. -/
def linearKeysWrong : ChangeSpec := { name := "linearKeys", fn := fun _ => fun
  | [d1, d2] => { results := [.lit (.bool false)], args := [d1, d2] }
  | _ => none }
def LinearKeysWrongFalsely : Prop := linearKeysRow.holds Tryz.pinned (OpenSpec.ofChange linearKeysWrong)

/-- 'freshetlaw11.LinearRounds': WHATEVER THE INPUT: true; the input reads as it did. -/
def linearRoundsSpec : ChangeSpec := { name := "linearRounds", fn := fun _ => fun
  | [d1, d2, d3, d4, d5] => { results := [.lit (.bool true)], args := [d1, d2, d3, d4, d5] }
  | _ => none }
def linearRoundsRow : OpenClaim := { program := "ytcfldgncmbcpmaagreat", sum := "4a0db7a6d306807a118ef18c2dd6b050e0b08c5343c2d7ff944cfb96932c5d9d", func := "freshet/freshetlaw11.LinearRounds", spec := "linearRounds", inPlace := ["internal/bytealg.abigen_runtime_cmpstring", "math/bits.Add64"], unfollowed := true, recurses := true, apart := false }
def LinearRoundsSaid : Prop := linearRoundsRow.holds Tryz.pinned (OpenSpec.ofChange linearRoundsSpec)

/-- ITS FALSE NEIGHBOUR: 'it returns false'. Refute it at one input. -/
def linearRoundsWrong : ChangeSpec := { name := "linearRounds", fn := fun _ => fun
  | [d1, d2, d3, d4, d5] => { results := [.lit (.bool false)], args := [d1, d2, d3, d4, d5] }
  | _ => none }
def LinearRoundsWrongFalsely : Prop := linearRoundsRow.holds Tryz.pinned (OpenSpec.ofChange linearRoundsWrong)

/-- 'freshetlaw11.LinearParts': WHATEVER THE INPUT: true; the input reads as it did. -/
def linearPartsSpec : ChangeSpec := { name := "linearParts", fn := fun _ => fun
  | [d1, d2, d3] => { results := [.lit (.bool true)], args := [d1, d2, d3] }
  | _ => none }
def linearPartsRow : OpenClaim := { program := "ytcfldgncmbcpmaagreat", sum := "4a0db7a6d306807a118ef18c2dd6b050e0b08c5343c2d7ff944cfb96932c5d9d", func := "freshet/freshetlaw11.LinearParts", spec := "linearParts", inPlace := ["internal/bytealg.abigen_runtime_cmpstring", "math/bits.Add64"], unfollowed := true, recurses := true, loops := true, apart := false }
def LinearPartsSaid : Prop := linearPartsRow.holds Tryz.pinned (OpenSpec.ofChange linearPartsSpec)

/-- ITS FALSE NEIGHBOUR: 'it returns false'. Refute it at one input. -/
def linearPartsWrong : ChangeSpec := { name := "linearParts", fn := fun _ => fun
  | [d1, d2, d3] => { results := [.lit (.bool false)], args := [d1, d2, d3] }
  | _ => none }
def LinearPartsWrongFalsely : Prop := linearPartsRow.holds Tryz.pinned (OpenSpec.ofChange linearPartsWrong)

/- THE SECOND FORM. 'bulk': how many values and letters a reading holds, each counted each time it is reached (what is shared counts as often as it is met; a slice's spare places count too). A statement '..UptoSaid' is the law's where the arguments, and the package variables that the reading takes, are together of bulk at most 1048576: NARROWER than '..Said'. Prove '..Said' where nothing that the law and all that it calls make is longer than what came in: it says more and counts as full. Else prove '..UptoSaid'. A law counts once. -/
mutual
def uptoBulk {H : Type} : DataW H → Nat
  | .lit (.string bytes) => bytes.length + 1
  | .lit _ => 1
  | .nil => 1
  | .ptr d => uptoBulk d + 1
  | .slice elems spare => uptoBulkAll elems + uptoBulkAll spare + 1
  | .agg parts => uptoBulkAll parts + 1
  | .iface _ d => uptoBulk d + 1
  | .map entries => uptoBulkEntries entries + 1
  | .held _ => 1
def uptoBulkAll {H : Type} : List (DataW H) → Nat
  | [] => 0
  | d :: r => uptoBulk d + uptoBulkAll r
def uptoBulkEntries {H : Type} : List (Lit × DataW H) → Nat
  | [] => 0
  | x :: r => uptoBulkEntry x + uptoBulkEntries r
def uptoBulkEntry {H : Type} : Lit × DataW H → Nat
  | (.string bytes, d) => bytes.length + uptoBulk d + 1
  | (_, d) => uptoBulk d + 1
 end
def uptoSmall : (H : Type) → List (DataW H) → Bool := fun _ ds => decide (uptoBulkAll ds ≤ 1048576)
def OpenSpec.upto (s : _root_.Go.ChangeSpec) : _root_.Go.OpenSpec := { _root_.Go.OpenSpec.ofChange s with cond := some uptoSmall }

/-- 'freshetlaw11.LinearTwice', WHERE WHAT IT READS IS OF BULK AT MOST 1048576: true; the input reads as it did. -/
def linearTwiceUptoRow : OpenClaim := { program := "ytcfldgncmbcpmaagreat", sum := "4a0db7a6d306807a118ef18c2dd6b050e0b08c5343c2d7ff944cfb96932c5d9d", func := "freshet/freshetlaw11.LinearTwice", spec := "linearTwice", inPlace := ["internal/bytealg.abigen_runtime_cmpstring", "math/bits.Add64"], unfollowed := true, recurses := true, apart := false, narrowed := true }
def LinearTwiceUptoSaid : Prop := linearTwiceUptoRow.holds Tryz.pinned (OpenSpec.upto linearTwiceSpec)

/-- 'freshetlaw11.LinearKeys', WHERE WHAT IT READS IS OF BULK AT MOST 1048576: true; the input reads as it did. -/
def linearKeysUptoRow : OpenClaim := { program := "ytcfldgncmbcpmaagreat", sum := "4a0db7a6d306807a118ef18c2dd6b050e0b08c5343c2d7ff944cfb96932c5d9d", func := "freshet/freshetlaw11.LinearKeys", spec := "linearKeys", inPlace := ["internal/bytealg.abigen_runtime_cmpstring", "math/bits.Add64"], unfollowed := true, recurses := true, apart := false, narrowed := true }
def LinearKeysUptoSaid : Prop := linearKeysUptoRow.holds Tryz.pinned (OpenSpec.upto linearKeysSpec)

/-- 'freshetlaw11.LinearRounds', WHERE WHAT IT READS IS OF BULK AT MOST 1048576: true; the input reads as it did. -/
def linearRoundsUptoRow : OpenClaim := { program := "ytcfldgncmbcpmaagreat", sum := "4a0db7a6d306807a118ef18c2dd6b050e0b08c5343c2d7ff944cfb96932c5d9d", func := "freshet/freshetlaw11.LinearRounds", spec := "linearRounds", inPlace := ["internal/bytealg.abigen_runtime_cmpstring", "math/bits.Add64"], unfollowed := true, recurses := true, apart := false, narrowed := true }
def LinearRoundsUptoSaid : Prop := linearRoundsUptoRow.holds Tryz.pinned (OpenSpec.upto linearRoundsSpec)

/-- 'freshetlaw11.LinearParts', WHERE WHAT IT READS IS OF BULK AT MOST 1048576: true; the input reads as it did. -/
def linearPartsUptoRow : OpenClaim := { program := "ytcfldgncmbcpmaagreat", sum := "4a0db7a6d306807a118ef18c2dd6b050e0b08c5343c2d7ff944cfb96932c5d9d", func := "freshet/freshetlaw11.LinearParts", spec := "linearParts", inPlace := ["internal/bytealg.abigen_runtime_cmpstring", "math/bits.Add64"], unfollowed := true, recurses := true, loops := true, apart := false, narrowed := true }
def LinearPartsUptoSaid : Prop := linearPartsUptoRow.holds Tryz.pinned (OpenSpec.upto linearPartsSpec)

end Rows
end Go.Proofs.YtcfldgncmbcpmaaGreat
