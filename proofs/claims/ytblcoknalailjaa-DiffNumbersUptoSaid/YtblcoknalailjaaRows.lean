/-
  No cell of these rows narrows 'for every input' (looked for: loops, veiled, ifaces, maps, wideKeys, modest, calm, conditions, laid).
  DERIVED. THE GIVEN ROWS OF THIS SEAT. 2 by the template 'for every input the law returns true; each argument reads behind the call as it read before'; 0 by the template 'total and deterministic' (their statements: YtblcoknalailjaaTotals.lean).
  GIVEN WITH THE SEED: the statements are not yours to turn. If you find one false, say at which input.
  Laid BY PROGRAM, IN A SANDBOX (cutbox-rows.mjs): the forced cells as the released guide's own fill.sh prints them over the translation 6f5083393068bfd7… (all of the seat's roots in one cut). By AI agents, Wed Nov 11 2026. No macro, syntax, notation, axiom, sorry.
-/
import Derived.Test.YtblcoknalailjaaChecked
import GoSem.Claim
import GoSem.ClaimJoined
import GoSem.ClaimMapViews
import Derived.JoinedTies
import Derived.KernelRfl
namespace Go.Proofs.Ytblcoknalailjaa
/- THE CELL 'sum', in the pinned program and in every row, IS THE sha256 OF THE DUMP (.gsa) THAT YtblcoknalailjaaProg.lean LOADS. Nothing in Lean hashes anything: it is a label: what it is worth is what the hold of that sum in a sandbox is worth. -/
noncomputable def Try.pinned : Pinned := { name := "ytblcoknalailjaa", sum := "6f5083393068bfd73f6e9ac78dfc790760ba021e96aae9f2307799bbc022a905", checked := Try.checked }
namespace Rows
def none {H : Type} : Left H := { results := [], args := [] }

/-- 'freshetlaw05.DiffSums': WHATEVER THE INPUT: true; the input reads as it did. -/
def diffSumsSpec : ChangeSpec := { name := "diffSums", fn := fun _ => fun
  | [d1, d2, d3] => { results := [.lit (.bool true)], args := [d1, d2, d3] }
  | _ => none }
def diffSumsRow : OpenClaim := { program := "ytblcoknalailjaa", sum := "6f5083393068bfd73f6e9ac78dfc790760ba021e96aae9f2307799bbc022a905", func := "freshet/freshetlaw05.DiffSums", spec := "diffSums", inPlace := ["math/bits.Add64"], apart := false }
def DiffSumsSaid : Prop := diffSumsRow.holds Try.pinned (OpenSpec.ofChange diffSumsSpec)

/-- ITS FALSE NEIGHBOUR: 'it returns false'. Refute it at one input. -/
def diffSumsWrong : ChangeSpec := { name := "diffSums", fn := fun _ => fun
  | [d1, d2, d3] => { results := [.lit (.bool false)], args := [d1, d2, d3] }
  | _ => none }
def DiffSumsWrongFalsely : Prop := diffSumsRow.holds Try.pinned (OpenSpec.ofChange diffSumsWrong)

/-- 'freshetlaw05.DiffNumbers': WHATEVER THE INPUT: true; the input reads as it did. -/
def diffNumbersSpec : ChangeSpec := { name := "diffNumbers", fn := fun _ => fun
  | [d1, d2, d3] => { results := [.lit (.bool true)], args := [d1, d2, d3] }
  | _ => none }
def diffNumbersRow : OpenClaim := { program := "ytblcoknalailjaa", sum := "6f5083393068bfd73f6e9ac78dfc790760ba021e96aae9f2307799bbc022a905", func := "freshet/freshetlaw05.DiffNumbers", spec := "diffNumbers", inPlace := ["math/bits.Add64"], apart := false }
def DiffNumbersSaid : Prop := diffNumbersRow.holds Try.pinned (OpenSpec.ofChange diffNumbersSpec)

/-- ITS FALSE NEIGHBOUR: 'it returns false'. Refute it at one input. -/
def diffNumbersWrong : ChangeSpec := { name := "diffNumbers", fn := fun _ => fun
  | [d1, d2, d3] => { results := [.lit (.bool false)], args := [d1, d2, d3] }
  | _ => none }
def DiffNumbersWrongFalsely : Prop := diffNumbersRow.holds Try.pinned (OpenSpec.ofChange diffNumbersWrong)

/- THE SECOND FORM. 'bulk': how many values and letters a reading holds, each counted each time it is reached (what is shared counts as often as it is met; a slice's spare places count too). A statement '..UptoSaid' is the law's where the arguments, and the package variables that the reading takes, are together of bulk at most 1048576: NARROWER than '..Said'. Prove '..Said' where nothing that the law and all that it calls make is longer than what came in: it says more and counts as full. Else prove '..UptoSaid'. A law counts once. -/
mutual
def uptoBulk {H : Type} : DataW H → Nat
  | .lit (.string bytes) => bytes.length + 1
  | .lit _ => 1
  | .nil => 1
  | .ptr d => uptoBulk d + 1
  | .slice elems spare => uptoBulkAll elems + uptoBulkAll spare + 1
  | .agg parts => uptoBulkAll parts + 1
  | .iface _ d => uptoBulk d + 1
  | .map entries => uptoBulkEntries entries + 1
  | .held _ => 1
def uptoBulkAll {H : Type} : List (DataW H) → Nat
  | [] => 0
  | d :: r => uptoBulk d + uptoBulkAll r
def uptoBulkEntries {H : Type} : List (Lit × DataW H) → Nat
  | [] => 0
  | x :: r => uptoBulkEntry x + uptoBulkEntries r
def uptoBulkEntry {H : Type} : Lit × DataW H → Nat
  | (.string bytes, d) => bytes.length + uptoBulk d + 1
  | (_, d) => uptoBulk d + 1
 end
def uptoSmall : (H : Type) → List (DataW H) → Bool := fun _ ds => decide (uptoBulkAll ds ≤ 1048576)
def OpenSpec.upto (s : _root_.Go.ChangeSpec) : _root_.Go.OpenSpec := { _root_.Go.OpenSpec.ofChange s with cond := some uptoSmall }

/-- 'freshetlaw05.DiffSums', WHERE WHAT IT READS IS OF BULK AT MOST 1048576: true; the input reads as it did. -/
def diffSumsUptoRow : OpenClaim := { program := "ytblcoknalailjaa", sum := "6f5083393068bfd73f6e9ac78dfc790760ba021e96aae9f2307799bbc022a905", func := "freshet/freshetlaw05.DiffSums", spec := "diffSums", inPlace := ["math/bits.Add64"], apart := false, narrowed := true }
def DiffSumsUptoSaid : Prop := diffSumsUptoRow.holds Try.pinned (OpenSpec.upto diffSumsSpec)

/-- 'freshetlaw05.DiffNumbers', WHERE WHAT IT READS IS OF BULK AT MOST 1048576: true; the input reads as it did. -/
def diffNumbersUptoRow : OpenClaim := { program := "ytblcoknalailjaa", sum := "6f5083393068bfd73f6e9ac78dfc790760ba021e96aae9f2307799bbc022a905", func := "freshet/freshetlaw05.DiffNumbers", spec := "diffNumbers", inPlace := ["math/bits.Add64"], apart := false, narrowed := true }
def DiffNumbersUptoSaid : Prop := diffNumbersUptoRow.holds Try.pinned (OpenSpec.upto diffNumbersSpec)

end Rows
end Go.Proofs.Ytblcoknalailjaa
