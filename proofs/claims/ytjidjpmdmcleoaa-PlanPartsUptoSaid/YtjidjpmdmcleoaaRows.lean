/-
  NARROWER THAN 'FOR EVERY INPUT', by the rows' own cells (each row's printed sentence says how): ExprTyped: loops · ExprLazy: loops · ExprSums: loops · PlanParts: loops · PlanWraps: loops · PlanLoops: loops.
  DERIVED. THE GIVEN ROWS OF THIS SEAT. 8 by the template 'for every input the law returns true; each argument reads behind the call as it read before'; 0 by the template 'total and deterministic' (their statements: YtjidjpmdmcleoaaTotals.lean).
  GIVEN WITH THE SEED: the statements are not yours to turn. If you find one false, say at which input.
  Laid BY PROGRAM, IN A SANDBOX (cutbox-rows.mjs): the forced cells as the released guide's own fill.sh prints them over the translation 58d387a76a2148f8… (all of the seat's roots in one cut). By AI agents, Wed Nov 11 2026. No macro, syntax, notation, axiom, sorry.
-/
import Derived.Test.YtjidjpmdmcleoaaChecked
import GoSem.Claim
import GoSem.ClaimJoined
import GoSem.ClaimMapViews
import Derived.JoinedTies
import Derived.KernelRfl
namespace Go.Proofs.Ytjidjpmdmcleoaa
/- THE CELL 'sum', in the pinned program and in every row, IS THE sha256 OF THE DUMP (.gsa) THAT YtjidjpmdmcleoaaProg.lean LOADS. Nothing in Lean hashes anything: it is a label: what it is worth is what the hold of that sum in a sandbox is worth. -/
noncomputable def Try.pinned : Pinned := { name := "ytjidjpmdmcleoaa", sum := "58d387a76a2148f8eb0e3035254942f73062c5e2318bdf9e98ec49519d57df54", checked := Try.checked }
namespace Rows
def none {H : Type} : Left H := { results := [], args := [] }

/-- 'freshetlaw08.ExprTyped': WHATEVER THE INPUT: true; the input reads as it did. -/
def exprTypedSpec : ChangeSpec := { name := "exprTyped", fn := fun _ => fun
  | [d1, d2] => { results := [.lit (.bool true)], args := [d1, d2] }
  | _ => none }
def exprTypedRow : OpenClaim := { program := "ytjidjpmdmcleoaa", sum := "58d387a76a2148f8eb0e3035254942f73062c5e2318bdf9e98ec49519d57df54", func := "freshet/freshetlaw08.ExprTyped", spec := "exprTyped", inPlace := ["internal/bytealg.abigen_runtime_cmpstring", "math/bits.Add64"], recurses := true, loops := true, apart := false }
def ExprTypedSaid : Prop := exprTypedRow.holds Try.pinned (OpenSpec.ofChange exprTypedSpec)

/-- ITS FALSE NEIGHBOUR: 'it returns false'. Refute it at one input. -/
def exprTypedWrong : ChangeSpec := { name := "exprTyped", fn := fun _ => fun
  | [d1, d2] => { results := [.lit (.bool false)], args := [d1, d2] }
  | _ => none }
def ExprTypedWrongFalsely : Prop := exprTypedRow.holds Try.pinned (OpenSpec.ofChange exprTypedWrong)

/-- 'freshetlaw08.ExprLazy': WHATEVER THE INPUT: true; the input reads as it did. -/
def exprLazySpec : ChangeSpec := { name := "exprLazy", fn := fun _ => fun
  | [d1, d2] => { results := [.lit (.bool true)], args := [d1, d2] }
  | _ => none }
def exprLazyRow : OpenClaim := { program := "ytjidjpmdmcleoaa", sum := "58d387a76a2148f8eb0e3035254942f73062c5e2318bdf9e98ec49519d57df54", func := "freshet/freshetlaw08.ExprLazy", spec := "exprLazy", inPlace := ["internal/bytealg.abigen_runtime_cmpstring", "math/bits.Add64"], recurses := true, loops := true, apart := false }
def ExprLazySaid : Prop := exprLazyRow.holds Try.pinned (OpenSpec.ofChange exprLazySpec)

/-- ITS FALSE NEIGHBOUR: 'it returns false'. Refute it at one input. -/
def exprLazyWrong : ChangeSpec := { name := "exprLazy", fn := fun _ => fun
  | [d1, d2] => { results := [.lit (.bool false)], args := [d1, d2] }
  | _ => none }
def ExprLazyWrongFalsely : Prop := exprLazyRow.holds Try.pinned (OpenSpec.ofChange exprLazyWrong)

/-- 'freshetlaw08.ExprLine': WHATEVER THE INPUT: true; the input reads as it did. -/
def exprLineSpec : ChangeSpec := { name := "exprLine", fn := fun _ => fun
  | [d1, d2, d3] => { results := [.lit (.bool true)], args := [d1, d2, d3] }
  | _ => none }
def exprLineRow : OpenClaim := { program := "ytjidjpmdmcleoaa", sum := "58d387a76a2148f8eb0e3035254942f73062c5e2318bdf9e98ec49519d57df54", func := "freshet/freshetlaw08.ExprLine", spec := "exprLine", inPlace := ["internal/bytealg.abigen_runtime_cmpstring", "math/bits.Add64"], recurses := true, apart := false }
def ExprLineSaid : Prop := exprLineRow.holds Try.pinned (OpenSpec.ofChange exprLineSpec)

/-- ITS FALSE NEIGHBOUR: 'it returns false'. Refute it at one input. -/
def exprLineWrong : ChangeSpec := { name := "exprLine", fn := fun _ => fun
  | [d1, d2, d3] => { results := [.lit (.bool false)], args := [d1, d2, d3] }
  | _ => none }
def ExprLineWrongFalsely : Prop := exprLineRow.holds Try.pinned (OpenSpec.ofChange exprLineWrong)

/-- 'freshetlaw08.ExprTurned': WHATEVER THE INPUT: true; the input reads as it did. -/
def exprTurnedSpec : ChangeSpec := { name := "exprTurned", fn := fun _ => fun
  | [d1, d2] => { results := [.lit (.bool true)], args := [d1, d2] }
  | _ => none }
def exprTurnedRow : OpenClaim := { program := "ytjidjpmdmcleoaa", sum := "58d387a76a2148f8eb0e3035254942f73062c5e2318bdf9e98ec49519d57df54", func := "freshet/freshetlaw08.ExprTurned", spec := "exprTurned", inPlace := ["internal/bytealg.abigen_runtime_cmpstring", "math/bits.Add64"], recurses := true, apart := false }
def ExprTurnedSaid : Prop := exprTurnedRow.holds Try.pinned (OpenSpec.ofChange exprTurnedSpec)

/-- ITS FALSE NEIGHBOUR: 'it returns false'. Refute it at one input. -/
def exprTurnedWrong : ChangeSpec := { name := "exprTurned", fn := fun _ => fun
  | [d1, d2] => { results := [.lit (.bool false)], args := [d1, d2] }
  | _ => none }
def ExprTurnedWrongFalsely : Prop := exprTurnedRow.holds Try.pinned (OpenSpec.ofChange exprTurnedWrong)

/-- 'freshetlaw08.ExprSums': WHATEVER THE INPUT: true; the input reads as it did. -/
def exprSumsSpec : ChangeSpec := { name := "exprSums", fn := fun _ => fun
  | [d1, d2, d3] => { results := [.lit (.bool true)], args := [d1, d2, d3] }
  | _ => none }
def exprSumsRow : OpenClaim := { program := "ytjidjpmdmcleoaa", sum := "58d387a76a2148f8eb0e3035254942f73062c5e2318bdf9e98ec49519d57df54", func := "freshet/freshetlaw08.ExprSums", spec := "exprSums", inPlace := ["internal/bytealg.abigen_runtime_cmpstring", "math/bits.Add64"], recurses := true, loops := true, apart := false }
def ExprSumsSaid : Prop := exprSumsRow.holds Try.pinned (OpenSpec.ofChange exprSumsSpec)

/-- ITS FALSE NEIGHBOUR: 'it returns false'. Refute it at one input. -/
def exprSumsWrong : ChangeSpec := { name := "exprSums", fn := fun _ => fun
  | [d1, d2, d3] => { results := [.lit (.bool false)], args := [d1, d2, d3] }
  | _ => none }
def ExprSumsWrongFalsely : Prop := exprSumsRow.holds Try.pinned (OpenSpec.ofChange exprSumsWrong)

/-- 'freshetlaw09.PlanParts': WHATEVER THE INPUT: true; the input reads as it did. -/
def planPartsSpec : ChangeSpec := { name := "planParts", fn := fun _ => fun
  | [d1, d2, d3] => { results := [.lit (.bool true)], args := [d1, d2, d3] }
  | _ => none }
def planPartsRow : OpenClaim := { program := "ytjidjpmdmcleoaa", sum := "58d387a76a2148f8eb0e3035254942f73062c5e2318bdf9e98ec49519d57df54", func := "freshet/freshetlaw09.PlanParts", spec := "planParts", unfollowed := true, recurses := true, loops := true, apart := false }
def PlanPartsSaid : Prop := planPartsRow.holds Try.pinned (OpenSpec.ofChange planPartsSpec)

/-- ITS FALSE NEIGHBOUR: 'it returns false'. Refute it at one input. -/
def planPartsWrong : ChangeSpec := { name := "planParts", fn := fun _ => fun
  | [d1, d2, d3] => { results := [.lit (.bool false)], args := [d1, d2, d3] }
  | _ => none }
def PlanPartsWrongFalsely : Prop := planPartsRow.holds Try.pinned (OpenSpec.ofChange planPartsWrong)

/-- 'freshetlaw09.PlanWraps': WHATEVER THE INPUT: true; the input reads as it did. -/
def planWrapsSpec : ChangeSpec := { name := "planWraps", fn := fun _ => fun
  | [d1, d2] => { results := [.lit (.bool true)], args := [d1, d2] }
  | _ => none }
def planWrapsRow : OpenClaim := { program := "ytjidjpmdmcleoaa", sum := "58d387a76a2148f8eb0e3035254942f73062c5e2318bdf9e98ec49519d57df54", func := "freshet/freshetlaw09.PlanWraps", spec := "planWraps", unfollowed := true, recurses := true, loops := true, apart := false }
def PlanWrapsSaid : Prop := planWrapsRow.holds Try.pinned (OpenSpec.ofChange planWrapsSpec)

/-- ITS FALSE NEIGHBOUR: 'it returns false'. Refute it at one input. -/
def planWrapsWrong : ChangeSpec := { name := "planWraps", fn := fun _ => fun
  | [d1, d2] => { results := [.lit (.bool false)], args := [d1, d2] }
  | _ => none }
def PlanWrapsWrongFalsely : Prop := planWrapsRow.holds Try.pinned (OpenSpec.ofChange planWrapsWrong)

/-- 'freshetlaw09.PlanLoops': WHATEVER THE INPUT: true; the input reads as it did. -/
def planLoopsSpec : ChangeSpec := { name := "planLoops", fn := fun _ => fun
  | [d1, d2, d3] => { results := [.lit (.bool true)], args := [d1, d2, d3] }
  | _ => none }
def planLoopsRow : OpenClaim := { program := "ytjidjpmdmcleoaa", sum := "58d387a76a2148f8eb0e3035254942f73062c5e2318bdf9e98ec49519d57df54", func := "freshet/freshetlaw09.PlanLoops", spec := "planLoops", unfollowed := true, recurses := true, loops := true, apart := false }
def PlanLoopsSaid : Prop := planLoopsRow.holds Try.pinned (OpenSpec.ofChange planLoopsSpec)

/-- ITS FALSE NEIGHBOUR: 'it returns false'. Refute it at one input. -/
def planLoopsWrong : ChangeSpec := { name := "planLoops", fn := fun _ => fun
  | [d1, d2, d3] => { results := [.lit (.bool false)], args := [d1, d2, d3] }
  | _ => none }
def PlanLoopsWrongFalsely : Prop := planLoopsRow.holds Try.pinned (OpenSpec.ofChange planLoopsWrong)

/- THE SECOND FORM. 'bulk': how many values and letters a reading holds, each counted each time it is reached (what is shared counts as often as it is met; a slice's spare places count too). A statement '..UptoSaid' is the law's where the arguments, and the package variables that the reading takes, are together of bulk at most 1048576: NARROWER than '..Said'. Prove '..Said' where nothing that the law and all that it calls make is longer than what came in: it says more and counts as full. Else prove '..UptoSaid'. A law counts once. -/
mutual
def uptoBulk {H : Type} : DataW H → Nat
  | .lit (.string bytes) => bytes.length + 1
  | .lit _ => 1
  | .nil => 1
  | .ptr d => uptoBulk d + 1
  | .slice elems spare => uptoBulkAll elems + uptoBulkAll spare + 1
  | .agg parts => uptoBulkAll parts + 1
  | .iface _ d => uptoBulk d + 1
  | .map entries => uptoBulkEntries entries + 1
  | .held _ => 1
def uptoBulkAll {H : Type} : List (DataW H) → Nat
  | [] => 0
  | d :: r => uptoBulk d + uptoBulkAll r
def uptoBulkEntries {H : Type} : List (Lit × DataW H) → Nat
  | [] => 0
  | x :: r => uptoBulkEntry x + uptoBulkEntries r
def uptoBulkEntry {H : Type} : Lit × DataW H → Nat
  | (.string bytes, d) => bytes.length + uptoBulk d + 1
  | (_, d) => uptoBulk d + 1
 end
def uptoSmall : (H : Type) → List (DataW H) → Bool := fun _ ds => decide (uptoBulkAll ds ≤ 1048576)
def OpenSpec.upto (s : _root_.Go.ChangeSpec) : _root_.Go.OpenSpec := { _root_.Go.OpenSpec.ofChange s with cond := some uptoSmall }

/-- 'freshetlaw08.ExprTyped', WHERE WHAT IT READS IS OF BULK AT MOST 1048576: true; the input reads as it did. -/
def exprTypedUptoRow : OpenClaim := { program := "ytjidjpmdmcleoaa", sum := "58d387a76a2148f8eb0e3035254942f73062c5e2318bdf9e98ec49519d57df54", func := "freshet/freshetlaw08.ExprTyped", spec := "exprTyped", inPlace := ["internal/bytealg.abigen_runtime_cmpstring", "math/bits.Add64"], recurses := true, loops := true, apart := false, narrowed := true }
def ExprTypedUptoSaid : Prop := exprTypedUptoRow.holds Try.pinned (OpenSpec.upto exprTypedSpec)

/-- 'freshetlaw08.ExprLazy', WHERE WHAT IT READS IS OF BULK AT MOST 1048576: true; the input reads as it did. -/
def exprLazyUptoRow : OpenClaim := { program := "ytjidjpmdmcleoaa", sum := "58d387a76a2148f8eb0e3035254942f73062c5e2318bdf9e98ec49519d57df54", func := "freshet/freshetlaw08.ExprLazy", spec := "exprLazy", inPlace := ["internal/bytealg.abigen_runtime_cmpstring", "math/bits.Add64"], recurses := true, loops := true, apart := false, narrowed := true }
def ExprLazyUptoSaid : Prop := exprLazyUptoRow.holds Try.pinned (OpenSpec.upto exprLazySpec)

/-- 'freshetlaw08.ExprLine', WHERE WHAT IT READS IS OF BULK AT MOST 1048576: true; the input reads as it did. -/
def exprLineUptoRow : OpenClaim := { program := "ytjidjpmdmcleoaa", sum := "58d387a76a2148f8eb0e3035254942f73062c5e2318bdf9e98ec49519d57df54", func := "freshet/freshetlaw08.ExprLine", spec := "exprLine", inPlace := ["internal/bytealg.abigen_runtime_cmpstring", "math/bits.Add64"], recurses := true, apart := false, narrowed := true }
def ExprLineUptoSaid : Prop := exprLineUptoRow.holds Try.pinned (OpenSpec.upto exprLineSpec)

/-- 'freshetlaw08.ExprTurned', WHERE WHAT IT READS IS OF BULK AT MOST 1048576: true; the input reads as it did. -/
def exprTurnedUptoRow : OpenClaim := { program := "ytjidjpmdmcleoaa", sum := "58d387a76a2148f8eb0e3035254942f73062c5e2318bdf9e98ec49519d57df54", func := "freshet/freshetlaw08.ExprTurned", spec := "exprTurned", inPlace := ["internal/bytealg.abigen_runtime_cmpstring", "math/bits.Add64"], recurses := true, apart := false, narrowed := true }
def ExprTurnedUptoSaid : Prop := exprTurnedUptoRow.holds Try.pinned (OpenSpec.upto exprTurnedSpec)

/-- 'freshetlaw08.ExprSums', WHERE WHAT IT READS IS OF BULK AT MOST 1048576: true; the input reads as it did. -/
def exprSumsUptoRow : OpenClaim := { program := "ytjidjpmdmcleoaa", sum := "58d387a76a2148f8eb0e3035254942f73062c5e2318bdf9e98ec49519d57df54", func := "freshet/freshetlaw08.ExprSums", spec := "exprSums", inPlace := ["internal/bytealg.abigen_runtime_cmpstring", "math/bits.Add64"], recurses := true, loops := true, apart := false, narrowed := true }
def ExprSumsUptoSaid : Prop := exprSumsUptoRow.holds Try.pinned (OpenSpec.upto exprSumsSpec)

/-- 'freshetlaw09.PlanParts', WHERE WHAT IT READS IS OF BULK AT MOST 1048576: true; the input reads as it did. -/
def planPartsUptoRow : OpenClaim := { program := "ytjidjpmdmcleoaa", sum := "58d387a76a2148f8eb0e3035254942f73062c5e2318bdf9e98ec49519d57df54", func := "freshet/freshetlaw09.PlanParts", spec := "planParts", unfollowed := true, recurses := true, loops := true, apart := false, narrowed := true }
def PlanPartsUptoSaid : Prop := planPartsUptoRow.holds Try.pinned (OpenSpec.upto planPartsSpec)

/-- 'freshetlaw09.PlanWraps', WHERE WHAT IT READS IS OF BULK AT MOST 1048576: true; the input reads as it did. -/
def planWrapsUptoRow : OpenClaim := { program := "ytjidjpmdmcleoaa", sum := "58d387a76a2148f8eb0e3035254942f73062c5e2318bdf9e98ec49519d57df54", func := "freshet/freshetlaw09.PlanWraps", spec := "planWraps", unfollowed := true, recurses := true, loops := true, apart := false, narrowed := true }
def PlanWrapsUptoSaid : Prop := planWrapsUptoRow.holds Try.pinned (OpenSpec.upto planWrapsSpec)

/-- 'freshetlaw09.PlanLoops', WHERE WHAT IT READS IS OF BULK AT MOST 1048576: true; the input reads as it did. -/
def planLoopsUptoRow : OpenClaim := { program := "ytjidjpmdmcleoaa", sum := "58d387a76a2148f8eb0e3035254942f73062c5e2318bdf9e98ec49519d57df54", func := "freshet/freshetlaw09.PlanLoops", spec := "planLoops", unfollowed := true, recurses := true, loops := true, apart := false, narrowed := true }
def PlanLoopsUptoSaid : Prop := planLoopsUptoRow.holds Try.pinned (OpenSpec.upto planLoopsSpec)

end Rows
end Go.Proofs.Ytjidjpmdmcleoaa
