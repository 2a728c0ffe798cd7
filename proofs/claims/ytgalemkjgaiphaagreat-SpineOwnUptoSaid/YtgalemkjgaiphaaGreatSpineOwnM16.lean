/- Part 16 of the texts on which SpineOwn rests: facts and contracts. -/
import Derived.Test.YtgalemkjgaiphaaGreatSpineOwnM15
import Derived.Deep.RegionHeld3
import Derived.Deep.Onto
namespace Go.Proofs.YtgalemkjgaiphaaGreat
open Go Go.RowKit

end Go.Proofs.YtgalemkjgaiphaaGreat
namespace Go.Proofs.YtgalemkjgaiphaaGreat
open Go Go.RowKit Go.Sort Go.Lib

end Go.Proofs.YtgalemkjgaiphaaGreat
namespace Go.Proofs.YtgalemkjgaiphaaGreat
open Go Go.RowKit

def supTo (t : Tm) (l : List Tm) (k : Nat) : List Tm := (l.take k).map (t.sup ·)
end Go.Proofs.YtgalemkjgaiphaaGreat
namespace Go.Proofs.YtgalemkjgaiphaaGreat
open Go Go.RowKit

end Go.Proofs.YtgalemkjgaiphaaGreat
namespace Go.Proofs.YtgalemkjgaiphaaGreat
open Go Go.RowKit

def beyB (l : List Tm) (t : Tm) : Bool := l.any fun u => u.le t
end Go.Proofs.YtgalemkjgaiphaaGreat
namespace Go.Proofs.YtgalemkjgaiphaaGreat
open Go Go.RowKit

end Go.Proofs.YtgalemkjgaiphaaGreat
namespace Go.Proofs.YtgalemkjgaiphaaGreat
open Go Go.RowKit

def BuiltR (f : List Tm) (l : List Up) (w : World) (x : Ending) (w' : World) : Prop :=
  ∃ b : Bt, x = .returned (.tuple #[b.val, .int .i64 (bldE f l)]) ∧ (bldE f l = 0 → FrontOk f ∧ b.f = f ∧ b.l.map Up.p = consL [advL f l]) ∧ (bldE f l ≠ 0 → b = Bt.nil) ∧ BtIn w' w'.heap.size b ∧ BtOk b ∧ Below w.heap.size w w'
end Go.Proofs.YtgalemkjgaiphaaGreat
namespace Go.Proofs.YtgalemkjgaiphaaGreat
open Go Go.RowKit

def grpF (l : List Up) (k : List Vl) : List Up := l.filter fun u => decide (cmpRows u.key k = 0)
def SeekR (b : Bt) (key : List Vl) (w : World) (x : Ending) (w' : World) : Prop :=
  ∃ (n : Nat) (E : Int), x = .returned (.tuple #[.int .i64 (n : Int), .int .i64 E]) ∧ (BatchOk b.f b.l ∧ n = seekB b.l key ∧ E = 0 ∨ ¬ BatchOk b.f b.l ∧ n = 0 ∧ E = 4) ∧ Below w.heap.size w w'
def GroupR (b : Bt) (key : List Vl) (w : World) (x : Ending) (w' : World) : Prop :=
  ∃ (A : Option Addr) (c : Nat) (outL : List Up) (E : Int), x = .returned (.tuple #[.slice A outL.length c, .int .i64 E]) ∧ (BatchOk b.f b.l ∧ outL.map Up.p = (groupB b.l key).map Up.p ∧ E = 0 ∨ ¬ BatchOk b.f b.l ∧ outL = [] ∧ E = 4) ∧ Ups w' w'.heap.size A outL ∧ UsOk outL ∧ Below w.heap.size w w'
end Go.Proofs.YtgalemkjgaiphaaGreat
namespace Go.Proofs.YtgalemkjgaiphaaGreat
open Go Go.RowKit

structure CutB (l : List Up) (i : Int) (o : List Up) : Prop where
  lo : 0 ≤ i
  hi : i ≤ l.length
  side : ∀ x y, 0 < i → l[i.toNat - 1]? = some x → l[i.toNat]? = some y → plc x y ≠ 0
  past : ∀ z y, o[o.length - 1]? = some z → l[i.toNat]? = some y → plc z y < 0
-- CUT
end Go.Proofs.YtgalemkjgaiphaaGreat
