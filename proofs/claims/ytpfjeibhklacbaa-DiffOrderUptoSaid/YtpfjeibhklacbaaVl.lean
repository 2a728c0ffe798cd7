/- Plain facts on values and rows: their order, and which are right. -/
import Derived.Test.YtpfjeibhklacbaaGen
import Derived.Lib.Bytealg
namespace Go.Proofs.Ytpfjeibhklacbaa
open Go Go.RowKit

/-- a value -/
structure Vl where
  t : Bool
  n : Int
  s : ByteArray

namespace Vl
def cells (v : Vl) : List Value := [.bool v.t, .int .i64 v.n, .string v.s]
def val (v : Vl) : Value := .agg #[.bool v.t, .int .i64 v.n, .string v.s]
def right (v : Vl) : Bool := if v.t then v.n == 0 && decide (v.s.size ≤ 64) else v.s.data.toList.isEmpty
def cmpI (x y : Int) : Int := if x < y then -1 else if y < x then 1 else 0
def cmp (a b : Vl) : Int := if a.t then (if b.t then Lib.compareBytes a.s.data.toList b.s.data.toList else 1) else if b.t then -1 else cmpI a.n b.n
end Vl
/-- the order of rows -/
def cmpRows : List Vl → List Vl → Int
  | [], [] => 0
  | [], _ :: _ => -1
  | _ :: _, [] => 1
  | x :: a, y :: b => if x.cmp y = 0 then cmpRows a b else x.cmp y
end Go.Proofs.Ytpfjeibhklacbaa
