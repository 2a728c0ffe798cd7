/- Plain facts on times: an epoch and two rounds; orders, bounds. -/
import Derived.Test.YtpfjeibhklacbaaGen
namespace Go.Proofs.Ytpfjeibhklacbaa
open Go Go.RowKit

/-- a time -/
structure Tm where
  e : Nat
  a : Nat
  b : Nat
  deriving DecidableEq, Inhabited

namespace Tm
def cells (t : Tm) : List Value := [.int .u64 (t.e : Int), .int .u64 (t.a : Int), .int .u64 (t.b : Int)]
def val (t : Tm) : Value := .agg #[.int .u64 (t.e : Int), .int .u64 (t.a : Int), .int .u64 (t.b : Int)]
def le (s t : Tm) : Bool := decide (s.e ≤ t.e) && (decide (s.a ≤ t.a) && decide (s.b ≤ t.b))
def cmpN (x y : Nat) : Int := if x < y then -1 else if y < x then 1 else 0
def cmp (s t : Tm) : Int := if s.e ≠ t.e then cmpN s.e t.e else if s.a ≠ t.a then cmpN s.a t.a else cmpN s.b t.b
def sup (s t : Tm) : Tm := ⟨max s.e t.e, max s.a t.a, max s.b t.b⟩
def inf (s t : Tm) : Tm := ⟨min s.e t.e, min s.a t.a, min s.b t.b⟩
theorem le_iff {s t : Tm} : s.le t = true ↔ s.e ≤ t.e ∧ s.a ≤ t.a ∧ s.b ≤ t.b := by simp [le]
end Tm
end Go.Proofs.Ytpfjeibhklacbaa
