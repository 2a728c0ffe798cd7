/- '==' and '!=' on rounds and on times, as the model runs them. -/
import Derived.Test.YtpfjeibhklacbaaProg
import Derived.Test.YtpfjeibhklacbaaTm
import Derived.Laws.StructEq
import Derived.WalkSpells
namespace Go.Proofs.Ytpfjeibhklacbaa
open Go Go.RowKit

theorem eqIn_rounds (d : Nat) (a b c e : Int) (w : World) : (Op.equalIn (d + 2) 34 (.agg #[.int .u64 a, .int .u64 b]) (.agg #[.int .u64 c, .int .u64 e])).run Try.prog w = .ok ((a == c) && (b == e)) w := by
  have u := Try.underlying34
  have u1 := Try.underlying33
  have z1 := Try.sizeOf33
  have a1 := Try.isAgg33
  unfold Op.equalIn
  simp only [Sem.run_bind, run_underlying u, Result.andThen_ok, z1]
  by_cases h1 : a = c <;> by_cases h2 : b = e <;>
    simp [h1, h2, part, a1, z1, run_equalIn_int w _ _ _ _ _ _ u1, Std.Legacy.Range.forIn_eq_forIn_range', Std.Legacy.Range.size, List.range', go_sem]
theorem eql_rounds (a b c e : Int) (w : World) : (binOp .eql 34 (.agg #[.int .u64 a, .int .u64 b]) (.agg #[.int .u64 c, .int .u64 e])).run Try.prog w = .ok (.bool ((a == c) && (b == e))) w := by
  rw [run_eql_struct, show (10000 : Nat) = 9998 + 2 from rfl, eqIn_rounds]; rfl
theorem grd_rounds (op : BinOp) (x y : Operand) (xs ys : Array Value) (w : World) : (eqGuard op 34 x y (.agg xs) (.agg ys)).run Try.prog w = .ok () w := run_eqGuard_agg w op _ x y xs ys (by kernel_rfl)
theorem grd_time (op : BinOp) (x y : Operand) (xs ys : Array Value) (w : World) : (eqGuard op 36 x y (.agg xs) (.agg ys)).run Try.prog w = .ok () w := run_eqGuard_agg w op _ x y xs ys (by kernel_rfl)
def eqT (s t : Tm) : Bool := (s.e == t.e) && ((s.a == t.a) && (s.b == t.b))
theorem eqT_iff {s t : Tm} : eqT s t = true ↔ s = t := by
  cases s; cases t; simp [eqT]
theorem eqT_decide (s t : Tm) : eqT s t = decide (s = t) := by
  rw [Bool.eq_iff_iff, eqT_iff]; simp
theorem eqIn_time (s t : Tm) (w : World) : (Op.equalIn 10000 36 s.val t.val).run Try.prog w = .ok (eqT s t) w := by
  have u1 := Try.underlying33
  have z1 := Try.sizeOf33
  have a1 := Try.isAgg33
  have z2 := Try.sizeOf34
  have a2 := Try.isAgg34
  have hS : Try.prog.underlying 36 = some (.struct (Try.prog.fieldsOf 36)) := by kernel_rfl
  have hp : Try.prog.stoodInHeld 36 = false := by kernel_rfl
  unfold Tm.val
  rw [show (10000 : Nat) = 9996 + 1 + 2 + 1 from rfl, run_equalIn_agg w _ _ _ _ hS hp]
  simp only [Program.fieldsOf, Try.underlying36, eqT]
  have i0 : ∀ x y : Nat, ((x : Int) = (y : Int)) = (x = y) := fun x y => by simp; omega
  by_cases h1 : s.e = t.e
  · simp [Op.eqFields, part, a1, a2, z1, z2, h1, i0, run_equalIn_int w _ _ _ _ _ _ u1, go_sem]
    rw [show (9999 : Nat) = 9997 + 2 from rfl, eqIn_rounds]
    cases hq : ((s.a : Int) == (t.a : Int)) && ((s.b : Int) == (t.b : Int)) <;> simp_all
  · have h2 : (s.e == t.e) = false := by simpa using h1
    simp [Op.eqFields, part, a1, a2, z1, z2, h1, h2, i0, run_equalIn_int w _ _ _ _ _ _ u1, go_sem]
theorem eql_time (s t : Tm) (w : World) : (binOp .eql 36 s.val t.val).run Try.prog w = .ok (.bool (eqT s t)) w := by
  have h := eqIn_time s t w
  unfold Tm.val at h ⊢
  rw [run_eql_struct, h]; rfl
theorem neq_time (s t : Tm) (w : World) : (binOp .neq 36 s.val t.val).run Try.prog w = .ok (.bool (!eqT s t)) w := by
  have h := eqIn_time s t w
  unfold Tm.val at h ⊢
  rw [run_neq_struct, h]; rfl
end Go.Proofs.Ytpfjeibhklacbaa
