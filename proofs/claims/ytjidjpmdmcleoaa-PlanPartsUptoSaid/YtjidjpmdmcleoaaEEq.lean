/- Two values are one: the language's own comparison. -/
import Derived.Test.YtjidjpmdmcleoaaVQuiet
import Derived.Laws.StructEq
import Derived.WalkSpells
import Derived.BigQuiet
namespace Go.Proofs.Ytjidjpmdmcleoaa
open Go Go.RowKit

instance : DecidableEq Vl := fun a b => decidable_of_iff (a.t = b.t ∧ a.n = b.n ∧ a.s = b.s) ⟨fun ⟨h1, h2, h3⟩ => by cases a; cases b; simp_all, fun h => by subst h; exact ⟨rfl, rfl, rfl⟩⟩
theorem grd_val (op : BinOp) (x y : Operand) (xs ys : Array Value) (w : World) : (eqGuard op 24 x y (.agg xs) (.agg ys)).run Try.prog w = .ok () w := run_eqGuard_agg w op _ x y xs ys (by kernel_rfl)
def eqV (x y : Vl) : Bool := (x.t == y.t) && ((x.n == y.n) && (x.s.toList == y.s.toList))
theorem eqV_iff {x y : Vl} : eqV x y = true ↔ x = y := by
  obtain ⟨a, b, c⟩ := x
  obtain ⟨a', b', c'⟩ := y
  simp only [eqV, Bool.and_eq_true, beq_iff_eq, Vl.mk.injEq]
  refine ⟨fun ⟨h1, h2, h3⟩ => ⟨h1, h2, ?_⟩, fun ⟨h1, h2, h3⟩ => ⟨h1, h2, by rw [h3]⟩⟩
  rw [ByteArray.toList_eq, ByteArray.toList_eq] at h3
  cases c; cases c'; simp only at h3; congr 1; exact Array.toList_inj.1 h3
theorem eqIn_val (x y : Vl) (w : World) : (Op.equalIn 10000 24 x.val y.val).run Try.prog w = .ok (eqV x y) w := by
  have u0 := Try.underlying4
  have u1 := Try.underlying2
  have u2 := Try.underlying9
  have z0 := Try.sizeOf4
  have a0 := Try.isAgg4
  have z1 := Try.sizeOf2
  have a1 := Try.isAgg2
  have z2 := Try.sizeOf9
  have a2 := Try.isAgg9
  have hS : Try.prog.underlying 24 = some (.struct (Try.prog.fieldsOf 24)) := by kernel_rfl
  have hp : Try.prog.stoodInHeld 24 = false := by kernel_rfl
  unfold Vl.val
  rw [show (10000 : Nat) = 9998 + 1 + 1 from rfl, run_equalIn_agg w _ _ _ _ hS hp]
  simp only [Program.fieldsOf, Try.underlying24, eqV]
  cases h0 : (x.t == y.t) <;> cases h1 : (x.n == y.n) <;>
    simp [Op.eqFields, part, a0, a1, a2, z0, z1, z2, h0, h1, run_equalIn_bool' w _ _ _ _ u0, run_equalIn_int w _ _ _ _ _ _ u1, run_equalIn_string w _ _ _ _ u2, go_sem]
  all_goals (split <;> simp_all)
theorem neq_val (x y : Vl) (w : World) : (binOp .neq 24 x.val y.val).run Try.prog w = .ok (.bool (!eqV x y)) w := by
  have h := eqIn_val x y w
  unfold Vl.val at h ⊢
  rw [run_neq_struct, h]; rfl
theorem eql_val (x y : Vl) (w : World) : (binOp .eql 24 x.val y.val).run Try.prog w = .ok (.bool (eqV x y)) w := by
  have h := eqIn_val x y w
  unfold Vl.val at h ⊢
  rw [run_eql_struct, h]; rfl
end Go.Proofs.Ytjidjpmdmcleoaa
