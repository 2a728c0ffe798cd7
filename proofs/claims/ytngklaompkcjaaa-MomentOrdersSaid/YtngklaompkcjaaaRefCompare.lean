/- The reference's Compare is the linear order of times. -/
import Derived.Test.YtngklaompkcjaaaEach
import Derived.Handy
namespace Go.Proofs.Ytngklaompkcjaaa
open Go Go.RowKit

set_option maxRecDepth 100000 in
set_option maxHeartbeats 800000 in
theorem refCompare_any (s t : Tm) (w : World) :
    Calls Try.prog 17 #[s.val, t.val] w fun e w' => e = .returned (.int .i64 (s.cmp t)) ∧ Below w.heap.size w w' := by
  obtain ⟨a, b, c⟩ := s
  obtain ⟨x, y, z⟩ := t
  unfold Tm.val
  dsimp only
  have i0 : ∀ w, (Instr.index 23 (.agg #[.int .u64 (b : Int), .int .u64 (c : Int)]) (.int .i64 0)).run Try.prog w = .ok (.int .u64 (b : Int)) w := fun _ => by kernel_rfl
  have i1 : ∀ w, (Instr.index 23 (.agg #[.int .u64 (b : Int), .int .u64 (c : Int)]) (.int .i64 1)).run Try.prog w = .ok (.int .u64 (c : Int)) w := fun _ => by kernel_rfl
  have HB := Lib.hid (fun (o1 o2 : Obj) => (((Below.refl w.heap.size w).alloc (Nat.le_refl _) o1).alloc (by simp) o2))
  go_enter Try.func17, Try.ntmps17
  go_wp2_with fail
  all_goals try (go_rounds 3)
  all_goals
    go_ret
    refine ⟨ret_i64 ?_, HB.out _ _⟩
    unfold Tm.cmp Tm.cmpN
    dsimp only
    repeat' split
    all_goals first | rfl | omega | (simp_all; done) | (simp_all; omega)
end Go.Proofs.Ytngklaompkcjaaa
