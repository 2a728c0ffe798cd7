/- The walk of the law on orders. -/
import Derived.Test.YtngklaompkcjaaaKeep
import Derived.Test.YtngklaompkcjaaaRefAhead
import Derived.Test.YtngklaompkcjaaaRefCompare
import Derived.Test.YtngklaompkcjaaaCheck
namespace Go.Proofs.Ytngklaompkcjaaa
open Go Go.RowKit
attribute [local go_sem ↓] Go.wp_at_zero Go.wp_at_succ

set_option maxRecDepth 100000 in
set_option maxHeartbeats 3200000 in
theorem orders_walk (s t : Tm) (A : Option Addr) (c : Nat) (l : List Tm) (w : World) (hl : Times w w.heap.size A l) (hc : l.length ≤ c) (hn : l.length * 24 ≤ 140737488351232) (hm : c ≤ maxLen) :
    Calls Try.prog 3 #[s.val, t.val, .slice A l.length c] w fun e w' => e = .returned (.bool true) ∧ Below w.heap.size w w' := by
  have a1 := fun W => Lib.hid (ahead_any s t W)
  have a2 := fun W => Lib.hid (refAhead_any s t W)
  have a3 := fun W => Lib.hid (compare_any s t W)
  have a4 := fun W => Lib.hid (refCompare_any s t W)
  have a5 := fun W h => Lib.hid (check_any A c l W h (by unfold maxLen; omega))
  have a6 := fun W h => Lib.hid (refCheck_any A c l W h (by unfold maxLen; omega))
  generalize s.le t = p at a1 a2
  generalize s.cmp t = r at a3 a4
  generalize chk l = q at a5 a6
  unfold Tm.val at *
  have Hl := Lib.hid hl
  clear hl hm
  go_enter Try.func3, Try.ntmps3
  go_wp2_with fail
  obtain ⟨W, hW, fb, f0, f1⟩ := boxes2 w s t
  rw [← hW]
  have HX := Lib.hid (And.intro f0 f1)
  have HF := Lib.hid fb
  have HL := Lib.hid (times_keep Hl.out fb)
  clear hW fb f0 f1
  go_region_held3 (fun w' => Below W.heap.size W w' ∧ w'.cell? ⟨w.heap.size, 0, none⟩ = some (.int .u64 (s.e : Int)) ∧ w'.cell? ⟨w.heap.size, 1, none⟩ = some (.int .u64 (s.a : Int)) ∧ w'.cell? ⟨w.heap.size, 2, none⟩ = some (.int .u64 (s.b : Int)) ∧
      w'.cell? ⟨w.heap.size + 1, 0, none⟩ = some (.int .u64 (t.e : Int)) ∧ w'.cell? ⟨w.heap.size + 1, 1, none⟩ = some (.int .u64 (t.a : Int)) ∧ w'.cell? ⟨w.heap.size + 1, 2, none⟩ = some (.int .u64 (t.b : Int)))
    ((refine keepB2 HX.out.1 HX.out.2 ?_; repeat (first | exact Below.refl _ _ | (apply And.left; assumption) | refine below_new ?_ _ | refine Below.drew ?_ | refine belows ?_ hb)))
    (first | (go_at_call 13; refine (orders_true _).mono ?_; rintro e w' ⟨rfl, hb⟩) | (go_at_call 14; refine (a1 _).out.mono ?_; rintro e w' ⟨rfl, hb⟩) | (go_at_call 15; refine (a2 _).out.mono ?_; rintro e w' ⟨rfl, hb⟩) | (go_at_call 16; refine (a3 _).out.mono ?_; rintro e w' ⟨rfl, hb⟩) | (go_at_call 17; refine (a4 _).out.mono ?_; rintro e w' ⟨rfl, hb⟩) | (go_at_call 18; refine (a5 _ ?_).out.mono ?_; (refine times_keep HL.out ?_; apply And.left; assumption); rintro e w' ⟨rfl, hb⟩) | (go_at_call 19; refine (a6 _ ?_).out.mono ?_; (refine times_keep HL.out ?_; apply And.left; assumption); rintro e w' ⟨rfl, hb⟩))
  all_goals
    go_wp2_with fail
    go_ret
    refine ⟨rfl, HF.out.trans (Below.mono (B := W.heap.size) ?_ HF.out.size)⟩
    repeat (first | exact Below.refl _ _ | (apply And.left; assumption) | refine below_new ?_ _ | refine Below.drew ?_ | refine belows ?_ hb)
end Go.Proofs.Ytngklaompkcjaaa
