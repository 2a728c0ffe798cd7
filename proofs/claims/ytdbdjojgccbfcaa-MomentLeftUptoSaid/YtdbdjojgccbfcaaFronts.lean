/- What the law asks of frontiers at fixed times. -/
import Derived.Test.YtdbdjojgccbfcaaFront
import Derived.Test.YtdbdjojgccbfcaaAt
import Derived.Test.YtdbdjojgccbfcaaAdvance
import Derived.Handy
namespace Go.Proofs.Ytdbdjojgccbfcaa
open Go Go.RowKit
attribute [local go_sem ↓] Go.wp_at_zero Go.wp_at_succ

theorem sort_fixed : sortT [⟨2, 0, 1⟩, ⟨1, 0, 2⟩, ⟨3, 0, 2⟩] = [⟨1, 0, 2⟩, ⟨2, 0, 1⟩, ⟨3, 0, 2⟩] := by
  simp [sortT, List.mergeSort, List.MergeSort.Internal.splitInTwo, List.merge, ltT]
theorem front_fixed : frontL [⟨2, 0, 1⟩, ⟨1, 0, 2⟩, ⟨3, 0, 2⟩] = [⟨1, 0, 2⟩, ⟨2, 0, 1⟩] := by
  unfold frontL; rw [sort_fixed]; decide
theorem below_new {a b : World} (h : Below a.heap.size a b) (o : Obj) : Below a.heap.size a (b.alloc o) := h.alloc h.size o
theorem times_one' {w : World} {N : Nat} (s : Tm) (hN : w.heap.size = N) : Times (w.alloc (.cells #[.int .u64 (s.e : Int), .int .u64 (s.a : Int), .int .u64 (s.b : Int)] 26)) (N + 1) (some ⟨N, 0, none⟩) [s] := hN ▸ times_one w s
theorem keep3 {a b : World} {g o : Nat} {x y z : Value} (hB : g < a.heap.size) (h0 : a.cell? ⟨g, o, none⟩ = some x) (h1 : a.cell? ⟨g, o + 1, none⟩ = some y) (h2 : a.cell? ⟨g, o + 2, none⟩ = some z) (h : Below a.heap.size a b) :
    Below a.heap.size a b ∧ b.cell? ⟨g, o, none⟩ = some x ∧ b.cell? ⟨g, o + 1, none⟩ = some y ∧ b.cell? ⟨g, o + 2, none⟩ = some z :=
  ⟨h, (h.cell (p := ⟨g, o, none⟩) hB).trans h0, (h.cell (p := ⟨g, o + 1, none⟩) hB).trans h1, (h.cell (p := ⟨g, o + 2, none⟩) hB).trans h2⟩
theorem times_lit3 {w : World} {N : Nat} (s t u : Tm) (hN : w.heap.size = N) : Times (w.alloc (.cells #[.int .u64 (s.e : Int), .int .u64 (s.a : Int), .int .u64 (s.b : Int), .int .u64 (t.e : Int), .int .u64 (t.a : Int), .int .u64 (t.b : Int), .int .u64 (u.e : Int), .int .u64 (u.a : Int), .int .u64 (u.b : Int)] 26)) (N + 1) (some ⟨N, 0, none⟩) [s, t, u] := by
  subst hN
  intro _
  refine ⟨_, _, rfl, by omega, fun i x hx => ?_⟩
  match i, hx with
  | 0, hx => obtain rfl : s = x := by simpa using hx
             exact ⟨by simp [go_sem], by simp [go_sem], by simp [go_sem]⟩
  | 1, hx => obtain rfl : t = x := by simpa using hx
             exact ⟨by simp [go_sem], by simp [go_sem], by simp [go_sem]⟩
  | 2, hx => obtain rfl : u = x := by simpa using hx
             exact ⟨by simp [go_sem], by simp [go_sem], by simp [go_sem]⟩

set_option maxRecDepth 100000 in
set_option maxHeartbeats 1600000 in
theorem fronts_true (w : World) : Calls Try.prog 5 #[] w fun e w' => e = .returned (.bool true) ∧ Below w.heap.size w w' := by
  have k1 := fun W => Lib.hid (at_any 2 0 1 W)
  have k2 := fun W => Lib.hid (at_any 1 0 2 W)
  have k3 := fun W => Lib.hid (at_any 3 0 2 W)
  have hfr := fun A W h => Lib.hid (front_any A 3 [⟨2, 0, 1⟩, ⟨1, 0, 2⟩, ⟨3, 0, 2⟩] W h (by simp))
  rw [front_fixed] at hfr
  unfold Tm.val at k1 k2 k3
  go_enter Try.func5, Try.ntmps5
  go_wp2_with fail
  refine (k1 _).out.mono ?_
  rintro e w1 ⟨rfl, b1⟩
  go_wp2_with fail
  refine (k2 _).out.mono ?_
  rintro e w2 ⟨rfl, b2⟩
  go_wp2_with fail
  refine (k3 _).out.mono ?_
  rintro e w3 ⟨rfl, b3⟩
  go_wp2_with fail
  refine (hfr _ _ (times_here (times_lit3 ⟨2, 0, 1⟩ ⟨1, 0, 2⟩ ⟨3, 0, 2⟩ rfl) (by simp))).out.mono ?_
  rintro e w4 ⟨v, rfl, ho, b4⟩
  have hb : Below w.heap.size w w4 := belows b1 (belows b2 (belows b3 (below_then ((Below.refl _ _).alloc (Nat.le_refl _) _) (by simp) b4)))
  obtain ⟨A, c, rfl, hc, hcm, ht⟩ := times_of_own (l := [⟨1, 0, 2⟩, ⟨2, 0, 1⟩]) rfl ho
  have HB := Lib.hid (And.intro hb ht)
  obtain ⟨b, o, rfl, hB, hx⟩ := ht (by simp)
  obtain ⟨c0, c1, c2⟩ := hx 0 ⟨1, 0, 2⟩ rfl
  clear b1 b2 b3 b4 ho hb ht hx k1 k2 k3 hfr
  have eq1 : ∀ W, (binOp .eql 26 (.agg #[.int .u64 1, .int .u64 0, .int .u64 2]) (.agg #[.int .u64 1, .int .u64 0, .int .u64 2])).run Try.prog W = .ok (.bool true) W := fun W => eql_time (Tm.mk 1 0 2) (Tm.mk 1 0 2) W
  have eq3 : ∀ W, (binOp .eql 26 (.agg #[.int .u64 3, .int .u64 0, .int .u64 0]) (.agg #[.int .u64 3, .int .u64 0, .int .u64 0])).run Try.prog W = .ok (.bool true) W := fun W => eql_time (Tm.mk 3 0 0) (Tm.mk 3 0 0) W
  have hgd := fun (x1 y1 : Operand) (xs ys : Array Value) (w : World) => grd_time .eql x1 y1 xs ys w
  have k2 : ∀ W, Hid (Calls Try.prog 13 #[.int .u64 1, .int .u64 0, .int .u64 2] W fun e w' => e = .returned (.agg #[.int .u64 1, .int .u64 0, .int .u64 2]) ∧ Below W.heap.size W w') := fun W => Lib.hid (at_any 1 0 2 W)
  have k202 : ∀ W, Hid (Calls Try.prog 13 #[.int .u64 2, .int .u64 0, .int .u64 2] W fun e w' => e = .returned (.agg #[.int .u64 2, .int .u64 0, .int .u64 2]) ∧ Below W.heap.size W w') := fun W => Lib.hid (at_any 2 0 2 W)
  have k190 : ∀ W, Hid (Calls Try.prog 13 #[.int .u64 1, .int .u64 9, .int .u64 0] W fun e w' => e = .returned (.agg #[.int .u64 1, .int .u64 9, .int .u64 0]) ∧ Below W.heap.size W w') := fun W => Lib.hid (at_any 1 9 0 W)
  have k100 : ∀ W, Hid (Calls Try.prog 13 #[.int .u64 1, .int .u64 0, .int .u64 0] W fun e w' => e = .returned (.agg #[.int .u64 1, .int .u64 0, .int .u64 0]) ∧ Below W.heap.size W w') := fun W => Lib.hid (at_any 1 0 0 W)
  have k300 : ∀ W, Hid (Calls Try.prog 13 #[.int .u64 3, .int .u64 0, .int .u64 0] W fun e w' => e = .returned (.agg #[.int .u64 3, .int .u64 0, .int .u64 0]) ∧ Below W.heap.size W w') := fun W => Lib.hid (at_any 3 0 0 W)
  have y1 : ∀ W, Times W W.heap.size (some ⟨b, o, none⟩) [⟨1, 0, 2⟩, ⟨2, 0, 1⟩] → Hid (Calls Try.prog 9 #[.slice (some ⟨b, o, none⟩) 2 c, .agg #[.int .u64 2, .int .u64 0, .int .u64 2]] W fun e w' => e = .returned (.bool true) ∧ Below W.heap.size W w') :=
    fun W h => Lib.hid (beyond_any (some ⟨b, o, none⟩) c [⟨1, 0, 2⟩, ⟨2, 0, 1⟩] ⟨2, 0, 2⟩ W h (by unfold maxLen; simp))
  have y2 : ∀ W, Times W W.heap.size (some ⟨b, o, none⟩) [⟨1, 0, 2⟩, ⟨2, 0, 1⟩] → Hid (Calls Try.prog 9 #[.slice (some ⟨b, o, none⟩) 2 c, .agg #[.int .u64 1, .int .u64 9, .int .u64 0]] W fun e w' => e = .returned (.bool false) ∧ Below W.heap.size W w') :=
    fun W h => Lib.hid (beyond_any (some ⟨b, o, none⟩) c [⟨1, 0, 2⟩, ⟨2, 0, 1⟩] ⟨1, 9, 0⟩ W h (by unfold maxLen; simp))
  have y3 : ∀ A W, Times W W.heap.size A [⟨3, 0, 0⟩] → Hid (Calls Try.prog 11 #[.agg #[.int .u64 1, .int .u64 0, .int .u64 0], .slice A 1 1] W fun e w' => e = .returned (.agg #[.int .u64 3, .int .u64 0, .int .u64 0]) ∧ Below W.heap.size W w') :=
    fun A W h => Lib.hid (advance_any ⟨1, 0, 0⟩ A 1 [⟨3, 0, 0⟩] W h (by simp) (by unfold maxLen; omega))
  go_wp2_with fail
  have x0 := c0
  rw [Nat.zero_mul, Nat.add_zero] at x0 c1 c2
  have HX := Lib.hid (And.intro x0 (And.intro c1 c2))
  clear c0 x0 c1 c2
  go_region_held3 (fun w' => Below w4.heap.size w4 w' ∧ w'.cell? ⟨b, o, none⟩ = some (.int .u64 1) ∧ w'.cell? ⟨b, o + 1, none⟩ = some (.int .u64 0) ∧ w'.cell? ⟨b, o + 2, none⟩ = some (.int .u64 2))
    (first | (refine keep3 hB HX.out.1 HX.out.2.1 HX.out.2.2 ?_; repeat (first | exact Below.refl _ _ | (apply And.left; assumption) | refine below_new ?_ _ | refine Below.drew ?_ | refine belows ?_ hb)))
    (first | ((go_at_call 13; (first | (with_reducible refine (k2 _).out.mono ?_) | (with_reducible refine (k202 _).out.mono ?_) | (with_reducible refine (k190 _).out.mono ?_) | (with_reducible refine (k100 _).out.mono ?_) | (with_reducible refine (k300 _).out.mono ?_)); rintro e w' ⟨rfl, hb⟩)) | (go_at_call 9; (first | (with_reducible refine (y1 _ ?_).out.mono ?_) | (with_reducible refine (y2 _ ?_).out.mono ?_)); (refine times_keep HB.out.2 ?_; apply And.left; assumption); rintro e w' ⟨rfl, hb⟩) | (go_at_call 11; refine (y3 _ _ ?_).out.mono ?_; (exact times_here (times_one' ⟨3, 0, 0⟩ (by simp)) (by simp)); rintro e w' ⟨rfl, hb⟩))
  all_goals
    go_wp2_with fail
    go_ret
    refine ⟨rfl, HB.out.1.trans (Below.mono (B := w4.heap.size) ?_ HB.out.1.size)⟩
    repeat (first | exact Below.refl _ _ | (apply And.left; assumption) | refine below_new ?_ _ | refine Below.drew ?_ | refine belows ?_ hb)
end Go.Proofs.Ytdbdjojgccbfcaa
