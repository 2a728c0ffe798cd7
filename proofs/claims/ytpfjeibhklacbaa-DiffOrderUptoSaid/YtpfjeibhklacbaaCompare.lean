/- Compare is the linear order of times; it lays blocks of its own, and turns nothing. -/
import Derived.Test.YtpfjeibhklacbaaEach
import Derived.Handy
import Derived.Sort.Grow
namespace Go.Proofs.Ytpfjeibhklacbaa
open Go Go.RowKit Go.Sort Go.Lib
attribute [local go_sem ↓] Go.wp_at_zero Go.wp_at_succ

set_option maxRecDepth 100000 in
set_option maxHeartbeats 400000 in
theorem nan_any (x : Nat) (w : World) :
    Calls Try.prog 70 #[.int .u64 (x : Int)] w fun e w' => e = .returned (.bool false) ∧ w = w' := by
  go_enter Try.func70, Try.ntmps70
  go_wp2_with fail
  go_ret
  exact ⟨ret_bool (by simp), rfl⟩

set_option maxRecDepth 100000 in
set_option maxHeartbeats 800000 in
theorem cmpNat_any (x y : Nat) (w : World) :
    Calls Try.prog 57 #[.int .u64 (x : Int), .int .u64 (y : Int)] w fun e w' => e = .returned (.int .i64 (Tm.cmpN x y)) ∧ w = w' := by
  go_enter Try.func57, Try.ntmps57
  go_wp2_with (go_at_call 70; refine (nan_any _ _).mono ?_; rintro e w' ⟨rfl, rfl⟩)
  all_goals
    go_ret
    refine ⟨ret_i64 ?_, rfl⟩
    unfold Tm.cmpN
    repeat' split
    all_goals first | rfl | omega

/-- the first of two that is not 0 -/
def orI (x y : Int) : Int := if x = 0 then y else x

set_option maxRecDepth 100000 in
set_option maxHeartbeats 800000 in
theorem or_any (g : Nat) (x y : Int) (w : World) (h0 : w.cell? ⟨g, 0, none⟩ = some (.int .i64 x)) (h1 : w.cell? ⟨g, 1, none⟩ = some (.int .i64 y)) :
    Calls Try.prog 56 #[.slice (some ⟨g, 0, none⟩) 2 2] w fun e w' => e = .returned (.int .i64 (orI x y)) ∧ w = w' := by
  go_enter Try.func56, Try.ntmps56
  go_wp2_with fail
  go_rounds 3
  all_goals
    go_ret
    refine ⟨ret_i64 ?_, rfl⟩
    unfold orI
    simp_all

set_option maxRecDepth 100000 in
set_option maxHeartbeats 800000 in
theorem cmpRounds_any (g o h p : Nat) (a b x y : Nat) (w : World) (h0 : w.cell? ⟨g, o, none⟩ = some (.int .u64 (a : Int))) (h1 : w.cell? ⟨g, o + 1, none⟩ = some (.int .u64 (b : Int)))
    (k0 : w.cell? ⟨h, p, none⟩ = some (.int .u64 (x : Int))) (k1 : w.cell? ⟨h, p + 1, none⟩ = some (.int .u64 (y : Int))) :
    Calls Try.prog 58 #[.slice (some ⟨g, o, none⟩) 2 2, .slice (some ⟨h, p, none⟩) 2 2] w fun e w' => e = .returned (.int .i64 (orI (Tm.cmpN a x) (Tm.cmpN b y))) ∧ w = w' := by
  go_enter Try.func58, Try.ntmps58
  go_wp2_with fail
  refine wp_loop_rounds 3 ?_
  rw [rounds_succ]
  go_wp2_with (go_at_call 57; refine (cmpNat_any _ _ _).mono ?_; rintro e w' ⟨rfl, rfl⟩)
  · go_ret
    exact ⟨ret_i64 (by unfold orI; simp_all), rfl⟩
  · rw [rounds_succ]
    go_wp2_with (go_at_call 57; refine (cmpNat_any _ _ _).mono ?_; rintro e w' ⟨rfl, rfl⟩)
    · go_ret
      exact ⟨ret_i64 (by unfold orI; simp_all), rfl⟩
    · rw [rounds_succ]
      go_wp2_with fail
      go_ret
      exact ⟨ret_i64 (by unfold orI; simp_all), rfl⟩

theorem cmp_or (s t : Tm) : orI (Tm.cmpN s.e t.e) (orI (Tm.cmpN s.a t.a) (Tm.cmpN s.b t.b)) = s.cmp t := by
  have h : ∀ x y, Tm.cmpN x y = 0 ↔ x = y := fun x y => by unfold Tm.cmpN; repeat' split
                                                           all_goals omega
  unfold orI Tm.cmp
  simp only [h]
  repeat' split
  all_goals first | rfl | omega

set_option maxRecDepth 100000 in
set_option maxHeartbeats 1600000 in
theorem compare_grows (s t : Tm) (w : World) :
    Calls Try.prog 38 #[s.val, t.val] w fun e w' => e = .returned (.int .i64 (s.cmp t)) ∧ ∃ q os, w' = grow (w.drewN q) os := by
  have hor := Lib.hid (cmp_or s t)
  obtain ⟨a, b, c⟩ := s
  obtain ⟨x, y, z⟩ := t
  unfold Tm.val
  dsimp only at hor ⊢
  generalize Tm.cmp _ _ = r at hor ⊢
  go_enter Try.func38, Try.ntmps38
  go_wp2_with fail
  go_region_held3 (fun w' => w'.cell? ⟨w.heap.size, 0, none⟩ = some (.int .u64 (a : Int)) ∧ w'.cell? ⟨w.heap.size, 1, none⟩ = some (.int .u64 (b : Int)) ∧ w'.cell? ⟨w.heap.size, 2, none⟩ = some (.int .u64 (c : Int)) ∧
      w'.cell? ⟨w.heap.size + 1, 0, none⟩ = some (.int .u64 (x : Int)) ∧ w'.cell? ⟨w.heap.size + 1, 1, none⟩ = some (.int .u64 (y : Int)) ∧ w'.cell? ⟨w.heap.size + 1, 2, none⟩ = some (.int .u64 (z : Int)))
    (go_keep)
    (first | (go_at_call 57; refine (cmpNat_any _ _ _).mono ?_; rintro e w1 ⟨rfl, rfl⟩)
           | (go_at_call 58; refine (cmpRounds_any _ _ _ _ b c y z _ ?_ ?_ ?_ ?_).mono ?_; (simp [*]); (simp [*]); (simp [*]); (simp [*]); rintro e w1 ⟨rfl, rfl⟩)
           | (go_at_call 56; refine (or_any _ (Tm.cmpN a x) (orI (Tm.cmpN b y) (Tm.cmpN c z)) _ ?_ ?_).mono ?_; (simp [go_sem]); (simp [go_sem]); rintro e w1 ⟨rfl, rfl⟩))
  all_goals
    go_wp2_with fail
    go_ret
    exact ⟨ret_i64 hor.out, 1, _, by rw [alloc_eq_grow, alloc_eq_grow, alloc_eq_grow, grow_grow, grow_grow]; rfl⟩
theorem below_grow (w : World) (q : Nat) (os : Array Obj) : Below w.heap.size w (grow (w.drewN q) os) :=
  ⟨rfl, rfl, rfl, by simp, fun k hk => heap_grow_old (w.drewN q) os hk⟩
theorem compare_any (s t : Tm) (w : World) :
    Calls Try.prog 38 #[s.val, t.val] w fun e w' => e = .returned (.int .i64 (s.cmp t)) ∧ Below w.heap.size w w' :=
  (compare_grows s t w).mono fun e w' ⟨he, q, os, hw⟩ => ⟨he, hw ▸ below_grow w q os⟩
end Go.Proofs.Ytpfjeibhklacbaa
