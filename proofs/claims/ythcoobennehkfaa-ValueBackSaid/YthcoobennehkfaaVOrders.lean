/- What the law asks of the order of values and rows at fixed ones. -/
import Derived.Test.YthcoobennehkfaaVRefRows
namespace Go.Proofs.Ythcoobennehkfaa
open Go Go.RowKit

def noB : ByteArray := ⟨#[]⟩
def numV (n : Int) : Vl := ⟨false, n, noB⟩
set_option maxRecDepth 100000 in
set_option maxHeartbeats 400000 in
theorem num_any (n : Int) (w : World) :
    Calls Try.prog 35 #[.int .i64 n] w fun e w' => e = .returned (.agg #[.bool false, .int .i64 n, .string ⟨#[]⟩]) ∧ Below w.heap.size w w' := by
  go_enter Try.func35, Try.ntmps35
  go_wp2_with fail
  refine bodyPost_ret (v := .agg #[.bool false, .int .i64 n, .string ⟨#[]⟩]) (by simp [results, Try.results35, go_sem]) rfl ⟨rfl, (Below.refl _ _).alloc (Nat.le_refl _) _⟩
set_option maxRecDepth 100000 in
set_option maxHeartbeats 400000 in
theorem textV_any (s : ByteArray) (w : World) :
    Calls Try.prog 36 #[.string s] w fun e w' => e = .returned (.agg #[.bool true, .int .i64 0, .string s]) ∧ Below w.heap.size w w' := by
  go_enter Try.func36, Try.ntmps36
  go_wp2_with fail
  refine bodyPost_ret (v := .agg #[.bool true, .int .i64 0, .string s]) (by simp [results, Try.results36, go_sem]) rfl ⟨rfl, (Below.refl _ _).alloc (Nat.le_refl _) _⟩
theorem vals_one {w : World} {N : Nat} (n : Int) (hN : w.heap.size = N) : Vals (w.alloc (.cells #[.bool false, .int .i64 n, .string ⟨#[]⟩] 23)) (N + 1) (some ⟨N, 0, none⟩) [numV n] := by
  subst hN
  intro _
  refine ⟨_, _, rfl, by omega, fun i x hx => ?_⟩
  match i, hx with
  | 0, hx => obtain rfl : numV n = x := by simpa using hx
             exact ⟨by simp [go_sem, numV], by simp [go_sem, numV], by simp [go_sem, numV, noB]⟩
theorem vals_two {w : World} {N : Nat} (n m : Int) (hN : w.heap.size = N) : Vals (w.alloc (.cells #[.bool false, .int .i64 n, .string ⟨#[]⟩, .bool false, .int .i64 m, .string ⟨#[]⟩] 23)) (N + 1) (some ⟨N, 0, none⟩) [numV n, numV m] := by
  subst hN
  intro _
  refine ⟨_, _, rfl, by omega, fun i x hx => ?_⟩
  match i, hx with
  | 0, hx => obtain rfl : numV n = x := by simpa using hx
             exact ⟨by simp [go_sem, numV], by simp [go_sem, numV], by simp [go_sem, numV, noB]⟩
  | 1, hx => obtain rfl : numV m = x := by simpa using hx
             exact ⟨by simp [go_sem, numV], by simp [go_sem, numV], by simp [go_sem, numV, noB]⟩

set_option maxRecDepth 100000 in
set_option maxHeartbeats 1600000 in
theorem vorders_true (w : World) : Calls Try.prog 12 #[] w fun e w' => e = .returned (.bool true) ∧ Below w.heap.size w w' := by
  have y1 : ∀ W, Hid (Calls Try.prog 13 #[.agg #[.bool false, .int .i64 5, .string ⟨#[]⟩], .agg #[.bool true, .int .i64 0, .string ⟨#[]⟩]] W fun e w' => e = .returned (.int .i64 (-1)) ∧ Below W.heap.size W w') :=
    fun W => Lib.hid (vcompare_any ⟨false, 5, ⟨#[]⟩⟩ ⟨true, 0, ⟨#[]⟩⟩ W)
  have y2 : ∀ A A' W, Vals W W.heap.size A [numV 1] → Vals W W.heap.size A' [numV 1, numV 0] → Hid (Calls Try.prog 15 #[.slice A 1 1, .slice A' 2 2] W fun e w' => e = .returned (.int .i64 (-1)) ∧ Below W.heap.size W w') :=
    fun A A' W h k => Lib.hid (rows_any A A' 1 2 [numV 1] [numV 1, numV 0] W h k (by unfold maxLen; simp) (by unfold maxLen; simp))
  have y3 : ∀ A A' W, Vals W W.heap.size A [numV 2] → Vals W W.heap.size A' [numV 1, numV 9] → Hid (Calls Try.prog 15 #[.slice A 1 1, .slice A' 2 2] W fun e w' => e = .returned (.int .i64 1) ∧ Below W.heap.size W w') :=
    fun A A' W h k => Lib.hid (rows_any A A' 1 2 [numV 2] [numV 1, numV 9] W h k (by unfold maxLen; simp) (by unfold maxLen; simp))
  have n5 := fun W => Lib.hid (num_any 5 W)
  have n1 := fun W => Lib.hid (num_any 1 W)
  have n0 := fun W => Lib.hid (num_any 0 W)
  have n2 := fun W => Lib.hid (num_any 2 W)
  have n9 := fun W => Lib.hid (num_any 9 W)
  have tt := fun W => Lib.hid (textV_any ⟨#[]⟩ W)
  go_enter Try.func12, Try.ntmps12
  go_wp2_with fail
  refine (n5 _).out.mono ?_
  rintro e w1 ⟨rfl, b1⟩
  go_wp2_with fail
  refine (tt _).out.mono ?_
  rintro e w2 ⟨rfl, b2⟩
  go_wp2_with fail
  refine (y1 _).out.mono ?_
  rintro e w3 ⟨rfl, b3⟩
  go_wp2_with fail
  refine (n1 _).out.mono ?_
  rintro e w4 ⟨rfl, b4⟩
  go_wp2_with fail
  have v4 := vals_one (w := w4) 1 rfl
  refine (n1 _).out.mono ?_
  rintro e w5 ⟨rfl, b5⟩
  have V5 := Lib.hid (vals_keep (v4.wide (by simp)) b5)
  clear v4
  go_wp2_with fail
  refine (n0 _).out.mono ?_
  rintro e w6 ⟨rfl, b6⟩
  have V6 := Lib.hid (vals_keep V5.out b6)
  go_wp2_with fail
  refine (y2 _ _ _ (vals_keep V6.out ((Below.refl _ _).alloc (Nat.le_refl _) _)) ((vals_two (w := w6) 1 0 rfl).wide (by simp))).out.mono ?_
  rintro e w7 ⟨rfl, b7⟩
  go_wp2_with fail
  refine (n2 _).out.mono ?_
  rintro e w8 ⟨rfl, b8⟩
  go_wp2_with fail
  have v8 := vals_one (w := w8) 2 rfl
  refine (n1 _).out.mono ?_
  rintro e w9 ⟨rfl, b9⟩
  have V9 := Lib.hid (vals_keep (v8.wide (by simp)) b9)
  clear v8
  go_wp2_with fail
  refine (n9 _).out.mono ?_
  rintro e w10 ⟨rfl, b10⟩
  have V10 := Lib.hid (vals_keep V9.out b10)
  go_wp2_with fail
  refine (y3 _ _ _ (vals_keep V10.out ((Below.refl _ _).alloc (Nat.le_refl _) _)) ((vals_two (w := w10) 1 9 rfl).wide (by simp))).out.mono ?_
  rintro e w11 ⟨rfl, b11⟩
  go_wp2_with fail
  go_ret
  have s5 := below_then ((Below.refl _ _).alloc (Nat.le_refl _) _) (by simp) b5
  have s7 := below_then ((Below.refl _ _).alloc (Nat.le_refl _) _) (by simp) b7
  have s9 := below_then ((Below.refl _ _).alloc (Nat.le_refl _) _) (by simp) b9
  have s11 := below_then ((Below.refl _ _).alloc (Nat.le_refl _) _) (by simp) b11
  exact ⟨rfl, belows b1 (belows b2 (belows b3 (belows b4 (belows s5 (belows b6 (belows s7 (belows b8 (belows s9 (belows b10 s11)))))))))⟩
end Go.Proofs.Ythcoobennehkfaa
