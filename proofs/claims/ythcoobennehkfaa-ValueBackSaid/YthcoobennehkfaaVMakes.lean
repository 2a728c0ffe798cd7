/- What the laws on columns and joins ask at fixed rows. -/
import Derived.Test.YthcoobennehkfaaVOrders
import Derived.Test.YthcoobennehkfaaVCols
import Derived.Test.YthcoobennehkfaaVJoin
namespace Go.Proofs.Ythcoobennehkfaa
open Go Go.RowKit

theorem vals_oneN {w : World} (n : Int) : Vals (w.alloc (.cells #[.bool false, .int .i64 n, .string ⟨#[]⟩] 23)) (w.alloc (.cells #[.bool false, .int .i64 n, .string ⟨#[]⟩] 23)).heap.size (some ⟨w.heap.size, 0, none⟩) [numV n] := (vals_one (w := w) n rfl).wide (by simp)
theorem numV_ok {l : List Vl} (h : ∀ v ∈ l, ∃ n : Int, v = numV n ∧ -9223372036854775808 ≤ n ∧ n ≤ 9223372036854775807) : ∀ v ∈ l, VOk v := fun v hv => by
  obtain ⟨n, rfl, h1, h2⟩ := h v hv
  exact ⟨by show (0 : Nat) ≤ maxLen; exact Nat.zero_le _, h1, h2⟩
theorem ints3 {w : World} {N : Nat} (a b c : Int) (hN : w.heap.size = N) : Ints (w.alloc (.cells #[.int .i64 a, .int .i64 b, .int .i64 c] 3)) (w.alloc (.cells #[.int .i64 a, .int .i64 b, .int .i64 c] 3)).heap.size (some ⟨N, 0, none⟩) [a, b, c] := fun _ => by
  subst hN
  refine ⟨_, _, rfl, by simp, fun i x hx => ?_⟩
  match i, hx with
  | 0, hx => obtain rfl : a = x := by simpa using hx
             simp [go_sem]
  | 1, hx => obtain rfl : b = x := by simpa using hx
             simp [go_sem]
  | 2, hx => obtain rfl : c = x := by simpa using hx
             simp [go_sem]
/-- rows laid beside each other -/
theorem rows3 {w : World} {N : Nat} {A1 A2 A3 : Option Addr} {n1 c1 n2 c2 n3 c3 : Nat} {l1 l2 l3 : List Vl} (e1 : l1.length = n1) (e2 : l2.length = n2) (e3 : l3.length = n3) (hN : w.heap.size = N) (h1 : Vals w w.heap.size A1 l1) (h2 : Vals w w.heap.size A2 l2) (h3 : Vals w w.heap.size A3 l3) :
    RowsAt (w.alloc (.cells #[.slice A1 n1 c1, .slice A2 n2 c2, .slice A3 n3 c3] 24)) (w.alloc (.cells #[.slice A1 n1 c1, .slice A2 n2 c2, .slice A3 n3 c3] 24)).heap.size (some ⟨N, 0, none⟩) [l1, l2, l3] := fun _ => by
  have hb : Below w.heap.size w (w.alloc (.cells #[.slice A1 n1 c1, .slice A2 n2 c2, .slice A3 n3 c3] 24)) := (Below.refl _ _).alloc (Nat.le_refl _) _
  subst hN e1 e2 e3
  refine ⟨_, _, rfl, by simp, fun i l hi => ?_⟩
  match i, hi with
  | 0, hi => obtain rfl : l1 = l := by simpa using hi
             exact ⟨A1, c1, by simp [go_sem], vals_keep h1 hb⟩
  | 1, hi => obtain rfl : l2 = l := by simpa using hi
             exact ⟨A2, c2, by simp [go_sem], vals_keep h2 hb⟩
  | 2, hi => obtain rfl : l3 = l := by simpa using hi
             exact ⟨A3, c3, by simp [go_sem], vals_keep h3 hb⟩
theorem rows2 {w : World} {N : Nat} {A1 A2 : Option Addr} {n1 c1 n2 c2 : Nat} {l1 l2 : List Vl} (e1 : l1.length = n1) (e2 : l2.length = n2) (hN : w.heap.size = N) (h1 : Vals w w.heap.size A1 l1) (h2 : Vals w w.heap.size A2 l2) :
    RowsAt (w.alloc (.cells #[.slice A1 n1 c1, .slice A2 n2 c2] 24)) (w.alloc (.cells #[.slice A1 n1 c1, .slice A2 n2 c2] 24)).heap.size (some ⟨N, 0, none⟩) [l1, l2] := fun _ => by
  have hb : Below w.heap.size w (w.alloc (.cells #[.slice A1 n1 c1, .slice A2 n2 c2] 24)) := (Below.refl _ _).alloc (Nat.le_refl _) _
  subst hN e1 e2
  refine ⟨_, _, rfl, by simp, fun i l hi => ?_⟩
  match i, hi with
  | 0, hi => obtain rfl : l1 = l := by simpa using hi
             exact ⟨A1, c1, by simp [go_sem], vals_keep h1 hb⟩
  | 1, hi => obtain rfl : l2 = l := by simpa using hi
             exact ⟨A2, c2, by simp [go_sem], vals_keep h2 hb⟩

set_option maxRecDepth 100000 in
set_option maxHeartbeats 3200000 in
theorem makes_true (w : World) : Calls Try.prog 29 #[] w fun e w' => e = .returned (.bool true) ∧ Below w.heap.size w w' := by
  have n1 := fun W => Lib.hid (num_any 1 W)
  have n2 := fun W => Lib.hid (num_any 2 W)
  have n3 := fun W => Lib.hid (num_any 3 W)
  have k1 : ∀ A A' W, Vals W W.heap.size A [numV 1, numV 2] → Ints W W.heap.size A' [1, 1, 0] → Hid (Calls Try.prog 25 #[.slice A 2 2, .slice A' 3 3] W fun e w' => ∃ v, e = .returned (.tuple #[v, .int .i64 0]) ∧ w'.ownsRow W.heap.size 23 3 v 3 ([numV 2, numV 2, numV 1].flatMap Vl.cells) ∧ Below W.heap.size W w') :=
    fun A A' W h h' => Lib.hid (cols_any A 2 [numV 1, numV 2] A' 3 [1, 1, 0] W h (by unfold maxLen; simp) (numV_ok (by intro v hv; simp at hv; rcases hv with rfl | rfl <;> exact ⟨_, rfl, by decide, by decide⟩)) h' (by unfold maxLen; simp))
  have k2 : ∀ A W, RowsAt W W.heap.size A [[numV 1], [], [numV 3]] → Hid (Calls Try.prog 27 #[.slice A 3 3] W fun e w' => ∃ v, e = .returned (.tuple #[v, .int .i64 0]) ∧ w'.ownsRow W.heap.size 23 3 v 2 ([numV 1, numV 3].flatMap Vl.cells) ∧ Below W.heap.size W w') :=
    fun A W h => Lib.hid (join_any A 3 [[numV 1], [], [numV 3]] W h (by decide) (by intro l hl; simp at hl; rcases hl with rfl | rfl | rfl <;> simp [maxLen]) (by intro l hl; simp at hl; rcases hl with rfl | rfl | rfl <;> (apply numV_ok; intro v hv; simp at hv <;> exact ⟨_, hv, by decide, by decide⟩)))
  go_enter Try.func29, Try.ntmps29
  go_wp2_with fail
  refine (n1 _).out.mono ?_
  rintro e w1 ⟨rfl, b1⟩
  have B1 := Lib.hid b1
  clear b1
  go_wp2_with fail
  refine (n2 _).out.mono ?_
  rintro e w2 ⟨rfl, b2⟩
  have B2 := Lib.hid b2
  clear b2
  go_wp2_with fail
  have hv2 := Lib.hid ((vals_two (w := w2) 1 2 rfl).wide (Nat.le_of_eq (show w2.heap.size + 1 = (w2.alloc (.cells #[.bool false, .int .i64 1, .string ⟨#[]⟩, .bool false, .int .i64 2, .string ⟨#[]⟩] 23)).heap.size by simp)))
  have h3 := Lib.hid (ints3 (w := w2.alloc (.cells #[.bool false, .int .i64 1, .string ⟨#[]⟩, .bool false, .int .i64 2, .string ⟨#[]⟩] 23)) (N := w2.heap.size + 1) 1 1 0 (by simp))
  refine (k1 _ _ _ (vals_keep hv2.out ((Below.refl _ _).alloc (Nat.le_refl _) _)) h3.out).out.mono ?_
  rintro e w3 ⟨v3, rfl, o3, b3⟩
  obtain ⟨A3, c3, rfl, _, _, ht3⟩ := vals_of_own rfl o3
  obtain ⟨g3, o3', rfl, hB3, hc3⟩ := ht3 (by simp)
  have hr0 := hc3 0 _ rfl
  have hr2 := hc3 2 _ rfl
  have B3 := Lib.hid (And.intro (((Below.refl w2.heap.size w2).alloc (Nat.le_refl _) _).alloc (by simp) _ |>.trans (b3.mono (by simp; omega))) (And.intro hr0 hr2))
  have hz3 : g3 < w3.heap.size := hB3
  clear hv2 h3 o3 b3 ht3 hc3 hr0 hr2 hB3
  go_wp2_with fail
  refine (n1 _).out.mono ?_
  rintro e w4 ⟨rfl, b4⟩
  have V4 := Lib.hid (vals_oneN (w := w4) 1)
  have B4 := Lib.hid b4
  clear b4
  go_wp2_with fail
  refine (n3 _).out.mono ?_
  rintro e w5 ⟨rfl, b5⟩
  have V5 := Lib.hid (And.intro (vals_keep (vals_keep V4.out b5) ((Below.refl _ _).alloc (Nat.le_refl _) (.cells #[.bool false, .int .i64 3, .string ⟨#[]⟩] 23))) (vals_oneN (w := w5) 3))
  have B5 := Lib.hid (below_then ((Below.refl w4.heap.size w4).alloc (Nat.le_refl _) _) (by simp) b5)
  clear b5
  go_wp2_with fail
  refine (k2 _ _ (rows3 rfl rfl rfl (by simp) V5.out.1 Vals.nil_ V5.out.2)).out.mono ?_
  rintro e w6 ⟨v6, rfl, o6, b6⟩
  obtain ⟨A6, c6, rfl, _, _, ht6⟩ := vals_of_own rfl o6
  obtain ⟨g6, o6', rfl, hB6, hc6⟩ := ht6 (by simp)
  obtain ⟨e0, e1, e2⟩ := hc6 1 _ rfl
  have hb6 : Below w5.heap.size w5 w6 := ((Below.refl w5.heap.size w5).alloc (Nat.le_refl _) _).alloc (by simp) _ |>.trans (b6.mono (by simp; omega))
  have hb36 := belows B4.out (belows B5.out hb6)
  obtain ⟨d0, d1, d2⟩ := B3.out.2.1.past hb36 hz3
  obtain ⟨f0, f1, f2⟩ := B3.out.2.2.past hb36 hz3
  have HB := Lib.hid (belows B1.out (belows B2.out (belows B3.out.1 hb36)))
  clear o6 b6 ht6 hc6 hb6 hb36 V4 V5
  unfold numV at *
  simp only [Nat.zero_mul, Nat.add_zero, Nat.one_mul] at *
  go_wp2_with fail
  go_ret
  exact ⟨rfl, HB.out⟩
end Go.Proofs.Ythcoobennehkfaa
