/- What the laws on bytes ask at a fixed row. -/
import Derived.Test.YthcoobennehkfaaVOrders
import Derived.Test.YthcoobennehkfaaVMakes
import Derived.Test.YthcoobennehkfaaVRefTakeRow
import Derived.Test.YthcoobennehkfaaVRefEnc
namespace Go.Proofs.Ythcoobennehkfaa
open Go Go.RowKit

def txA : Vl := ⟨true, 0, ⟨#[97]⟩⟩
theorem vals_nt {w : World} {N : Nat} (n : Int) (s : ByteArray) (hN : w.heap.size = N) : Vals (w.alloc (.cells #[.bool false, .int .i64 n, .string ⟨#[]⟩, .bool true, .int .i64 0, .string s] 23)) (N + 1) (some ⟨N, 0, none⟩) [numV n, ⟨true, 0, s⟩] := by
  subst hN
  intro _
  refine ⟨_, _, rfl, by omega, fun i x hx => ?_⟩
  match i, hx with
  | 0, hx => obtain rfl : numV n = x := by simpa using hx
             exact ⟨by simp [go_sem, numV], by simp [go_sem, numV], by simp [go_sem, numV, noB]⟩
  | 1, hx => obtain rfl : (⟨true, 0, s⟩ : Vl) = x := by simpa using hx
             exact ⟨by simp [go_sem], by simp [go_sem], by simp [go_sem]⟩
theorem encS_fix : encS [numV 1, txA] = [2, 0, 2, 1, 1, 97] := by
  have h : chkRow [numV 1, txA] = 0 := by kernel_rfl
  unfold encS rowB
  rw [if_pos h]
  have e2 : enc [numV 1, txA].length = [2] := enc_lt (by decide)
  have e3 : vB (numV 1) = [0, 2] := by
    show 0 :: enc (zig 1) = _
    rw [show zig 1 = 2 from by decide, enc_lt (by decide)]; rfl
  have e4 : vB txA = [1, 1, 97] := by
    show 1 :: (enc 1 ++ [97]) = _
    rw [enc_lt (by decide)]; rfl
  rw [e2]
  simp only [List.flatMap_cons, List.flatMap_nil, e3, e4]
  rfl
theorem takeR_fix : takeR [2, 0, 2, 1, 1, 97, 120] = some ([numV 1, txA], [120]) := by kernel_rfl
set_option maxRecDepth 100000 in
set_option maxHeartbeats 3200000 in
theorem codes_true (w : World) : Calls Try.prog 23 #[] w fun e w' => e = .returned (.bool true) ∧ Below w.heap.size w w' := by
  have n1 := fun W => Lib.hid (num_any 1 W)
  have ta := fun W => Lib.hid (textV_any ⟨#[97]⟩ W)
  have k1 : ∀ A W, Vals W W.heap.size A [numV 1, txA] → Hid (Calls Try.prog 19 #[.slice A 2 2] W fun e w' => e = .returned (.tuple #[.string ⟨#[2, 0, 2, 1, 1, 97]⟩, .int .i64 0]) ∧ Below W.heap.size W w') := fun A W h => by
    have := encode_any A 2 [numV 1, txA] W h (by unfold maxLen; simp) (by intro v hv; simp at hv; rcases hv with rfl | rfl <;> exact ⟨by show _ ≤ maxLen; unfold maxLen; decide, by decide, by decide⟩)
    rw [encS_fix] at this
    exact Lib.hid this
  have k2 : ∀ W, Hid (Calls Try.prog 21 #[.string ⟨#[2, 0, 2, 1, 1, 97, 120]⟩] W fun e w' => ∃ v, e = .returned (.tuple #[v, .string ⟨#[120]⟩, .int .i64 0]) ∧ w'.ownsRow W.heap.size 23 3 v 2 ([numV 1, txA].flatMap Vl.cells) ∧ Below W.heap.size W w') := fun W => by
    have := take_any ⟨#[2, 0, 2, 1, 1, 97, 120]⟩ W (by show (7 : Nat) ≤ maxLen; unfold maxLen; decide)
    rw [show (⟨#[2, 0, 2, 1, 1, 97, 120]⟩ : ByteArray).data.toList = [2, 0, 2, 1, 1, 97, 120] from rfl, takeR_fix] at this
    exact Lib.hid this
  go_enter Try.func23, Try.ntmps23
  go_wp2_with fail
  refine (n1 _).out.mono ?_
  rintro e w1 ⟨rfl, b1⟩
  have B1 := Lib.hid b1
  clear b1
  go_wp2_with fail
  refine (ta _).out.mono ?_
  rintro e w2 ⟨rfl, b2⟩
  have B2 := Lib.hid b2
  clear b2
  go_wp2_with fail
  have hv2 := Lib.hid ((vals_nt (w := w2) 1 ⟨#[97]⟩ rfl).wide (Nat.le_of_eq (show w2.heap.size + 1 = (w2.alloc (.cells #[.bool false, .int .i64 1, .string ⟨#[]⟩, .bool true, .int .i64 0, .string ⟨#[97]⟩] 23)).heap.size by simp)))
  refine (k1 _ _ hv2.out).out.mono ?_
  rintro e w3 ⟨rfl, b3⟩
  have B3 := Lib.hid (((Below.refl w2.heap.size w2).alloc (Nat.le_refl _) _).trans (b3.mono (by simp)))
  clear b3 hv2
  go_wp2_with fail
  refine (k2 _).out.mono ?_
  rintro e w4 ⟨v4, rfl, o4, b4⟩
  obtain ⟨A4, c4, rfl, _, _, _⟩ := vals_of_own rfl o4
  have B4 := Lib.hid b4
  clear b4 o4
  go_wp2_with fail
  go_ret
  exact ⟨rfl, belows B1.out (belows B2.out (belows B3.out B4.out))⟩
end Go.Proofs.Ythcoobennehkfaa
