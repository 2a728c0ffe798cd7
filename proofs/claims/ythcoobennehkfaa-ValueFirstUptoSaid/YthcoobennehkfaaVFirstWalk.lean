/- ValueFirst returns true. -/
import Derived.Test.YthcoobennehkfaaVOrders
import Derived.Test.YthcoobennehkfaaVLine
import Derived.Test.YthcoobennehkfaaAppendVl
namespace Go.Proofs.Ythcoobennehkfaa
open Go Go.RowKit

set_option maxRecDepth 100000 in
set_option maxHeartbeats 6400000 in
theorem first_walk (A : Option Addr) (c : Nat) (f : List Vl) (A' : Option Addr) (c' : Nat) (a : List Vl) (A'' : Option Addr) (c'' : Nat) (b : List Vl) (w : World)
    (hf : Vals w w.heap.size A f) (hc : f.length ≤ c) (hbf : f.length ≤ 1048576) (hcm : c ≤ maxLen) (_ : ∀ v ∈ f, VOk v) (ha : Vals w w.heap.size A' a) (hc' : a.length ≤ c') (hba : a.length ≤ 1048576) (hcm' : c' ≤ maxLen) (_ : ∀ v ∈ a, VOk v)
    (hb : Vals w w.heap.size A'' b) (hc'' : b.length ≤ c'') (hbb : b.length ≤ 1048576) (hcm'' : c'' ≤ maxLen) (_ : ∀ v ∈ b, VOk v) (_ : f.length + a.length + b.length ≤ 1048576) :
    Calls Try.prog 10 #[.slice A f.length c, .slice A' a.length c', .slice A'' b.length c''] w fun e w' => e = .returned (.bool true) ∧ Below w.heap.size w w' := by
  have a0 := fun W => Lib.hid (vorders_true W)
  have a1 := fun B B' k k' W h h' => Lib.hid (rows_any B B' k k' (f ++ a) (f ++ b) W h h' (by rw [List.length_append]; unfold maxLen; omega) (by rw [List.length_append]; unfold maxLen; omega))
  have a2 := fun W h h' => Lib.hid (rows_any A' A'' c' c'' a b W h h' (by unfold maxLen; omega) (by unfold maxLen; omega))
  simp only [cmpRows_front, List.length_append] at a1
  generalize cmpRows a b = r at *
  have Hl := Lib.hid (And.intro hf (And.intro ha hb))
  have l1 : (f ++ a).length = f.length + a.length := List.length_append
  have l2 : (f ++ b).length = f.length + b.length := List.length_append
  have HL := Lib.hid (And.intro l1 l2)
  clear hf ha hb hc hc' hc'' l1 l2
  go_enter Try.func10, Try.ntmps10
  go_wp2_with fail
  refine (a0 _).out.mono ?_
  rintro e w1 ⟨rfl, b1⟩
  have H1 := Lib.hid (And.intro b1 (And.intro (vals_keep Hl.out.1 b1) (And.intro (vals_keep Hl.out.2.1 b1) (vals_keep Hl.out.2.2 b1))))
  clear b1
  have hnews := H1.out.2.1.past ((Below.refl _ _).alloc (Nat.le_refl _) (.cells #[] 23)) (Nat.le_refl _)
  have h0 := World.ownsRow_made (base := w1.heap.size) (e := 23) (size := 3) w1 #[] 0 (Nat.le_refl _) (Nat.zero_le _) rfl
  have HN := Lib.hid (And.intro hnews h0)
  clear hnews h0
  go_wp2_with (at_builtin; refine wpList_append_vl _ rfl (.tmp 11) (.tmp 12) rfl w1.heap.size _ 0 [] rfl HN.out.2 w1.heap.size A c f rfl HN.out.1 ?c1 ?c2 ?_)
  case c1 => omega
  case c2 => simp
  intro v2 w2 ho2 hb2
  have hw2 : Below w1.heap.size w1 w2 := ((Below.refl _ _).alloc (Nat.le_refl _) _).trans hb2
  have H2 := Lib.hid (And.intro hw2 (And.intro ho2 (vals_keep H1.out.2.2.1 hw2)))
  clear ho2 hb2 hw2 HN
  go_wp2_with (at_builtin; refine wpList_append_vl _ rfl (.tmp 13) (.tmp 14) rfl w1.heap.size _ _ _ rfl H2.out.2.1 w2.heap.size A' c' a rfl H2.out.2.2 ?c3 ?c4 ?_)
  case c3 => omega
  case c4 => exact H2.out.1.size
  intro v3 w3 ho3 hb3
  have hw3 : Below w1.heap.size w1 w3 := H2.out.1.trans hb3
  rw [← List.flatMap_append] at ho3
  obtain ⟨A3, c3, rfl, _, _, ht3⟩ := vals_of_own (by rw [HL.out.1]) ho3
  have H3 := Lib.hid (And.intro (belows H1.out.1 hw3) (And.intro ht3 (And.intro (vals_keep H1.out.2.1 hw3) (And.intro (vals_keep H1.out.2.2.1 hw3) (vals_keep H1.out.2.2.2 hw3)))))
  clear ho3 hb3 hw3 ht3 H2 H1
  have hnews := H3.out.2.2.1.past ((Below.refl _ _).alloc (Nat.le_refl _) (.cells #[] 23)) (Nat.le_refl _)
  have h0 := World.ownsRow_made (base := w3.heap.size) (e := 23) (size := 3) w3 #[] 0 (Nat.le_refl _) (Nat.zero_le _) rfl
  have HN := Lib.hid (And.intro hnews h0)
  clear hnews h0
  go_wp2_with (at_builtin; refine wpList_append_vl _ rfl (.tmp 16) (.tmp 17) rfl w3.heap.size _ 0 [] rfl HN.out.2 w3.heap.size A c f rfl HN.out.1 ?c5 ?c6 ?_)
  case c5 => omega
  case c6 => simp
  intro v4 w4 ho4 hb4
  have hw4 : Below w3.heap.size w3 w4 := ((Below.refl _ _).alloc (Nat.le_refl _) _).trans hb4
  have H4 := Lib.hid (And.intro hw4 (And.intro ho4 (vals_keep H3.out.2.2.2.2 hw4)))
  clear ho4 hb4 hw4 HN
  go_wp2_with (at_builtin; refine wpList_append_vl _ rfl (.tmp 18) (.tmp 19) rfl w3.heap.size _ _ _ rfl H4.out.2.1 w4.heap.size A'' c'' b rfl H4.out.2.2 ?c7 ?c8 ?_)
  case c7 => omega
  case c8 => exact H4.out.1.size
  intro v5 w5 ho5 hb5
  have hw5 : Below w3.heap.size w3 w5 := H4.out.1.trans hb5
  rw [← List.flatMap_append] at ho5
  obtain ⟨A5, c5, rfl, _, _, ht5⟩ := vals_of_own (by rw [HL.out.2]) ho5
  have H5 := Lib.hid (And.intro (belows H3.out.1 hw5) (And.intro (vals_keep H3.out.2.1 hw5) (And.intro ht5 (And.intro (vals_keep H3.out.2.2.2.1 hw5) (vals_keep H3.out.2.2.2.2 hw5)))))
  clear ho5 hb5 hw5 ht5 H4 H3
  go_wp2_with fail
  refine (a1 A3 A5 c3 c5 _ H5.out.2.1 H5.out.2.2.1).out.mono ?_
  rintro e w6 ⟨rfl, b6⟩
  have B6 := Lib.hid b6
  clear b6
  go_wp2_with fail
  refine (a2 _ (vals_keep H5.out.2.2.2.1 B6.out) (vals_keep H5.out.2.2.2.2 B6.out)).out.mono ?_
  rintro e w7 ⟨rfl, b7⟩
  have B7 := Lib.hid b7
  clear b7
  go_wp2_with fail
  go_ret
  exact ⟨rfl, belows H5.out.1 (belows B6.out B7.out)⟩
end Go.Proofs.Ythcoobennehkfaa
