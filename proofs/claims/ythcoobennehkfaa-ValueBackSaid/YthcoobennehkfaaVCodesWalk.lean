/- ValueCodes returns true. -/
import Derived.Test.YthcoobennehkfaaVCodes
import Derived.Test.YthcoobennehkfaaVSame
namespace Go.Proofs.Ythcoobennehkfaa
open Go Go.RowKit

theorem rowOf_len (s : List UInt8) : (rowOf (takeR s)).length ≤ 8 := by
  cases h : takeR s with
  | none => simp [rowOf]
  | some x =>
    unfold takeR at h
    split at h
    · rename_i hc
      cases h1 : takeS (tc 0 0 s).1 (tc 0 0 s).2.1 with
      | none => rw [h1] at h; cases h
      | some y =>
        obtain ⟨l, r⟩ := y
        rw [h1] at h
        simp only at h
        split at h
        · simp only [Option.some.injEq] at h
          subst h
          show l.length ≤ 8
          rw [takeS_len h1]
          exact hc.2
        · cases h
    · cases h
set_option maxRecDepth 100000 in
set_option maxHeartbeats 6400000 in
theorem vcodes_walk (A : Option Addr) (c : Nat) (l : List Vl) (s : ByteArray) (w : World)
    (hl : Vals w w.heap.size A l) (hc : l.length ≤ c) (hcm : c ≤ maxLen) (hlo : ∀ v ∈ l, VOk v) (hs : s.size ≤ maxLen) :
    Calls Try.prog 4 #[.slice A l.length c, .string s] w fun e w' => e = .returned (.bool true) ∧ Below w.heap.size w w' := by
  have hn := Nat.le_trans hc hcm
  have a0 := fun W => Lib.hid (codes_true W)
  have k1 := fun W h => Lib.hid (encode_any A c l W h hn hlo)
  have k2 := fun W h => Lib.hid (refEncode_any A c l W h hn hlo)
  have k3 := fun W => Lib.hid (take_any s W hs)
  have k4 := fun W => Lib.hid (refTake_any s W hs)
  have p1 := rowOf_len s.data.toList
  unfold TakePost at k3 k4
  generalize rowOf (takeR s.data.toList) = R at *
  generalize restOf (takeR s.data.toList) = T at *
  generalize whyOf (takeR s.data.toList) = F at *
  generalize chkRow l = E at *
  generalize encS l = S at *
  have s1 := fun B B' k k' W h h' => Lib.hid (vsame_any B B' k k' R R W h h' (by unfold maxLen; omega) (by unfold maxLen; omega))
  rw [decide_eq_true rfl] at s1
  have Hl := Lib.hid hl
  clear hl hc hcm hlo hs hn p1
  go_enter Try.func4, Try.ntmps4
  go_wp2_with fail
  refine (k1 _ Hl.out).out.mono ?_
  rintro e w1 ⟨rfl, b1⟩
  have H1 := Lib.hid b1
  clear b1
  go_wp2_with fail
  refine (k2 _ (vals_keep Hl.out H1.out)).out.mono ?_
  rintro e w2 ⟨rfl, b2⟩
  have H2 := Lib.hid (belows H1.out b2)
  clear b2
  go_wp2_with fail
  refine (k3 _).out.mono ?_
  rintro e w3 ⟨x3, rfl, o3, b3⟩
  obtain ⟨A3, c3, rfl, _, _, t3⟩ := vals_of_own rfl o3
  have H3 := Lib.hid (And.intro (belows H2.out b3) t3)
  clear o3 b3 t3
  go_wp2_with fail
  refine (k4 _).out.mono ?_
  rintro e w4 ⟨x4, rfl, o4, b4⟩
  obtain ⟨A4, c4, rfl, _, _, t4⟩ := vals_of_own rfl o4
  have H4 := Lib.hid (And.intro (belows H3.out.1 b4) (And.intro (vals_keep H3.out.2 b4) t4))
  clear o4 b4 t4
  go_wp2_with fail
  refine (a0 _).out.mono ?_
  rintro e w5 ⟨rfl, b5⟩
  have B5 := Lib.hid b5
  clear b5
  go_wp2_with fail
  refine (s1 _ _ _ _ _ (vals_keep H4.out.2.1 B5.out) (vals_keep H4.out.2.2 B5.out)).out.mono ?_
  rintro e w6 ⟨rfl, b6⟩
  have B6 := Lib.hid (belows B5.out b6)
  clear b6
  go_wp2_with fail
  go_ret
  exact ⟨rfl, belows H4.out.1 B6.out⟩
end Go.Proofs.Ythcoobennehkfaa
