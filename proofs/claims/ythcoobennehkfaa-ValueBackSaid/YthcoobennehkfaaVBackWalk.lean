/- ValueBack returns true. -/
import Derived.Test.YthcoobennehkfaaVCodesWalk
import Derived.Test.YthcoobennehkfaaVBackFacts
namespace Go.Proofs.Ythcoobennehkfaa
open Go Go.RowKit

theorem encS_len {l : List Vl} (ok : ∀ v ∈ l, VOk v) : (encS l).length ≤ 1000 := by
  rcases chk_case' l with ⟨hz, hr, h8⟩ | h4
  · unfold encS rowB
    rw [if_pos hz, List.length_append]
    have := rows_len hr ok
    have := enc_len10 (n := l.length) (by omega)
    omega
  · unfold encS
    rw [if_neg (by omega)]
    simp
theorem encS_no {l : List Vl} (h : chkRow l = 4) : encS l = [] := by unfold encS; rw [if_neg (by omega)]
set_option maxRecDepth 100000 in
set_option maxHeartbeats 6400000 in
theorem vback_walk (A : Option Addr) (c : Nat) (l : List Vl) (r : ByteArray) (a : Int) (w : World)
    (hl : Vals w w.heap.size A l) (hc : l.length ≤ c) (_ : l.length * 32 ≤ 140737488351232) (hcm : c ≤ maxLen) (hlo : ∀ v ∈ l, VOk v) (hr : r.size ≤ 140737488351232) (a0 : -9223372036854775808 ≤ a) (a1 : a ≤ 9223372036854775807) :
    Calls Try.prog 7 #[.slice A l.length c, .string r, .int .i64 a] w fun e w' => e = .returned (.bool true) ∧ Below w.heap.size w w' := by
  have hn := Nat.le_trans hc hcm
  have cd := fun W => Lib.hid (codes_true W)
  have k1 := fun W h => Lib.hid (encode_any A c l W h hn hlo)
  have Hl := Lib.hid hl
  have hS := encS_len hlo
  rcases chk_cases l with hz | hz
  · have k2 : ∀ W, Hid (Calls Try.prog 21 #[.string ((⟨(encS l).toArray⟩ : ByteArray) ++ r)] W fun e w' => ∃ v, e = .returned (.tuple #[v, .string r, .int .i64 0]) ∧ w'.ownsRow W.heap.size 23 3 v l.length (l.flatMap Vl.cells) ∧ Below W.heap.size W w') := fun W => by
      have := take_any ((⟨(encS l).toArray⟩ : ByteArray) ++ r) W (by have := len_of r; rw [str_app_of, sizeL, List.length_append]; unfold maxLen; omega)
      rw [show ((⟨(encS l).toArray⟩ : ByteArray) ++ r).data.toList = encS l ++ r.data.toList from by rw [str_app_of], takeR_back hz hlo] at this
      unfold TakePost rowOf restOf whyOf at this
      dsimp only at this
      rw [show (⟨r.data.toList.toArray⟩ : ByteArray) = r from (str_of r).symm] at this
      exact Lib.hid this
    have k3 : ∀ j : Nat, j < (encS l).length → ∀ W, Hid (Calls Try.prog 21 #[.string ((⟨(encS l).toArray⟩ : ByteArray).extract 0 j)] W fun e w' => ∃ v, e = .returned (.tuple #[v, .string ⟨#[]⟩, .int .i64 4]) ∧ Below W.heap.size W w') := fun j hj W => by
      have hx := extract_upto ⟨(encS l).toArray⟩ j
      have := take_any ((⟨(encS l).toArray⟩ : ByteArray).extract 0 j) W (by rw [hx, sizeL, List.length_take]; unfold maxLen; omega)
      rw [hx] at this ⊢
      simp only at this
      rw [takeR_cut hz hlo hj] at this
      exact Lib.hid (this.mono fun e w' ⟨v, he, _, hb⟩ => ⟨v, he, hb⟩)
    have s1 := fun B k W h h' => Lib.hid (vsame_any B A k c l l W h h' hn hn)
    rw [decide_eq_true rfl] at s1
    rw [hz] at k1
    clear hz hl hc hcm hlo hn
    generalize encS l = S at *
    have z := sizeL S
    by_cases ha : 0 ≤ a
    · obtain ⟨j, rfl⟩ := Int.eq_ofNat_of_zero_le ha
      have t0 : decide ((j : Int) < 0) = false := by simp
      by_cases hj : j < S.length
      · have K := k3 j hj
        have t1 : decide ((S.length : Int) ≤ (j : Int)) = false := by simp; omega
        clear k3
        go_enter Try.func7, Try.ntmps7
        go_wp2_with fail
        refine (cd _).out.mono ?_
        rintro e w1 ⟨rfl, b1⟩
        have B1 := Lib.hid b1
        clear b1
        go_wp2_with fail
        refine (k1 _ (vals_keep Hl.out B1.out)).out.mono ?_
        rintro e w2 ⟨rfl, b2⟩
        have B2 := Lib.hid (belows B1.out b2)
        clear b2
        go_wp2_with fail
        refine (k2 _).out.mono ?_
        rintro e w3 ⟨v3, rfl, o3, b3⟩
        obtain ⟨A3, c3, rfl, _, _, u3⟩ := vals_of_own rfl o3
        have B3 := Lib.hid (And.intro (belows B2.out b3) u3)
        clear o3 b3 u3
        go_wp2_with fail
        refine (s1 _ _ _ B3.out.2 (vals_keep Hl.out B3.out.1)).out.mono ?_
        rintro e w4 ⟨rfl, b4⟩
        have B4 := Lib.hid (belows B3.out.1 b4)
        clear b4
        go_wp2_with fail
        refine (K _).out.mono ?_
        rintro e w5 ⟨v5, rfl, b5⟩
        have B5 := Lib.hid (belows B4.out b5)
        clear b5
        go_wp2_with fail
        go_ret
        exact ⟨rfl, B5.out⟩
      · have t1 : decide ((S.length : Int) ≤ (j : Int)) = true := by simp; omega
        clear k3
        go_enter Try.func7, Try.ntmps7
        go_wp2_with fail
        refine (cd _).out.mono ?_
        rintro e w1 ⟨rfl, b1⟩
        have B1 := Lib.hid b1
        clear b1
        go_wp2_with fail
        refine (k1 _ (vals_keep Hl.out B1.out)).out.mono ?_
        rintro e w2 ⟨rfl, b2⟩
        have B2 := Lib.hid (belows B1.out b2)
        clear b2
        go_wp2_with fail
        refine (k2 _).out.mono ?_
        rintro e w3 ⟨v3, rfl, o3, b3⟩
        obtain ⟨A3, c3, rfl, _, _, u3⟩ := vals_of_own rfl o3
        have B3 := Lib.hid (And.intro (belows B2.out b3) u3)
        clear o3 b3 u3
        go_wp2_with fail
        refine (s1 _ _ _ B3.out.2 (vals_keep Hl.out B3.out.1)).out.mono ?_
        rintro e w4 ⟨rfl, b4⟩
        have B4 := Lib.hid (belows B3.out.1 b4)
        clear b4
        go_wp2_with fail
        go_ret
        exact ⟨rfl, B4.out⟩
    · have t0 : decide (a < 0) = true := by simp; omega
      clear k3
      go_enter Try.func7, Try.ntmps7
      go_wp2_with fail
      refine (cd _).out.mono ?_
      rintro e w1 ⟨rfl, b1⟩
      have B1 := Lib.hid b1
      clear b1
      go_wp2_with fail
      refine (k1 _ (vals_keep Hl.out B1.out)).out.mono ?_
      rintro e w2 ⟨rfl, b2⟩
      have B2 := Lib.hid (belows B1.out b2)
      clear b2
      go_wp2_with fail
      refine (k2 _).out.mono ?_
      rintro e w3 ⟨v3, rfl, o3, b3⟩
      obtain ⟨A3, c3, rfl, _, _, u3⟩ := vals_of_own rfl o3
      have B3 := Lib.hid (And.intro (belows B2.out b3) u3)
      clear o3 b3 u3
      go_wp2_with fail
      refine (s1 _ _ _ B3.out.2 (vals_keep Hl.out B3.out.1)).out.mono ?_
      rintro e w4 ⟨rfl, b4⟩
      have B4 := Lib.hid (belows B3.out.1 b4)
      clear b4
      go_wp2_with fail
      go_ret
      exact ⟨rfl, B4.out⟩
  · have k2 := fun W h => Lib.hid (vcheck_any A c l W h hn (fun v hv => (hlo v hv).1))
    rw [hz] at k2
    rw [encS_no hz, hz] at k1
    clear hz hl hc hcm hlo hn hr hS
    go_enter Try.func7, Try.ntmps7
    go_wp2_with fail
    refine (cd _).out.mono ?_
    rintro e w1 ⟨rfl, b1⟩
    have B1 := Lib.hid b1
    clear b1
    go_wp2_with fail
    refine (k1 _ (vals_keep Hl.out B1.out)).out.mono ?_
    rintro e w2 ⟨rfl, b2⟩
    have B2 := Lib.hid (belows B1.out b2)
    clear b2
    go_wp2_with fail
    refine (k2 _ (vals_keep Hl.out B2.out)).out.mono ?_
    rintro e w3 ⟨rfl, b3⟩
    have B3 := Lib.hid (belows B2.out b3)
    clear b3
    go_wp2_with fail
    go_ret
    exact ⟨rfl, B3.out⟩
end Go.Proofs.Ythcoobennehkfaa
