/- ValueLine returns true. -/
import Derived.Test.YthcoobennehkfaaVOrders
import Derived.Test.YthcoobennehkfaaVCheck
import Derived.Test.YthcoobennehkfaaVLine
import Derived.Test.YthcoobennehkfaaVSame
namespace Go.Proofs.Ythcoobennehkfaa
open Go Go.RowKit

theorem cmpB_bound (a b : List UInt8) : -1 ≤ Lib.compareBytes a b ∧ Lib.compareBytes a b ≤ 1 := by
  rcases cmpB_cases a b with ⟨h, _⟩ | ⟨h, _, _⟩ | ⟨h, _, _⟩ <;> rw [h] <;> decide
theorem Vl.cmp_bound (a b : Vl) : -1 ≤ a.cmp b ∧ a.cmp b ≤ 1 := by
  have := cmpB_bound a.s.data.toList b.s.data.toList
  unfold Vl.cmp Vl.cmpI
  repeat' split
  all_goals omega
theorem cmpRows_bound : ∀ a b : List Vl, -1 ≤ cmpRows a b ∧ cmpRows a b ≤ 1
  | [], [] => by decide
  | [], _ :: _ => ⟨by simp [cmpRows], by simp [cmpRows]⟩
  | _ :: _, [] => ⟨by simp [cmpRows], by simp [cmpRows]⟩
  | x :: a, y :: b => by
    have h := Vl.cmp_bound x y
    unfold cmpRows
    split
    · exact cmpRows_bound a b
    · exact h
theorem chk_case (l : List Vl) : chkRow l = 0 ∧ l.all Vl.right = true ∨ chkRow l = 4 := by
  unfold chkRow
  by_cases h : (l.all Vl.right && decide (l.length ≤ 8)) = true
  · rw [if_pos h]; simp only [Bool.and_eq_true] at h; exact .inl ⟨rfl, h.1⟩
  · rw [if_neg h]; exact .inr rfl

set_option maxRecDepth 100000 in
set_option maxHeartbeats 3200000 in
theorem line_core (A A' A'' : Option Addr) (n n' n'' c c' c'' : Nat) (x y z ca cb : Int) (s : Bool) (w : World) (V : World → Prop) (hV0 : V w) (hV : ∀ W W', V W → Below W.heap.size W W' → V W')
    (hx : -1 ≤ x) (hx' : x ≤ 1) (hy : -1 ≤ y) (hy' : y ≤ 1)
    (a1 : ∀ W, V W → Hid (Calls Try.prog 15 #[.slice A n c, .slice A' n' c'] W fun e w' => e = .returned (.int .i64 x) ∧ Below W.heap.size W w'))
    (a2 : ∀ W, V W → Hid (Calls Try.prog 15 #[.slice A' n' c', .slice A'' n'' c''] W fun e w' => e = .returned (.int .i64 y) ∧ Below W.heap.size W w'))
    (a3 : ∀ W, V W → Hid (Calls Try.prog 15 #[.slice A n c, .slice A'' n'' c''] W fun e w' => e = .returned (.int .i64 z) ∧ Below W.heap.size W w'))
    (a4 : ∀ W, V W → Hid (Calls Try.prog 15 #[.slice A' n' c', .slice A n c] W fun e w' => e = .returned (.int .i64 (-x)) ∧ Below W.heap.size W w'))
    (a5 : ∀ W, V W → Hid (Calls Try.prog 15 #[.slice A n c, .slice A n c] W fun e w' => e = .returned (.int .i64 0) ∧ Below W.heap.size W w'))
    (a6 : ∀ W, V W → Hid (Calls Try.prog 17 #[.slice A n c] W fun e w' => e = .returned (.int .i64 ca) ∧ Below W.heap.size W w'))
    (a7 : ∀ W, V W → Hid (Calls Try.prog 17 #[.slice A' n' c'] W fun e w' => e = .returned (.int .i64 cb) ∧ Below W.heap.size W w'))
    (a8 : ∀ W, V W → Hid (Calls Try.prog 24 #[.slice A n c, .slice A' n' c'] W fun e w' => e = .returned (.bool s) ∧ Below W.heap.size W w'))
    (key : (x = 0 ∧ y = 0 ∧ z = 0) ∨ (decide (x ≤ 0) = true ∧ decide (y ≤ 0) = true ∧ decide (0 < z) = false ∧ (z == 0) = false) ∨ decide (x ≤ 0) = false ∨ (decide (x ≤ 0) = true ∧ decide (y ≤ 0) = false)) (hcs : ca = 4 ∨ ca = 0 ∧ cb = 4 ∨ (ca = 0 ∧ cb = 0 ∧ (x == 0) = s)) :
    Calls Try.prog 6 #[.slice A n c, .slice A' n' c', .slice A'' n'' c''] w fun e w' => e = .returned (.bool true) ∧ Below w.heap.size w w' := by
  have a0 := fun W => Lib.hid (vorders_true W)
  have h0 := Lib.hid hV0
  have hV := Lib.hid hV
  have t1 : 0 ≤ -x + 1 := by omega
  clear hV0
  rcases key with ⟨rfl, rfl, rfl⟩ | ⟨q1, q2, q3, q4⟩ | q1 | ⟨q1, q2⟩
  all_goals
    rcases hcs with rfl | ⟨rfl, rfl⟩ | ⟨rfl, rfl, hxs⟩
  all_goals
    go_enter Try.func6, Try.ntmps6
    go_wp2_with fail
    refine (a0 _).out.mono ?_
    rintro e w1 ⟨rfl, b1⟩
    have H1 := Lib.hid (And.intro b1 (hV.out _ _ h0.out b1))
    clear b1
    go_wp2_with fail
    refine (a1 _ H1.out.2).out.mono ?_
    rintro e w2 ⟨rfl, b2⟩
    have H2 := Lib.hid (And.intro (belows H1.out.1 b2) (hV.out _ _ H1.out.2 b2))
    clear b2 H1
    go_wp2_with fail
    refine (a2 _ H2.out.2).out.mono ?_
    rintro e w3 ⟨rfl, b3⟩
    have H3 := Lib.hid (And.intro (belows H2.out.1 b3) (hV.out _ _ H2.out.2 b3))
    clear b3 H2
    go_wp2_with fail
    refine (a3 _ H3.out.2).out.mono ?_
    rintro e w4 ⟨rfl, b4⟩
    have H4 := Lib.hid (And.intro (belows H3.out.1 b4) (hV.out _ _ H3.out.2 b4))
    clear b4 H3
    go_wp2_with fail
    refine (a4 _ H4.out.2).out.mono ?_
    rintro e w5 ⟨rfl, b5⟩
    have H5 := Lib.hid (And.intro (belows H4.out.1 b5) (hV.out _ _ H4.out.2 b5))
    clear b5 H4
    go_wp2_with fail
    refine (a5 _ H5.out.2).out.mono ?_
    rintro e w6 ⟨rfl, b6⟩
    have H6 := Lib.hid (And.intro (belows H5.out.1 b6) (hV.out _ _ H5.out.2 b6))
    clear b6 H5
    go_wp2_with fail
    refine (a6 _ H6.out.2).out.mono ?_
    rintro e w7 ⟨rfl, b7⟩
    have H7 := Lib.hid (And.intro (belows H6.out.1 b7) (hV.out _ _ H6.out.2 b7))
    clear b7 H6
    go_wp2_with fail
    first
    | (go_ret; exact ⟨rfl, H7.out.1⟩)
    | (refine (a7 _ H7.out.2).out.mono ?_
       rintro e w8 ⟨rfl, b8⟩
       have H8 := Lib.hid (And.intro (belows H7.out.1 b8) (hV.out _ _ H7.out.2 b8))
       clear b8 H7
       go_wp2_with fail
       first
       | (go_ret; exact ⟨rfl, H8.out.1⟩)
       | (refine (a8 _ H8.out.2).out.mono ?_
          rintro e w9 ⟨rfl, b9⟩
          have H9 := Lib.hid (belows H8.out.1 b9)
          clear b9 H8
          go_wp2_with fail
          go_ret
          exact ⟨ret_bool (by simp_all), H9.out⟩))
theorem line_walk (A : Option Addr) (c : Nat) (l : List Vl) (A' : Option Addr) (c' : Nat) (m : List Vl) (A'' : Option Addr) (c'' : Nat) (o : List Vl) (w : World)
    (hl : Vals w w.heap.size A l) (hc : l.length ≤ c) (hcm : c ≤ maxLen) (hlo : ∀ v ∈ l, VOk v) (hm : Vals w w.heap.size A' m) (hc' : m.length ≤ c') (hcm' : c' ≤ maxLen) (hmo : ∀ v ∈ m, VOk v)
    (ho : Vals w w.heap.size A'' o) (hc'' : o.length ≤ c'') (hcm'' : c'' ≤ maxLen) (_ : ∀ v ∈ o, VOk v) :
    Calls Try.prog 6 #[.slice A l.length c, .slice A' m.length c', .slice A'' o.length c''] w fun e w' => e = .returned (.bool true) ∧ Below w.heap.size w w' := by
  have hn := Nat.le_trans hc hcm
  have hn' := Nat.le_trans hc' hcm'
  have hn'' := Nat.le_trans hc'' hcm''
  have k1 := cmpRows_le l m o
  have k2 := cmpRows_bound l m
  have k3 := cmpRows_bound m o
  have k4 := cmpRows_bound l o
  refine line_core A A' A'' l.length m.length o.length c c' c'' (cmpRows l m) (cmpRows m o) (cmpRows l o) (chkRow l) (chkRow m) (decide (l = m)) w (fun W => Vals W W.heap.size A l ∧ Vals W W.heap.size A' m ∧ Vals W W.heap.size A'' o) ⟨hl, hm, ho⟩
    (fun W W' h hb => ⟨vals_keep h.1 hb, vals_keep h.2.1 hb, vals_keep h.2.2 hb⟩) k2.1 k2.2 k3.1 k3.2
    (fun W h => Lib.hid (rows_any _ _ _ _ _ _ W h.1 h.2.1 hn hn')) (fun W h => Lib.hid (rows_any _ _ _ _ _ _ W h.2.1 h.2.2 hn' hn'')) (fun W h => Lib.hid (rows_any _ _ _ _ _ _ W h.1 h.2.2 hn hn''))
    (fun W h => Lib.hid (by have := rows_any _ _ c' c _ _ W h.2.1 h.1 hn' hn; rwa [cmpRows_swap l m] at this)) (fun W h => Lib.hid (by have := rows_any _ _ c c _ _ W h.1 h.1 hn hn; rwa [cmpRows_self l] at this))
    (fun W h => Lib.hid (vcheck_any _ _ _ W h.1 hn fun v hv => (hlo v hv).1)) (fun W h => Lib.hid (vcheck_any _ _ _ W h.2.1 hn' fun v hv => (hmo v hv).1)) (fun W h => Lib.hid (vsame_any _ _ _ _ _ _ W h.1 h.2.1 hn hn')) ?_ ?_
  · by_cases h1 : cmpRows l m ≤ 0
    · by_cases h2 : cmpRows m o ≤ 0
      · obtain ⟨h3, h4⟩ := k1 h1 h2
        by_cases h5 : cmpRows l o = 0
        · exact .inl ⟨by omega, by omega, h5⟩
        · exact .inr (.inl ⟨by simpa using h1, by simpa using h2, by simp; omega, by simp; omega⟩)
      · exact .inr (.inr (.inr ⟨by simpa using h1, by simp; omega⟩))
    · exact .inr (.inr (.inl (by simp; omega)))
  · rcases chk_case l with ⟨h1, h2⟩ | h1
    · rcases chk_case m with ⟨h3, h4⟩ | h3
      · refine .inr (.inr ⟨h1, h3, ?_⟩)
        rw [Bool.eq_iff_iff, beq_iff_eq, decide_eq_true_eq]
        exact cmpRows_right h2 h4
      · exact .inr (.inl ⟨h1, h3⟩)
    · exact .inl h1
end Go.Proofs.Ythcoobennehkfaa
