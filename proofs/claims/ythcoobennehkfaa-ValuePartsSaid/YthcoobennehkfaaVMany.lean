/- ValueMany returns true. -/
import Derived.Test.YthcoobennehkfaaVMakes
import Derived.Test.YthcoobennehkfaaVSame
import Derived.Test.YthcoobennehkfaaVLine
namespace Go.Proofs.Ythcoobennehkfaa
open Go Go.RowKit

theorem chk_zero {l : List Vl} : chkRow l = 0 ↔ l.all Vl.right = true ∧ l.length ≤ 8 := by
  unfold chkRow
  by_cases h : (l.all Vl.right && decide (l.length ≤ 8)) = true
  · rw [if_pos h]; simp only [Bool.and_eq_true, decide_eq_true_eq] at h; simp [h]
  · rw [if_neg h]
    simp only [Bool.and_eq_true, decide_eq_true_eq] at h
    exact ⟨fun h => absurd h (by decide), fun k => absurd k h⟩
theorem joinE_zero {L : List (List Vl)} : joinE L = 0 ↔ okRows L = true ∧ lens L ≤ 8 := by
  unfold joinE
  cases okRows L <;> by_cases h : lens L ≤ 8 <;> simp [h]
theorem many_spec (a b c : List Vl) : (joinE [a, b] ≠ 0 → joinE [a, b, c] ≠ 0) ∧ (joinE [a, b] = 0 → joinL [a, b] = a ++ b ∧ joinE [a ++ b, c] = joinE [a, b, c] ∧ joinL [a ++ b, c] = joinL [a, b, c]) := by
  have l3 : lens [a, b, c] = a.length + b.length + c.length := by simp [lens]; omega
  have l2 : lens [a, b] = a.length + b.length := by simp [lens]
  have l4 : lens [a ++ b, c] = a.length + b.length + c.length := by simp [lens]
  refine ⟨fun h k => h ?_, fun h => ?_⟩
  · rw [joinE_zero] at k ⊢
    refine ⟨?_, by omega⟩
    have := k.1
    simp only [okRows, List.all_cons, List.all_nil, Bool.and_true, Bool.and_eq_true] at this ⊢
    exact ⟨this.1, this.2.1⟩
  · rw [joinE_zero] at h
    obtain ⟨h1, h2⟩ := h
    have hab : chkRow (a ++ b) = 0 := by
      simp only [okRows, List.all_cons, List.all_nil, Bool.and_true, Bool.and_eq_true, decide_eq_true_eq] at h1
      have ha := (chk_zero.1 h1.1).1
      have hb := (chk_zero.1 h1.2).1
      exact chk_zero.2 ⟨by rw [List.all_append, ha, hb]; rfl, by rw [List.length_append]; omega⟩
    have ho : okRows [a ++ b, c] = okRows [a, b, c] := by
      simp only [okRows, List.all_cons, List.all_nil, Bool.and_true] at h1 ⊢
      rw [← Bool.and_assoc, h1, hab]
      rfl
    refine ⟨by unfold joinL; rw [h1]; simp [h2], ?_, ?_⟩
    · unfold joinE; rw [ho, l3, l4]
    · unfold joinL; rw [ho, l3, l4]; simp

set_option maxRecDepth 100000 in
set_option maxHeartbeats 3200000 in
theorem vmany_walk (A : Option Addr) (c : Nat) (l : List Vl) (A' : Option Addr) (c' : Nat) (m : List Vl) (A'' : Option Addr) (c'' : Nat) (o : List Vl) (w : World)
    (hl : Vals w w.heap.size A l) (hc : l.length ≤ c) (hcm : c ≤ maxLen) (hlo : ∀ v ∈ l, VOk v) (hm : Vals w w.heap.size A' m) (hc' : m.length ≤ c') (hcm' : c' ≤ maxLen) (hmo : ∀ v ∈ m, VOk v)
    (ho : Vals w w.heap.size A'' o) (hc'' : o.length ≤ c'') (hcm'' : c'' ≤ maxLen) (hoo : ∀ v ∈ o, VOk v) :
    Calls Try.prog 9 #[.slice A l.length c, .slice A' m.length c', .slice A'' o.length c''] w fun e w' => e = .returned (.bool true) ∧ Below w.heap.size w w' := by
  have hn := Nat.le_trans hc hcm
  have hn' := Nat.le_trans hc' hcm'
  have hn'' := Nat.le_trans hc'' hcm''
  obtain ⟨hs1, hs2⟩ := many_spec l m o
  have a0 := fun W => Lib.hid (makes_true W)
  have h3 : ∀ x ∈ [l, m, o], x.length ≤ maxLen := by intro x hx; simp at hx; rcases hx with rfl | rfl | rfl <;> assumption
  have v3 : ∀ x ∈ [l, m, o], ∀ v ∈ x, VOk v := by intro x hx; simp at hx; rcases hx with rfl | rfl | rfl <;> assumption
  have h2 : ∀ x ∈ [l, m], x.length ≤ maxLen := by intro x hx; simp at hx; rcases hx with rfl | rfl <;> assumption
  have v2 : ∀ x ∈ [l, m], ∀ v ∈ x, VOk v := by intro x hx; simp at hx; rcases hx with rfl | rfl <;> assumption
  have k3 := fun B W h => Lib.hid (join_any B 3 [l, m, o] W h (by simp) h3 v3)
  have k2 := fun B W h => Lib.hid (join_any B 2 [l, m] W h (by simp) h2 v2)
  have Hl := Lib.hid (And.intro hl (And.intro hm ho))
  unfold JoinPost at k3 k2
  by_cases hE : joinE [l, m] = 0
  · obtain ⟨hj, he, hjl⟩ := hs2 hE
    have hab8 : (l ++ m).length ≤ 8 := by
      have h8 := (joinE_zero.1 hE).2
      simp [lens] at h8
      rw [List.length_append]; omega
    have h2' : ∀ x ∈ [l ++ m, o], x.length ≤ maxLen := by
      intro x hx
      simp at hx
      rcases hx with rfl | rfl
      · unfold maxLen; omega
      · exact hn''
    have v2' : ∀ x ∈ [l ++ m, o], ∀ v ∈ x, VOk v := by
      intro x hx
      simp at hx
      rcases hx with rfl | rfl
      · intro v hv
        rcases List.mem_append.1 hv with h | h
        · exact hlo v h
        · exact hmo v h
      · exact hoo
    have k4 := fun B W h => Lib.hid (join_any B 2 [l ++ m, o] W h (by simp) h2' v2')
    unfold JoinPost at k4
    rw [he, hjl] at k4
    rw [hE, hj] at k2
    generalize joinE [l, m, o] = E at *
    have hrb : (joinL [l, m, o]).length ≤ 8 := by
      unfold joinL
      split
      · rename_i h; simp only [Bool.and_eq_true, decide_eq_true_eq] at h; rw [lens_flat]; exact h.2
      · simp
    generalize joinL [l, m, o] = R at *
    have k5 := fun B B' k k' W h h' => Lib.hid (vsame_any B B' k k' R R W h h' (by unfold maxLen; omega) (by unfold maxLen; omega))
    rw [decide_eq_true rfl] at k5
    have HL := Lib.hid (show (l ++ m).length = l.length + m.length from List.length_append)
    clear hl hm ho hc hc' hc'' hcm hcm' hcm'' hlo hmo hoo hs1 hs2 h3 v3 h2 v2 h2' v2' hE hj he hjl hn hn' hn''
    go_enter Try.func9, Try.ntmps9
    go_wp2_with fail
    refine (a0 _).out.mono ?_
    rintro e w1 ⟨rfl, b1⟩
    have H1 := Lib.hid (And.intro b1 (And.intro (vals_keep Hl.out.1 b1) (And.intro (vals_keep Hl.out.2.1 b1) (vals_keep Hl.out.2.2 b1))))
    clear b1
    go_wp2_with fail
    refine (k3 _ _ (rows3 rfl rfl rfl rfl H1.out.2.1 H1.out.2.2.1 H1.out.2.2.2)).out.mono ?_
    rintro e w2 ⟨x2, rfl, o2, b2⟩
    obtain ⟨A2, c2, rfl, _, _, t2⟩ := vals_of_own rfl o2
    have hb2 := below_then ((Below.refl w1.heap.size w1).alloc (Nat.le_refl _) _) (by simp) b2
    have H2 := Lib.hid (And.intro hb2 t2)
    clear o2 b2 t2 hb2
    go_wp2_with fail
    refine (k2 _ _ (rows2 rfl rfl rfl (vals_keep H1.out.2.1 H2.out.1) (vals_keep H1.out.2.2.1 H2.out.1))).out.mono ?_
    rintro e w3 ⟨x3, rfl, o3, b3⟩
    obtain ⟨A3, c3, rfl, _, _, t3⟩ := vals_of_own rfl o3
    have hb3 := below_then ((Below.refl w2.heap.size w2).alloc (Nat.le_refl _) _) (by simp) b3
    have H3 := Lib.hid (And.intro hb3 t3)
    clear o3 b3 t3 hb3
    have hb23 := Lib.hid (belows H2.out.1 H3.out.1)
    go_wp2_with fail
    refine (k4 _ _ (rows2 HL.out rfl rfl H3.out.2 (vals_keep H1.out.2.2.2 hb23.out))).out.mono ?_
    rintro e w4 ⟨x4, rfl, o4, b4⟩
    obtain ⟨A4, c4, rfl, _, _, t4⟩ := vals_of_own rfl o4
    have hb4 := below_then ((Below.refl w3.heap.size w3).alloc (Nat.le_refl _) _) (by simp) b4
    have H4 := Lib.hid (And.intro hb4 t4)
    clear o4 b4 t4 hb4
    have hb34 := Lib.hid (belows H3.out.1 H4.out.1)
    go_wp2_with fail
    refine (k5 _ _ _ _ _ (vals_keep H2.out.2 hb34.out) H4.out.2).out.mono ?_
    rintro e w5 ⟨rfl, b5⟩
    have B5 := Lib.hid b5
    clear b5
    go_wp2_with fail
    go_ret
    exact ⟨rfl, belows H1.out.1 (belows H2.out.1 (belows hb34.out B5.out))⟩
  · have hE3 := hs1 hE
    have t1 : (joinE [l, m] != 0) = true := by simpa using hE
    have t3 : (joinE [l, m, o] != 0) = true := by simpa using hE3
    generalize joinE [l, m] = E2 at *
    generalize joinE [l, m, o] = E at *
    clear hl hm ho hc hc' hc'' hcm hcm' hcm'' hlo hmo hoo hs1 hs2 h3 v3 h2 v2 hE hE3 hn hn' hn''
    go_enter Try.func9, Try.ntmps9
    go_wp2_with fail
    refine (a0 _).out.mono ?_
    rintro e w1 ⟨rfl, b1⟩
    have H1 := Lib.hid (And.intro b1 (And.intro (vals_keep Hl.out.1 b1) (And.intro (vals_keep Hl.out.2.1 b1) (vals_keep Hl.out.2.2 b1))))
    clear b1
    go_wp2_with fail
    refine (k3 _ _ (rows3 rfl rfl rfl rfl H1.out.2.1 H1.out.2.2.1 H1.out.2.2.2)).out.mono ?_
    rintro e w2 ⟨x2, rfl, o2, b2⟩
    have hb2 := below_then ((Below.refl w1.heap.size w1).alloc (Nat.le_refl _) _) (by simp) b2
    have H2 := Lib.hid hb2
    clear o2 b2 hb2
    go_wp2_with fail
    refine (k2 _ _ (rows2 rfl rfl rfl (vals_keep H1.out.2.1 H2.out) (vals_keep H1.out.2.2.1 H2.out))).out.mono ?_
    rintro e w3 ⟨x3, rfl, o3, b3⟩
    have hb3 := below_then ((Below.refl w2.heap.size w2).alloc (Nat.le_refl _) _) (by simp) b3
    have H3 := Lib.hid hb3
    clear o3 b3 hb3
    go_wp2_with fail
    go_ret
    exact ⟨rfl, belows H1.out.1 (belows H2.out H3.out)⟩
end Go.Proofs.Ythcoobennehkfaa
