/- ValueParts returns true. -/
import Derived.Test.YthcoobennehkfaaVMany
import Derived.Test.YthcoobennehkfaaIntsOwn
namespace Go.Proofs.Ythcoobennehkfaa
open Go Go.RowKit

/-- the columns of the first row, and of the second one, behind k of them -/
def firstL (a k : Nat) : List Int := (List.range (min k a)).map fun i : Nat => (i : Int)
def secondL (a k : Nat) : List Int := (List.range (k - a)).map fun i : Nat => ((a + i : Nat) : Int)
theorem first_less {a k : Nat} (h : k < a) : firstL a (k + 1) = firstL a k ++ [(k : Int)] ∧ secondL a (k + 1) = secondL a k := by
  unfold firstL secondL
  rw [Nat.min_eq_left (by omega), Nat.min_eq_left (by omega), List.range_succ, show k + 1 - a = 0 by omega, show k - a = 0 by omega]
  simp
theorem first_more {a k : Nat} (h : a ≤ k) : firstL a (k + 1) = firstL a k ∧ secondL a (k + 1) = secondL a k ++ [(k : Int)] := by
  unfold firstL secondL
  rw [Nat.min_eq_right (by omega), Nat.min_eq_right (by omega), show k + 1 - a = (k - a) + 1 by omega, List.range_succ]
  simp
  omega
theorem first_len (a k : Nat) : (firstL a k).length = min k a := by simp [firstL]
theorem second_len (a k : Nat) : (secondL a k).length = k - a := by simp [secondL]
theorem parts_spec (a b : List Vl) (h : joinE [a, b] = 0) : colsE (a ++ b) (firstL a.length (a ++ b).length) = 0 ∧ colsL (a ++ b) (firstL a.length (a ++ b).length) = a ∧ colsE (a ++ b) (secondL a.length (a ++ b).length) = 0 ∧ colsL (a ++ b) (secondL a.length (a ++ b).length) = b := by
  rw [joinE_zero] at h
  obtain ⟨h1, h2⟩ := h
  have hlen : lens [a, b] = a.length + b.length := by simp [lens]
  have hab : chkRow (a ++ b) = 0 := by
    simp only [okRows, List.all_cons, List.all_nil, Bool.and_true, Bool.and_eq_true, decide_eq_true_eq] at h1
    exact chk_zero.2 ⟨by rw [List.all_append, (chk_zero.1 h1.1).1, (chk_zero.1 h1.2).1]; rfl, by rw [List.length_append]; omega⟩
  have hL : (a ++ b).length = a.length + b.length := List.length_append
  have i1 : (firstL a.length (a ++ b).length).all (inR (a ++ b).length) = true := by
    rw [List.all_eq_true]
    intro x hx
    obtain ⟨i, hi, rfl⟩ := List.mem_map.1 hx
    have := List.mem_range.1 hi
    unfold inR
    simp only [Bool.and_eq_true, decide_eq_true_eq]
    omega
  have i2 : (secondL a.length (a ++ b).length).all (inR (a ++ b).length) = true := by
    rw [List.all_eq_true]
    intro x hx
    obtain ⟨i, hi, rfl⟩ := List.mem_map.1 hx
    have := List.mem_range.1 hi
    unfold inR
    simp only [Bool.and_eq_true, decide_eq_true_eq]
    omega
  have e1 : colsE (a ++ b) (firstL a.length (a ++ b).length) = 0 := by
    unfold colsE
    rw [if_pos hab, if_pos i1, first_len, if_pos (by omega)]
  have e2 : colsE (a ++ b) (secondL a.length (a ++ b).length) = 0 := by
    unfold colsE
    rw [if_pos hab, if_pos i2, second_len, if_pos (by omega)]
  refine ⟨e1, ?_, e2, ?_⟩
  · unfold colsL
    rw [if_pos e1]
    apply List.ext_getElem?
    intro i
    unfold firstL
    rw [List.map_map, List.getElem?_map, hL, Nat.min_eq_right (by omega)]
    by_cases hi : i < a.length
    · rw [List.getElem?_range hi]
      simp [pick, List.getElem?_append_left hi, hi]
    · rw [List.getElem?_eq_none (by simp; omega), List.getElem?_eq_none (by omega)]; rfl
  · unfold colsL
    rw [if_pos e2]
    apply List.ext_getElem?
    intro i
    unfold secondL
    rw [List.map_map, List.getElem?_map, hL, show a.length + b.length - a.length = b.length by omega]
    by_cases hi : i < b.length
    · rw [List.getElem?_range hi]
      have : ((a.length : Int) + (i : Int)).toNat = a.length + i := by omega
      simp [pick, this, List.getElem?_append_right, hi]
    · rw [List.getElem?_eq_none (by simp; omega), List.getElem?_eq_none (by omega)]; rfl
theorem part_ok {l m : List Vl} (hlo : ∀ v ∈ l, VOk v) (hmo : ∀ v ∈ m, VOk v) : ∀ v ∈ l ++ m, VOk v := fun v hv => by
  rcases List.mem_append.1 hv with h | h
  · exact hlo v h
  · exact hmo v h
theorem infoInt : (Try.prog.info? 3).map (fun i => (i.zero, i.size, i.bytes)) = some (some (.int .i64 0), 1, 8) := by kernel_rfl

set_option maxRecDepth 100000 in
set_option maxHeartbeats 6400000 in
theorem vparts_walk (A : Option Addr) (c : Nat) (l : List Vl) (A' : Option Addr) (c' : Nat) (m : List Vl) (w : World)
    (hl : Vals w w.heap.size A l) (hc : l.length ≤ c) (hcm : c ≤ maxLen) (hlo : ∀ v ∈ l, VOk v) (hm : Vals w w.heap.size A' m) (hc' : m.length ≤ c') (hcm' : c' ≤ maxLen) (hmo : ∀ v ∈ m, VOk v) :
    Calls Try.prog 8 #[.slice A l.length c, .slice A' m.length c'] w fun e w' => e = .returned (.bool true) ∧ Below w.heap.size w w' := by
  have hn := Nat.le_trans hc hcm
  have hn' := Nat.le_trans hc' hcm'
  obtain ⟨i0, hi, hz0, hz1, hz2⟩ := info_parts infoInt
  have hU := Try.underlying37
  have a0 := fun W => Lib.hid (makes_true W)
  have h2 : ∀ x ∈ [l, m], x.length ≤ maxLen := by intro x hx; simp at hx; rcases hx with rfl | rfl <;> assumption
  have v2 : ∀ x ∈ [l, m], ∀ v ∈ x, VOk v := by intro x hx; simp at hx; rcases hx with rfl | rfl <;> assumption
  have k2 := fun B W h => Lib.hid (join_any B 2 [l, m] W h (by simp) h2 v2)
  have Hl := Lib.hid (And.intro hl hm)
  have s1 := fun B k W h h' => Lib.hid (vsame_any B A k c l l W h h' hn hn)
  have s2 := fun B k W h h' => Lib.hid (vsame_any B A' k c' m m W h h' hn' hn')
  rw [decide_eq_true rfl] at s1 s2
  unfold JoinPost at k2
  by_cases hE : joinE [l, m] = 0
  · obtain ⟨p1, p2, p3, p4⟩ := parts_spec l m hE
    have hj := ((many_spec l m []).2 hE).1
    have hab8 : l.length + m.length ≤ 8 := by
      have h8 := (joinE_zero.1 hE).2
      simp [lens] at h8
      omega
    have hok := part_ok hlo hmo
    have hLL : (l ++ m).length = l.length + m.length := List.length_append
    have q1 := fun B k B' k' W h h' => Lib.hid (cols_any B k (l ++ m) B' k' (firstL l.length (l ++ m).length) W h (by unfold maxLen; omega) hok h' (by rw [first_len]; unfold maxLen; omega))
    have q2 := fun B k B' k' W h h' => Lib.hid (cols_any B k (l ++ m) B' k' (secondL l.length (l ++ m).length) W h (by unfold maxLen; omega) hok h' (by rw [second_len]; unfold maxLen; omega))
    unfold ColsPost at q1 q2
    rw [p1, p2] at q1
    rw [p3, p4] at q2
    rw [hE, hj] at k2
    rw [hLL] at q1 q2
    have HL := Lib.hid hLL
    clear hl hm hc hc' hcm hcm' hlo hmo h2 v2 hE hj p1 p2 p3 p4 hok hn hn' hLL
    go_enter Try.func8, Try.ntmps8
    go_wp2_with fail
    refine (a0 _).out.mono ?_
    rintro e w1 ⟨rfl, b1⟩
    have H1 := Lib.hid (And.intro b1 (And.intro (vals_keep Hl.out.1 b1) (vals_keep Hl.out.2 b1)))
    clear b1
    go_wp2_with fail
    refine (k2 _ _ (rows2 rfl rfl rfl H1.out.2.1 H1.out.2.2)).out.mono ?_
    rintro e w2 ⟨x2, rfl, o2, b2⟩
    obtain ⟨A2, c2, rfl, _, _, t2⟩ := vals_of_own rfl o2
    have hb2 := below_then ((Below.refl w1.heap.size w1).alloc (Nat.le_refl _) _) (by simp) b2
    have H2 := Lib.hid (And.intro hb2 (And.intro t2 (And.intro (vals_keep H1.out.2.1 hb2) (vals_keep H1.out.2.2 hb2))))
    clear o2 b2 t2 hb2
    rw [HL.out]
    go_wp2_with fail
    go_loopw [7, 8, 30] (fun v y i wr => ∃ k : Nat, i = .int .i64 (k : Int) ∧ k ≤ l.length + m.length ∧ wr.ownsRow w2.heap.size 3 1 v (firstL l.length k).length ((firstL l.length k).map cellI) ∧ wr.ownsRow w2.heap.size 3 1 y (secondL l.length k).length ((secondL l.length k).map cellI) ∧ Sep v y ∧ Below w2.heap.size w2 wr)
      (fun _ _ i _ => l.length + m.length - (intOf i).toNat)
    case atStart => exact ⟨0, rfl, by omega, by simpa [firstL] using World.ownsRow_nil _ _ _ _, by simpa [secondL] using World.ownsRow_nil _ _ _ _, Sep.nil_ _, Below.refl _ _⟩
    case round =>
      obtain ⟨k, rfl, hk, hv, hy, hs, hb⟩ := hrel
      obtain ⟨n1, e1⟩ : ∃ n, (firstL l.length k).length = n := ⟨_, rfl⟩
      obtain ⟨n2, e2⟩ : ∃ n, (secondL l.length k).length = n := ⟨_, rfl⟩
      obtain ⟨F, e3⟩ : ∃ F, (firstL l.length k).map cellI = F := ⟨_, rfl⟩
      obtain ⟨G, e4⟩ : ∃ G, (secondL l.length k).map cellI = G := ⟨_, rfl⟩
      have b1 : n1 ≤ 8 := by rw [← e1, first_len]; omega
      have b2 : n2 ≤ 8 := by rw [← e2, second_len]; omega
      by_cases hlt : k < l.length + m.length
      · have tl : decide ((k : Int) < ((l.length : Nat) : Int) + ((m.length : Nat) : Int)) = true := by simp; omega
        rw [e1, e3] at hv
        rw [e2, e4] at hy
        have HN := Lib.hid (And.intro e1 (And.intro e2 (And.intro e3 e4)))
        clear e1 e2 e3 e4
        by_cases hkl : k < l.length
        · have t2 : decide ((k : Int) < ((l.length : Nat) : Int)) = true := by simp; omega
          obtain ⟨f1, f2⟩ := first_less hkl
          have HH := Lib.hid (And.intro hb (And.intro hv (And.intro hy (And.intro hs (And.intro f1 f2)))))
          clear hb hv hy hs f1 f2
          go_wp2_with (at_builtin; refine wpList_push _ rfl _ _ 37 rfl w2.heap.size 3 i0 _ 1 8 hU hi hz0 hz1 hz2 rfl (by decide) _ _ _ rfl HH.out.2.1 #[.int .i64 (k : Int)] rfl rfl ?c1 ?c2 ?c3 ?c4 ?_)
          case c1 => rfl
          case c2 => unfold maxLen; omega
          case c3 => omega
          case c4 => exact HH.out.1.size
          intro v' w' ho' hb' hv' hg'
          have H3 := Lib.hid (And.intro ho' (And.intro hb' (And.intro hv' hg')))
          clear ho' hb' hv' hg'
          go_wp2_with fail
          go_roundw
          case rel =>
            obtain ⟨hb, hv, hy, hs, f1, f2⟩ := HH.out
            obtain ⟨ho', hb', hv', hg'⟩ := H3.out
            refine ⟨k + 1, by go_num, by omega, ?_⟩
            rw [f1, f2]
            exact ⟨own_snoc ho' HN.out.2.2.1 HN.out.1, by rw [HN.out.2.1, HN.out.2.2.2]; exact hy.kept hg' hs.kept, hs.pushed (fun b hb => (hy.lt b hb).2) hv', hb.trans hb'⟩
          case measure => simp [intOf]; omega
        · have t2 : decide ((k : Int) < ((l.length : Nat) : Int)) = false := by simp; omega
          obtain ⟨f1, f2⟩ := first_more (show l.length ≤ k by omega)
          have HH := Lib.hid (And.intro hb (And.intro hv (And.intro hy (And.intro hs (And.intro f1 f2)))))
          clear hb hv hy hs f1 f2
          go_wp2_with (at_builtin; refine wpList_push _ rfl _ _ 37 rfl w2.heap.size 3 i0 _ 1 8 hU hi hz0 hz1 hz2 rfl (by decide) _ _ _ rfl HH.out.2.2.1 #[.int .i64 (k : Int)] rfl rfl ?c1 ?c2 ?c3 ?c4 ?_)
          case c1 => rfl
          case c2 => unfold maxLen; omega
          case c3 => omega
          case c4 => exact HH.out.1.size
          intro v' w' ho' hb' hv' hg'
          have H3 := Lib.hid (And.intro ho' (And.intro hb' (And.intro hv' hg')))
          clear ho' hb' hv' hg'
          go_wp2_with fail
          go_roundw
          case rel =>
            obtain ⟨hb, hv, hy, hs, f1, f2⟩ := HH.out
            obtain ⟨ho', hb', hv', hg'⟩ := H3.out
            refine ⟨k + 1, by go_num, by omega, ?_⟩
            rw [f1, f2]
            exact ⟨by rw [HN.out.1, HN.out.2.2.1]; exact hv.kept hg' hs.symm.kept, own_snoc ho' HN.out.2.2.2 HN.out.2.1, (hs.symm.pushed (fun b hb => (hv.lt b hb).2) hv').symm, hb.trans hb'⟩
          case measure => simp [intOf]; omega
      · have tl : decide ((k : Int) < ((l.length : Nat) : Int) + ((m.length : Nat) : Int)) = false := by simp; omega
        have hk2 : k = l.length + m.length := by omega
        subst hk2
        clear e1 e2 e3 e4
        obtain ⟨A7, c7, rfl, _, _, t7⟩ := ints_of_own rfl hv
        obtain ⟨A8, c8, rfl, _, _, t8⟩ := ints_of_own rfl hy
        have H7 := Lib.hid (And.intro hb (And.intro t7 (And.intro t8 (vals_keep H2.out.2.1 hb))))
        clear hv hy hs hb t7 t8
        obtain ⟨wo, rfl⟩ : ∃ wo : World, wo = wr := ⟨_, rfl⟩
        go_wp2_with fail
        refine (q1 A2 c2 A7 c7 _ H7.out.2.2.2 H7.out.2.1).out.mono ?_
        rintro e w3 ⟨x3, rfl, o3, b3⟩
        obtain ⟨A3, c3, rfl, _, _, t3⟩ := vals_of_own rfl o3
        have H3 := Lib.hid (And.intro b3 t3)
        clear o3 b3 t3
        go_wp2_with fail
        refine (q2 A2 c2 A8 c8 _ (vals_keep H7.out.2.2.2 H3.out.1) (ints_keep H7.out.2.2.1 H3.out.1)).out.mono ?_
        rintro e w4 ⟨x4, rfl, o4, b4⟩
        obtain ⟨A4, c4, rfl, _, _, t4⟩ := vals_of_own rfl o4
        have hb24 := belows H7.out.1 (belows H3.out.1 b4)
        have H4 := Lib.hid (And.intro hb24 (And.intro (vals_keep H3.out.2 b4) (And.intro t4 (And.intro (vals_keep H2.out.2.2.1 hb24) (vals_keep H2.out.2.2.2 hb24)))))
        clear o4 b4 t4 hb24
        go_wp2_with fail
        refine (s1 _ _ _ H4.out.2.1 H4.out.2.2.2.1).out.mono ?_
        rintro e w5 ⟨rfl, b5⟩
        have B5 := Lib.hid b5
        clear b5
        go_wp2_with fail
        refine (s2 _ _ _ (vals_keep H4.out.2.2.1 B5.out) (vals_keep H4.out.2.2.2.2 B5.out)).out.mono ?_
        rintro e w6 ⟨rfl, b6⟩
        have B6 := Lib.hid b6
        clear b6
        go_wp2_with fail
        go_ret
        exact ⟨rfl, belows H1.out.1 (belows H2.out.1 (belows H4.out.1 (belows B5.out B6.out)))⟩
  · have t1 : (joinE [l, m] != 0) = true := by simpa using hE
    have hr : joinL [l, m] = [] := by
      unfold joinL
      rw [if_neg]
      intro h
      simp only [Bool.and_eq_true, decide_eq_true_eq] at h
      exact hE (joinE_zero.2 h)
    rw [hr] at k2
    generalize joinE [l, m] = E2 at *
    clear hl hm hc hc' hcm hcm' hlo hmo h2 v2 hE hn hn' hr hi hz0 hz1 hz2
    go_enter Try.func8, Try.ntmps8
    go_wp2_with fail
    refine (a0 _).out.mono ?_
    rintro e w1 ⟨rfl, b1⟩
    have H1 := Lib.hid (And.intro b1 (And.intro (vals_keep Hl.out.1 b1) (vals_keep Hl.out.2 b1)))
    clear b1
    go_wp2_with fail
    refine (k2 _ _ (rows2 rfl rfl rfl H1.out.2.1 H1.out.2.2)).out.mono ?_
    rintro e w2 ⟨x2, rfl, o2, b2⟩
    obtain ⟨A2, c2, rfl, _, _, t2⟩ := vals_of_own rfl o2
    have hb2 := below_then ((Below.refl w1.heap.size w1).alloc (Nat.le_refl _) _) (by simp) b2
    have H2 := Lib.hid hb2
    clear o2 b2 t2 hb2
    go_wp2_with fail
    go_ret
    exact ⟨rfl, belows H1.out.1 H2.out⟩
end Go.Proofs.Ythcoobennehkfaa
