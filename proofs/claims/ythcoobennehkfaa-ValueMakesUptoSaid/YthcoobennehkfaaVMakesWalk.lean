/- ValueMakes returns true. -/
import Derived.Test.YthcoobennehkfaaVMakes
import Derived.Test.YthcoobennehkfaaVSame
import Derived.Test.YthcoobennehkfaaVRefCols
import Derived.Test.YthcoobennehkfaaVRefJoin
namespace Go.Proofs.Ythcoobennehkfaa
open Go Go.RowKit

theorem joinL_len (L : List (List Vl)) : (joinL L).length ≤ 8 := by
  unfold joinL
  split
  · rename_i h; simp only [Bool.and_eq_true, decide_eq_true_eq] at h; rw [lens_flat]; exact h.2
  · simp
theorem colsL_len (l : List Vl) (cs : List Int) : (colsL l cs).length ≤ 8 := by
  unfold colsL
  split
  · rename_i h
    rw [List.length_map]
    unfold colsE at h
    split at h
    · split at h
      · split at h
        · assumption
        · cases h
      · cases h
    · cases h
  · simp
set_option maxRecDepth 100000 in
set_option maxHeartbeats 6400000 in
theorem vmakes_walk (A : Option Addr) (c : Nat) (l : List Vl) (A' : Option Addr) (c' : Nat) (cs : List Int) (A'' : Option Addr) (c'' : Nat) (L : List (List Vl)) (w : World)
    (hl : Vals w w.heap.size A l) (hc : l.length ≤ c) (hbl : l.length ≤ 1048576) (hcm : c ≤ maxLen) (hlo : ∀ v ∈ l, VOk v) (hcs : Ints w w.heap.size A' cs) (hc' : cs.length ≤ c') (hbc : cs.length ≤ 1048576) (hcm' : c' ≤ maxLen) (_ : Fit64 cs)
    (hL : RowsAt w w.heap.size A'' L) (hc'' : L.length ≤ c'') (hbL : L.length ≤ 1048576) (hcm'' : c'' ≤ maxLen) (hLo : (∀ l ∈ L, l.length ≤ maxLen) ∧ ∀ l ∈ L, ∀ v ∈ l, VOk v) (_ : l.length + cs.length + L.length ≤ 1048576) :
    Calls Try.prog 5 #[.slice A l.length c, .slice A' cs.length c', .slice A'' L.length c''] w fun e w' => e = .returned (.bool true) ∧ Below w.heap.size w w' := by
  have a0 := fun W => Lib.hid (makes_true W)
  have k1 := fun W h h' => Lib.hid (cols_any A c l A' c' cs W h (by unfold maxLen; omega) hlo h' (by unfold maxLen; omega))
  have k2 := fun W h h' => Lib.hid (refCols_any A c l A' c' cs W h (by unfold maxLen; omega) hlo h' hbc)
  have k3 := fun W h => Lib.hid (join_any A'' c'' L W h (by omega) hLo.1 hLo.2)
  have k4 := fun W h => Lib.hid (refJoin_any A'' c'' L W h (by omega) hLo.1 hLo.2)
  have p1 := colsL_len l cs
  have p2 := joinL_len L
  unfold ColsPost at k1 k2
  unfold JoinPost at k3 k4
  generalize colsE l cs = E at *
  generalize colsL l cs = R at *
  generalize joinE L = F at *
  generalize joinL L = S at *
  have s1 := fun B B' k k' W h h' => Lib.hid (vsame_any B B' k k' R R W h h' (by unfold maxLen; omega) (by unfold maxLen; omega))
  have s2 := fun B B' k k' W h h' => Lib.hid (vsame_any B B' k k' S S W h h' (by unfold maxLen; omega) (by unfold maxLen; omega))
  rw [decide_eq_true rfl] at s1 s2
  have Hl := Lib.hid (And.intro hl (And.intro hcs hL))
  clear hl hcs hL hc hc' hc'' hcm hcm' hcm'' hlo hLo hbl hbc hbL p1 p2
  go_enter Try.func5, Try.ntmps5
  go_wp2_with fail
  refine (k1 _ Hl.out.1 Hl.out.2.1).out.mono ?_
  rintro e w1 ⟨x1, rfl, o1, b1⟩
  obtain ⟨A1, c1, rfl, _, _, t1⟩ := vals_of_own rfl o1
  have H1 := Lib.hid (And.intro b1 t1)
  clear o1 b1 t1
  go_wp2_with fail
  refine (k2 _ (vals_keep Hl.out.1 H1.out.1) (ints_keep Hl.out.2.1 H1.out.1)).out.mono ?_
  rintro e w2 ⟨x2, rfl, o2, b2⟩
  obtain ⟨A2, c2, rfl, _, _, t2⟩ := vals_of_own rfl o2
  have H2 := Lib.hid (And.intro (belows H1.out.1 b2) (And.intro (vals_keep H1.out.2 b2) t2))
  clear o2 b2 t2
  go_wp2_with fail
  refine (k3 _ (rowsAt_keep Hl.out.2.2 H2.out.1)).out.mono ?_
  rintro e w3 ⟨x3, rfl, o3, b3⟩
  obtain ⟨A3, c3, rfl, _, _, t3⟩ := vals_of_own rfl o3
  have H3 := Lib.hid (And.intro (belows H2.out.1 b3) (And.intro (vals_keep H2.out.2.1 b3) (And.intro (vals_keep H2.out.2.2 b3) t3)))
  clear o3 b3 t3
  go_wp2_with fail
  refine (k4 _ (rowsAt_keep Hl.out.2.2 H3.out.1)).out.mono ?_
  rintro e w4 ⟨x4, rfl, o4, b4⟩
  obtain ⟨A4, c4, rfl, _, _, t4⟩ := vals_of_own rfl o4
  have H4 := Lib.hid (And.intro (belows H3.out.1 b4) (And.intro (vals_keep H3.out.2.1 b4) (And.intro (vals_keep H3.out.2.2.1 b4) (And.intro (vals_keep H3.out.2.2.2 b4) t4))))
  clear o4 b4 t4
  go_wp2_with fail
  refine (a0 _).out.mono ?_
  rintro e w5 ⟨rfl, b5⟩
  have B5 := Lib.hid b5
  clear b5
  go_wp2_with fail
  refine (s1 _ _ _ _ _ (vals_keep H4.out.2.1 B5.out) (vals_keep H4.out.2.2.1 B5.out)).out.mono ?_
  rintro e w6 ⟨rfl, b6⟩
  have B6 := Lib.hid (belows B5.out b6)
  clear b6
  go_wp2_with fail
  refine (s2 _ _ _ _ _ (vals_keep H4.out.2.2.2.1 B6.out) (vals_keep H4.out.2.2.2.2 B6.out)).out.mono ?_
  rintro e w7 ⟨rfl, b7⟩
  have B7 := Lib.hid b7
  clear b7
  go_wp2_with fail
  go_ret
  exact ⟨rfl, belows H4.out.1 (belows B6.out B7.out)⟩
end Go.Proofs.Ythcoobennehkfaa
