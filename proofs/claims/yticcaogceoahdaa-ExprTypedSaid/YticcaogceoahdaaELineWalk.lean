/- ExprLine returns true. -/
import Derived.Test.YticcaogceoahdaaELives
import Derived.Test.YticcaogceoahdaaELn
namespace Go.Proofs.Yticcaogceoahdaa
open Go Go.RowKit

theorem good_lcol (i : Int) (n : Nat) : good (n + 1) (lcol i) = true := by
  simp [good, nodeOk, lcol, Lx.kids, Lx.op, Lx.col, Lx.c, kidsOf, constOk, isZero, Vl.zero, ByteArray.size]
theorem nodeOk_two (o : Int) (G : Nat) (a b : Lx) (ho : kidsOf o = 2) : nodeOk (ltwo o G a b) = true := by
  have h2 : o ≠ 2 := fun h => by rw [h] at ho; exact absurd ho (by decide)
  have hc : constOk o Vl.zero = true := by unfold constOk; rw [if_neg h2]; decide
  show (((([a, b] : List Lx).length : Int) == kidsOf o) && (((0 : Int) == 0 || o == 1) && constOk o Vl.zero)) = true
  rw [ho, hc]
  simp
theorem good_two (o : Int) (G : Nat) (a b : Lx) (ho : kidsOf o = 2) (n : Nat) (ha : good n a = true) (hb : good n b = true) : good (n + 1) (ltwo o G a b) = true := by
  have h := nodeOk_two o G a b ho
  have hk : (ltwo o G a b).kids = [a, b] := rfl
  simp only [good, h, hk, Bool.true_and, List.all_cons, List.all_nil, ha, hb]
theorem cnt_two (o : Int) (G : Nat) (a b : Lx) (n : Nat) : cnt (n + 1) (ltwo o G a b) = 1 + (cnt n a + cnt n b) := by
  have hk : (ltwo o G a b).kids = [a, b] := rfl
  simp only [cnt, hk, List.map_cons, List.map_nil, List.sum_cons, List.sum_nil, Nat.add_zero]
theorem cnt_lcol (i : Int) (n : Nat) : cnt (n + 1) (lcol i) = 1 := rfl
theorem check_cols (o : Int) (G : Nat) (i k : Int) (ho : kidsOf o = 2) : checkE (ltwo o G (lcol i) (lcol k)) = 0 := by
  rw [checkE_ok]
  exact ⟨good_two o G _ _ ho 15 (good_lcol i 14) (good_lcol k 14), by rw [cnt_two, cnt_lcol, cnt_lcol]; decide⟩
def inR (row : List Vl) (i : Int) : Bool := decide (0 ≤ i) && decide (i < row.length)
def at_ (row : List Vl) (i : Int) : Vl := row.getD i.toNat default
theorem ev_col (row : List Vl) (i : Int) (u : Int) (n : Nat) : ev row (n + 1) (lcol i) u = if inR row i = true then (at_ row i, u) else (Vl.zero, fl u 1) := by
  have h : ev row (n + 1) (lcol i) u = if 0 ≤ i ∧ i < row.length then (at_ row i, u) else (Vl.zero, fl u 1) := rfl
  rw [h]
  unfold inR
  by_cases h1 : 0 ≤ i ∧ i < row.length
  · rw [if_pos h1, if_pos (by simp [h1.1, h1.2])]
  · rw [if_neg h1, if_neg (by simpa using h1)]
/-- what comparing two columns comes to -/
def cmpR (row : List Vl) (i k : Int) : Int × Int :=
  if inR row i = true ∧ inR row k = true then ((at_ row i).cmp (at_ row k), if (at_ row i).t = (at_ row k).t then 0 else 11) else (0, 1)
theorem cp_cols (row : List Vl) (o : Int) (G : Nat) (i k : Int) (n : Nat) : (cp (ev row (n + 1)) (ltwo o G (lcol i) (lcol k)) 0).2 = (cmpR row i k).2 ∧ ((cmpR row i k).2 = 0 → (cp (ev row (n + 1)) (ltwo o G (lcol i) (lcol k)) 0).1 = (cmpR row i k).1) := by
  have h0 : kid (ltwo o G (lcol i) (lcol k)) 0 = lcol i := rfl
  have h1 : kid (ltwo o G (lcol i) (lcol k)) 1 = lcol k := rfl
  unfold cp cmpR
  simp only [h0, h1, ev_col]
  cases hi : inR row i <;> cases hk : inR row k
  · have e : fl (fl 0 1) 1 = 1 := by decide
    simp only [Bool.false_eq_true, if_false, false_and, e]
    refine ⟨?_, fun h => by cases h⟩
    split <;> decide
  · have e : fl 0 1 = 1 := by decide
    simp only [Bool.false_eq_true, if_false, if_true, false_and, e]
    refine ⟨?_, fun h => by cases h⟩
    split <;> decide
  · have e : fl 0 1 = 1 := by decide
    simp only [Bool.false_eq_true, if_false, if_true, and_false, e]
    refine ⟨?_, fun h => by cases h⟩
    split <;> decide
  · simp only [if_true, and_self]
    by_cases ht : (at_ row i).t = (at_ row k).t
    · simp [ht]
    · have : ((at_ row i).t != (at_ row k).t) = true := by simpa using ht
      rw [this, if_neg ht]
      exact ⟨rfl, fun h => by cases h⟩
/-- what Eval answers for a comparison of columns -/
def lineR (row : List Vl) (o i k : Int) : Vl × Int :=
  if chkRow row = 0 then (if (cmpR row i k).2 = 0 then (Vl.num (if o = 7 then (if (cmpR row i k).1 < 0 then 1 else 0) else (if (cmpR row i k).1 = 0 then 1 else 0)), 0) else (Vl.zero, (cmpR row i k).2)) else (Vl.zero, chkRow row)
theorem evalE_cols (row : List Vl) (o : Int) (ho : o = 7 ∨ o = 8) (G : Nat) (i k : Int) : evalE row (ltwo o G (lcol i) (lcol k)) = lineR row o i k := by
  have hk2 : kidsOf o = 2 := by rcases ho with rfl | rfl <;> decide
  have h1 := check_cols o G i k hk2
  obtain ⟨c1, c2⟩ := cp_cols row o G i k 14
  have hop : (ltwo o G (lcol i) (lcol k)).op = o := rfl
  have h3 : ev row 16 (ltwo o G (lcol i) (lcol k)) 0 = (Vl.num (if (hd (ev row 15) (ltwo o G (lcol i) (lcol k)) 0).1 then 1 else 0), (hd (ev row 15) (ltwo o G (lcol i) (lcol k)) 0).2) := by
    conv => lhs; unfold ev
    rw [hop, if_neg (by omega), if_neg (by omega), if_neg (by omega), if_pos (by omega)]
  have h4 : (hd (ev row 15) (ltwo o G (lcol i) (lcol k)) 0).2 = (cmpR row i k).2 := by
    unfold hd; rw [hop]
    rcases ho with rfl | rfl
    · exact c1
    · exact c1
  have h5 : (cmpR row i k).2 = 0 → (if (hd (ev row 15) (ltwo o G (lcol i) (lcol k)) 0).1 = true then (1 : Int) else 0) = (if o = 7 then (if (cmpR row i k).1 < 0 then 1 else 0) else (if (cmpR row i k).1 = 0 then 1 else 0)) := by
    intro hz
    rw [← c2 hz]
    unfold hd; rw [hop]
    rcases ho with rfl | rfl
    · simp
    · simp
  unfold evalE lineR
  rw [if_pos h1, h3]
  dsimp only
  rw [h4]
  split
  · split
    · rename_i hz; rw [h5 hz]
    · rfl
  · rfl
theorem cmpR_swap (row : List Vl) (i k : Int) : (cmpR row k i).2 = (cmpR row i k).2 ∧ (cmpR row k i).1 = -(cmpR row i k).1 := by
  unfold cmpR
  cases inR row i <;> cases inR row k
  · simp
  · simp
  · simp
  · simp only [and_self, if_true]
    refine ⟨?_, Vl.cmp_swap _ _⟩
    by_cases h : (at_ row i).t = (at_ row k).t
    · rw [if_pos h, if_pos h.symm]
    · rw [if_neg h, if_neg (fun e => h e.symm)]
theorem line_cases (row : List Vl) (i k : Int) : ((lineR row 7 i k).2 ≠ 0 ∧ (lineR row 8 i k).2 = (lineR row 7 i k).2 ∧ (lineR row 7 k i).2 = (lineR row 7 i k).2) ∨
    (((lineR row 7 i k).2 = 0 ∧ (lineR row 8 i k).2 = 0 ∧ (lineR row 7 k i).2 = 0) ∧ (((lineR row 7 i k).1.n = 1 ∧ (lineR row 8 i k).1.n = 0 ∧ (lineR row 7 k i).1.n = 0) ∨ ((lineR row 7 i k).1.n = 0 ∧ (lineR row 8 i k).1.n = 1 ∧ (lineR row 7 k i).1.n = 0) ∨ ((lineR row 7 i k).1.n = 0 ∧ (lineR row 8 i k).1.n = 0 ∧ (lineR row 7 k i).1.n = 1))) := by
  obtain ⟨s1, s2⟩ := cmpR_swap row i k
  unfold lineR
  rw [s1, s2]
  generalize cmpR row i k = p
  obtain ⟨c, u⟩ := p
  dsimp only
  by_cases hc : chkRow row = 0
  · rw [if_pos hc, if_pos hc, if_pos hc]
    by_cases hu : u = 0
    · rw [if_pos hu, if_pos hu, if_pos hu]
      refine .inr ⟨⟨rfl, rfl, rfl⟩, ?_⟩
      simp only [Vl.num, if_true, show ((8 : Int) = 7) = False from by simp, if_false]
      by_cases h1 : c < 0
      · rw [if_pos h1, if_neg (by omega), if_neg (by omega)]; simp
      · by_cases h2 : c = 0
        · rw [if_neg h1, if_pos h2, if_neg (by omega)]; simp
        · rw [if_neg h1, if_neg h2, if_pos (by omega)]; simp
    · rw [if_neg hu, if_neg hu, if_neg hu]
      exact .inl ⟨hu, rfl, rfl⟩
  · rw [if_neg hc, if_neg hc, if_neg hc]
    exact .inl ⟨hc, rfl, rfl⟩
set_option maxRecDepth 100000 in
set_option maxHeartbeats 6400000 in
theorem line_core (A : Option Addr) (c : Nat) (row : List Vl) (i k : Int) (hi : -9223372036854775808 ≤ i ∧ i ≤ 9223372036854775807) (hk : -9223372036854775808 ≤ k ∧ k ≤ 9223372036854775807) (R1 R2 R3 : Vl × Int) (w : World) (hl : Vals w w.heap.size A row) (hn : row.length ≤ maxLen) (hr : ∀ v ∈ row, VOk v)
    (h1 : ∀ G, evalE row (ltwo 7 G (lcol i) (lcol k)) = R1) (h2 : ∀ G, evalE row (ltwo 8 G (lcol i) (lcol k)) = R2) (h3 : ∀ G, evalE row (ltwo 7 G (lcol k) (lcol i)) = R3)
    (key : (R1.2 ≠ 0 ∧ R2.2 = R1.2 ∧ R3.2 = R1.2) ∨ ((R1.2 = 0 ∧ R2.2 = 0 ∧ R3.2 = 0) ∧ ((R1.1.n = 1 ∧ R2.1.n = 0 ∧ R3.1.n = 0) ∨ (R1.1.n = 0 ∧ R2.1.n = 1 ∧ R3.1.n = 0) ∨ (R1.1.n = 0 ∧ R2.1.n = 0 ∧ R3.1.n = 1)))) :
    Calls Try.prog 4 #[.slice A row.length c, .int .i64 i, .int .i64 k] w fun e w' => e = .returned (.bool true) ∧ Below w.heap.size w w' := by
  have y0 := fun W => Lib.hid (elives_true W)
  have y1 := fun W => Lib.hid (col_any i W)
  have y2 := fun W => Lib.hid (col_any k W)
  have y3 := fun W => Lib.hid (two_any 7 (lcol i) (lcol k) W)
  have y4 := fun W => Lib.hid (two_any 8 (lcol i) (lcol k) W)
  have y5 := fun W => Lib.hid (two_any 7 (lcol k) (lcol i) W)
  have z : ∀ (o : Int) (a b : Int) (R : Vl × Int), (0 ≤ o ∧ o ≤ 255) → (-9223372036854775808 ≤ a ∧ a ≤ 9223372036854775807) → (-9223372036854775808 ≤ b ∧ b ≤ 9223372036854775807) → (∀ G, evalE row (ltwo o G (lcol a) (lcol b)) = R) → ∀ (W : World) (G : Nat), Below w.heap.size w W → Lies 6 Lx.cells W W.heap.size (some ⟨G, 0, none⟩) [lcol a, lcol b] →
      Hid (Calls Try.prog 9 #[(ltwo o G (lcol a) (lcol b)).val, .slice A row.length c] W fun x w' => x = .returned (.tuple #[R.1.val, .int .i64 R.2]) ∧ Below W.heap.size W w') := fun o a b R ho ha hb hR W G hB l => by
    have h := evalE_any (ltwo o G (lcol a) (lcol b)) A c row W (ltwo_ok o G _ _ ho (lcol_ok a ha 16) (lcol_ok b hb 16)) (ltwo_in l (lcol_in a _ _ 16) (lcol_in b _ _ 16)) (vals_keep hl hB) hn hr
    rw [hR] at h
    exact Lib.hid h
  have z1 := z 7 i k R1 (by decide) hi hk h1
  have z2 := z 8 i k R2 (by decide) hi hk h2
  have z3 := z 7 k i R3 (by decide) hk hi h3
  clear z h1 h2 h3 hi hk hl hr hn
  obtain ⟨v1, u1⟩ := R1
  obtain ⟨v2, u2⟩ := R2
  obtain ⟨v3, u3⟩ := R3
  dsimp only at *
  go_enter Try.func4, Try.ntmps4
  go_wp2_with fail
  refine (y0 _).out.mono ?_
  rintro _ w1 ⟨rfl, b1⟩
  have B1 := Lib.hid b1
  clear b1
  go_wp2_with fail
  refine (y1 _).out.mono ?_
  rintro _ wa ⟨rfl, ba⟩
  have Ba := Lib.hid (belows B1.out ba)
  go_wp2_with fail
  refine (y2 _).out.mono ?_
  rintro _ wb ⟨rfl, bb⟩
  have Bb := Lib.hid (belows Ba.out bb)
  go_wp2_with fail
  refine (y3 _).out.mono ?_
  rintro _ wc ⟨G1, rfl, bc, _, lc⟩
  have Bc := Lib.hid (belows Bb.out bc)
  have hz := z1 _ _ Bc.out lc
  clear lc
  generalize (ltwo 7 G1 (lcol i) (lcol k)).val = q1 at hz ⊢
  go_wp2_with fail
  refine hz.out.mono ?_
  rintro _ wd ⟨rfl, bd⟩
  obtain ⟨V1, hV⟩ : ∃ V, V = wd.alloc (.cells #[.bool v1.t, .int .i64 v1.n, .string v1.s] 24) := ⟨_, rfl⟩
  have h1 : Below wd.heap.size wd V1 := by rw [hV]; exact (Below.refl _ _).alloc (Nat.le_refl _) _
  have h2 : Own V1 wd.heap.size 24 v1.cells := by rw [hV]; exact Own.made wd _ _
  have hall := belows (belows (belows (belows ba bb) bc) bd) h1
  obtain ⟨N1, hN⟩ : ∃ N, N = wd.heap.size := ⟨_, rfl⟩
  unfold Vl.val
  dsimp only
  go_upto_region 4 with fail
  rw [← hV]
  rw [← hN] at h2 ⊢
  have O1 := Lib.hid h2
  have D1 := Lib.hid (belows B1.out hall)
  clear hV h1 h2 hall hN hz ba bb bc bd Ba Bb Bc
  go_wp2_with fail
  refine (y1 _).out.mono ?_
  rintro _ wa ⟨rfl, ba⟩
  have Ba := Lib.hid (belows D1.out ba)
  go_wp2_with fail
  refine (y2 _).out.mono ?_
  rintro _ wb ⟨rfl, bb⟩
  have Bb := Lib.hid (belows Ba.out bb)
  go_wp2_with fail
  refine (y4 _).out.mono ?_
  rintro _ wc ⟨G2, rfl, bc, _, lc⟩
  have Bc := Lib.hid (belows Bb.out bc)
  have hz := z2 _ _ Bc.out lc
  clear lc
  generalize (ltwo 8 G2 (lcol i) (lcol k)).val = q2 at hz ⊢
  go_wp2_with fail
  refine hz.out.mono ?_
  rintro _ wd ⟨rfl, bd⟩
  obtain ⟨V2, hV⟩ : ∃ V, V = wd.alloc (.cells #[.bool v2.t, .int .i64 v2.n, .string v2.s] 24) := ⟨_, rfl⟩
  have h1 : Below wd.heap.size wd V2 := by rw [hV]; exact (Below.refl _ _).alloc (Nat.le_refl _) _
  have h2 : Own V2 wd.heap.size 24 v2.cells := by rw [hV]; exact Own.made wd _ _
  have hall := belows (belows (belows (belows ba bb) bc) bd) h1
  obtain ⟨N2, hN⟩ : ∃ N, N = wd.heap.size := ⟨_, rfl⟩
  unfold Vl.val
  dsimp only
  go_upto_region 5 with fail
  rw [← hV]
  rw [← hN] at h2 ⊢
  have O2 := Lib.hid h2
  have P1 := Lib.hid (O1.out.past hall O1.out.inside)
  clear O1
  have O1 := P1
  clear P1
  have D2 := Lib.hid (belows D1.out hall)
  clear hV h1 h2 hall hN hz ba bb bc bd Ba Bb Bc
  go_wp2_with fail
  refine (y2 _).out.mono ?_
  rintro _ wa ⟨rfl, ba⟩
  have Ba := Lib.hid (belows D2.out ba)
  go_wp2_with fail
  refine (y1 _).out.mono ?_
  rintro _ wb ⟨rfl, bb⟩
  have Bb := Lib.hid (belows Ba.out bb)
  go_wp2_with fail
  refine (y5 _).out.mono ?_
  rintro _ wc ⟨G3, rfl, bc, _, lc⟩
  have Bc := Lib.hid (belows Bb.out bc)
  have hz := z3 _ _ Bc.out lc
  clear lc
  generalize (ltwo 7 G3 (lcol k) (lcol i)).val = q3 at hz ⊢
  go_wp2_with fail
  refine hz.out.mono ?_
  rintro _ wd ⟨rfl, bd⟩
  obtain ⟨V3, hV⟩ : ∃ V, V = wd.alloc (.cells #[.bool v3.t, .int .i64 v3.n, .string v3.s] 24) := ⟨_, rfl⟩
  have h1 : Below wd.heap.size wd V3 := by rw [hV]; exact (Below.refl _ _).alloc (Nat.le_refl _) _
  have h2 : Own V3 wd.heap.size 24 v3.cells := by rw [hV]; exact Own.made wd _ _
  have hall := belows (belows (belows (belows ba bb) bc) bd) h1
  obtain ⟨N3, hN⟩ : ∃ N, N = wd.heap.size := ⟨_, rfl⟩
  unfold Vl.val
  dsimp only
  go_upto_region 6 with fail
  rw [← hV]
  rw [← hN] at h2 ⊢
  have O3 := Lib.hid h2
  have P1 := Lib.hid (O1.out.past hall O1.out.inside)
  clear O1
  have O1 := P1
  clear P1
  have P2 := Lib.hid (O2.out.past hall O2.out.inside)
  clear O2
  have O2 := P2
  clear P2
  have D3 := Lib.hid (belows D2.out hall)
  clear hV h1 h2 hall hN hz ba bb bc bd Ba Bb Bc
  have f1 := O1.out.at_ 1
  have f2 := O2.out.at_ 1
  have f3 := O3.out.at_ 1
  simp only [Vl.cells, List.getElem?_cons_zero, List.getElem?_cons_succ] at f1 f2 f3
  clear y0 y1 y2 y3 y4 y5 z1 z2 z3
  rcases key with ⟨k1, rfl, rfl⟩ | ⟨⟨rfl, rfl, rfl⟩, ⟨e1, e2, e3⟩ | ⟨e1, e2, e3⟩ | ⟨e1, e2, e3⟩⟩
  · have t1 := bne_iff_ne.2 k1
    go_wp2_with fail
    go_ret
    exact ⟨rfl, D3.out⟩
  all_goals
    rw [e1] at f1
    rw [e2] at f2
    rw [e3] at f3
    go_wp2_with fail
    go_ret
    exact ⟨rfl, D3.out⟩
theorem line_walk8 (A : Option Addr) (c : Nat) (row : List Vl) (i k : Int) (w : World) (hl : Vals w w.heap.size A row) (hc : row.length ≤ c) (hm : c ≤ maxLen) (hr : ∀ v ∈ row, VOk v) (h1 : -9223372036854775808 ≤ i) (h2 : i ≤ 9223372036854775807) (h3 : -9223372036854775808 ≤ k) (h4 : k ≤ 9223372036854775807) :
    Calls Try.prog 4 #[.slice A row.length c, .int .i64 i, .int .i64 k] w fun e w' => e = .returned (.bool true) ∧ Below w.heap.size w w' :=
  line_core A c row i k ⟨h1, h2⟩ ⟨h3, h4⟩ (lineR row 7 i k) (lineR row 8 i k) (lineR row 7 k i) w hl (Nat.le_trans hc hm) hr (fun G => evalE_cols row 7 (.inl rfl) G i k) (fun G => evalE_cols row 8 (.inr rfl) G i k) (fun G => evalE_cols row 7 (.inl rfl) G k i) (line_cases row i k)
end Go.Proofs.Yticcaogceoahdaa
