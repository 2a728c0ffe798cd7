/- ExprTurned returns true. -/
import Derived.Test.YtjidjpmdmcleoaaELives
namespace Go.Proofs.Ytjidjpmdmcleoaa
open Go Go.RowKit

def subR (a b : Int) : Vl × Int := if fits (a - b) then (Vl.num (a - b), 0) else (Vl.zero, 10)
theorem evalE_sub (a b : Int) (G : Nat) : evalE [] (ltwo 4 G (lcon a) (lcon b)) = subR a b := by
  have h1 : checkE (ltwo 4 G (lcon a) (lcon b)) = 0 := by kernel_rfl
  have h2 : chkRow [] = 0 := by kernel_rfl
  have h3 : ev [] 16 (ltwo 4 G (lcon a) (lcon b)) 0 = (Vl.num (fitN (a - b)), fl 0 (fitE (a - b))) := by kernel_rfl
  unfold evalE subR
  rw [if_pos h1, if_pos h2, h3]
  unfold fitN fitE fl
  cases fits (a - b) <;> simp
def turnR (a b : Int) : Vl × Int := if fits (b - a) then (if fits (-(b - a)) then (Vl.num (a - b), 0) else (Vl.zero, 10)) else (Vl.zero, 10)
theorem evalE_turn (a b : Int) (G H : Nat) : evalE [] (lone 6 H (ltwo 4 G (lcon b) (lcon a))) = turnR a b := by
  have h1 : checkE (lone 6 H (ltwo 4 G (lcon b) (lcon a))) = 0 := by kernel_rfl
  have h2 : chkRow [] = 0 := by kernel_rfl
  have h3 : ev [] 16 (lone 6 H (ltwo 4 G (lcon b) (lcon a))) 0 = (Vl.num (fitN (-(fitN (b - a)))), fl (fl 0 (fitE (b - a))) (fitE (-(fitN (b - a))))) := by kernel_rfl
  unfold evalE turnR
  rw [if_pos h1, if_pos h2, h3]
  unfold fitE fl
  cases hf : fits (b - a)
  · simp
  · have e : fitN (b - a) = b - a := by unfold fitN; rw [hf]; rfl
    rw [e]
    unfold fitN
    cases hg : fits (-(b - a))
    · simp
    · have : -(b - a) = a - b := by omega
      simp [this]
def negR (a : Int) : Vl × Int := if fits (-a) then (Vl.num a, 0) else (Vl.zero, 10)
theorem evalE_neg (a : Int) (ha : -9223372036854775808 ≤ a ∧ a ≤ 9223372036854775807) (G H : Nat) : evalE [] (lone 6 H (lone 6 G (lcon a))) = negR a := by
  have h1 : checkE (lone 6 H (lone 6 G (lcon a))) = 0 := by kernel_rfl
  have h2 : chkRow [] = 0 := by kernel_rfl
  have h3 : ev [] 16 (lone 6 H (lone 6 G (lcon a))) 0 = (Vl.num (fitN (-(fitN (-a)))), fl (fl 0 (fitE (-a))) (fitE (-(fitN (-a))))) := by kernel_rfl
  unfold evalE negR
  rw [if_pos h1, if_pos h2, h3]
  unfold fitE fl
  cases hf : fits (-a)
  · simp
  · have e : fitN (-a) = -a := by unfold fitN; rw [hf]; rfl
    rw [e]
    unfold fitN
    have hg : fits (- -a) = true := by rw [fits_iff]; omega
    have e2 : - -a = a := by omega
    rw [hg, e2]
    simp
theorem eval0 (e : Lx) (R : Vl × Int) (hR : evalE [] e = R) (hok : LxOk 17 e) (w : World) (hin : LxIn w w.heap.size 17 e) :
    Calls Try.prog 14 #[e.val, .slice none 0 0] w fun x w' => x = .returned (.tuple #[R.1.val, .int .i64 R.2]) ∧ Below w.heap.size w w' := by
  have h := evalE_any e none 0 [] w hok hin Vals.nil_ (by unfold maxLen; exact Nat.zero_le _) (fun v hv => by cases hv)
  rw [hR] at h
  exact h
theorem evalWrap (e : Lx) (R : Vl × Int) (hR : ∀ H, evalE [] (lone 6 H e) = R) (hok : LxOk 16 e) (W : World) (hin : LxIn W W.heap.size 16 e) :
    Calls Try.prog 14 #[.agg #[.int .u8 6, .int .i64 0, .bool false, .int .i64 0, .string ⟨#[]⟩, .slice (some ⟨W.heap.size, 0, none⟩) 1 1], .slice none 0 0] (W.alloc (.cells #[.int .u8 e.op, .int .i64 e.col, .bool e.c.t, .int .i64 e.c.n, .string e.c.s, .slice e.A e.kids.length e.cap] 27)) fun x w' => x = .returned (.tuple #[R.1.val, .int .i64 R.2]) ∧ Below W.heap.size W w' := by
  have h1 : Below W.heap.size W (W.alloc (.cells #[.int .u8 e.op, .int .i64 e.col, .bool e.c.t, .int .i64 e.c.n, .string e.c.s, .slice e.A e.kids.length e.cap] 27)) := (Below.refl _ _).alloc (Nat.le_refl _) _
  have h := eval0 (lone 6 W.heap.size e) R (hR _) (lone_ok 6 _ _ (by decide) hok) (W.alloc (.cells #[.int .u8 e.op, .int .i64 e.col, .bool e.c.t, .int .i64 e.c.n, .string e.c.s, .slice e.A e.kids.length e.cap] 27)) (lone_in (lies_single (Own.made W 27 e.cells)) (lxIn_keep hin h1))
  exact h.mono fun x w' k => ⟨k.1, belows h1 k.2⟩
theorem evalWrap2 (a : Int) (ha : -9223372036854775808 ≤ a ∧ a ≤ 9223372036854775807) (R : Vl × Int) (hR : ∀ G H, evalE [] (lone 6 H (lone 6 G (lcon a))) = R) (W : World) :
    Calls Try.prog 14 #[.agg #[.int .u8 6, .int .i64 0, .bool false, .int .i64 0, .string ⟨#[]⟩, .slice (some ⟨W.heap.size + 1, 0, none⟩) 1 1], .slice none 0 0]
      ((W.alloc (.cells #[.int .u8 2, .int .i64 0, .bool false, .int .i64 a, .string ⟨#[]⟩, .slice none 0 0] 27)).alloc (.cells #[.int .u8 6, .int .i64 0, .bool false, .int .i64 0, .string ⟨#[]⟩, .slice (some ⟨W.heap.size, 0, none⟩) 1 1] 27))
      fun x w' => x = .returned (.tuple #[R.1.val, .int .i64 R.2]) ∧ Below W.heap.size W w' := by
  have h1 : Below W.heap.size W (W.alloc (.cells #[.int .u8 2, .int .i64 0, .bool false, .int .i64 a, .string ⟨#[]⟩, .slice none 0 0] 27)) := (Below.refl _ _).alloc (Nat.le_refl _) _
  have hin : LxIn (W.alloc (.cells #[.int .u8 2, .int .i64 0, .bool false, .int .i64 a, .string ⟨#[]⟩, .slice none 0 0] 27)) _ 16 (lone 6 W.heap.size (lcon a)) := lone_in (lies_single (Own.made W 27 (lcon a).cells)) (lcon_in a _ _ 15)
  have h := evalWrap (lone 6 W.heap.size (lcon a)) R (hR _) (lone_ok 6 _ _ (by decide) (lcon_ok a ha 15)) _ hin
  rw [World.size_alloc] at h
  exact h.mono fun x w' k => ⟨k.1, h1.trans (k.2.mono (Nat.le_succ _))⟩
set_option maxRecDepth 100000 in
set_option maxHeartbeats 6400000 in
theorem turned_core (a b : Int) (ha : -9223372036854775808 ≤ a ∧ a ≤ 9223372036854775807) (hb : -9223372036854775808 ≤ b ∧ b ≤ 9223372036854775807) (R1 R2 R3 : Vl × Int) (w : World)
    (h1 : ∀ G, evalE [] (ltwo 4 G (lcon a) (lcon b)) = R1) (h2 : ∀ G H, evalE [] (lone 6 H (ltwo 4 G (lcon b) (lcon a))) = R2) (h3 : ∀ G H, evalE [] (lone 6 H (lone 6 G (lcon a))) = R3)
    (k12 : (R1.2 = 0 ∧ R2.2 = 0 ∧ R1.1 = R2.1) ∨ (R1.2 = 0 ∧ R2.2 ≠ 0) ∨ R1.2 ≠ 0) (k3 : (R3.2 = 10 ∧ IntKind.i64.wrap (-a) = a) ∨ (R3.2 = 0 ∧ R3.1.n = a)) :
    Calls Try.prog 6 #[.int .i64 a, .int .i64 b] w fun e w' => e = .returned (.bool true) ∧ Below w.heap.size w w' := by
  have y0 := fun W => Lib.hid (elives_true W)
  have y1 := fun W => Lib.hid (con_any a W)
  have y2 := fun W => Lib.hid (con_any b W)
  have y3 := fun W => Lib.hid (two_any 4 (lcon a) (lcon b) W)
  have y4 := fun W => Lib.hid (two_any 4 (lcon b) (lcon a) W)
  have z1 := fun W G h => Lib.hid (eval0 _ _ (h1 G) (ltwo_ok 4 G _ _ (by decide) (lcon_ok a ha 16) (lcon_ok b hb 16)) W h)
  have z2 := fun W G h => Lib.hid (evalWrap (ltwo 4 G (lcon b) (lcon a)) _ (h2 G) (ltwo_ok 4 G _ _ (by decide) (lcon_ok b hb 15) (lcon_ok a ha 15)) W h)
  have z3 := fun W => Lib.hid (evalWrap2 a ha _ h3 W)
  have i1 : ∀ (W : World) (G : Nat), Lies 6 Lx.cells W W.heap.size (some ⟨G, 0, none⟩) [lcon a, lcon b] → LxIn W W.heap.size 17 (ltwo 4 G (lcon a) (lcon b)) := fun W G l => ltwo_in l (lcon_in a _ _ 16) (lcon_in b _ _ 16)
  have i2 : ∀ (W : World) (G : Nat), Lies 6 Lx.cells W W.heap.size (some ⟨G, 0, none⟩) [lcon b, lcon a] → LxIn W W.heap.size 16 (ltwo 4 G (lcon b) (lcon a)) := fun W G l => ltwo_in l (lcon_in b _ _ 15) (lcon_in a _ _ 15)
  have I1 := Lib.hid i1
  have I2 := Lib.hid i2
  clear i1 i2 h1 h2 h3 ha hb
  obtain ⟨v1, u1⟩ := R1
  obtain ⟨v2, u2⟩ := R2
  obtain ⟨v3, u3⟩ := R3
  dsimp only at *
  go_enter Try.func6, Try.ntmps6
  go_wp2_with fail
  refine (y0 _).out.mono ?_
  rintro _ w1 ⟨rfl, b1⟩
  have B1 := Lib.hid b1
  clear b1
  go_wp2_with fail
  refine (y1 _).out.mono ?_
  rintro _ w2 ⟨rfl, b2⟩
  have B2 := Lib.hid (belows B1.out b2)
  clear b2
  go_wp2_with fail
  refine (y2 _).out.mono ?_
  rintro _ w3 ⟨rfl, b3⟩
  have B3 := Lib.hid (belows B2.out b3)
  clear b3
  go_wp2_with fail
  refine (y3 _).out.mono ?_
  rintro _ w4 ⟨G1, rfl, b4, _, l4⟩
  have B4 := Lib.hid (And.intro (belows B3.out b4) (I1.out _ _ l4))
  clear b4 l4
  go_wp2_with fail
  refine (z1 _ _ B4.out.2).out.mono ?_
  rintro _ w5 ⟨rfl, b5⟩
  have B5 := Lib.hid (belows B4.out.1 b5)
  clear b5
  unfold Vl.val
  dsimp only
  go_upto_region 4 with fail
  obtain ⟨V5, hV⟩ : ∃ V, V = w5.alloc (.cells #[.bool v1.t, .int .i64 v1.n, .string v1.s] 24) := ⟨_, rfl⟩
  have h1 : Below w5.heap.size w5 V5 := by rw [hV]; exact (Below.refl _ _).alloc (Nat.le_refl _) _
  have h2 : Own V5 w5.heap.size 24 v1.cells := by rw [hV]; exact Own.made w5 _ _
  have K5 := Lib.hid (And.intro (belows B5.out h1) h2)
  rw [← hV]
  clear hV h1 h2
  generalize (ltwo 4 G1 (lcon a) (lcon b)).val = qq1
  go_wp2_with fail
  refine (y2 _).out.mono ?_
  rintro _ w6 ⟨rfl, b6⟩
  have K6 := Lib.hid (And.intro (belows K5.out.1 b6) (K5.out.2.past b6 K5.out.2.inside))
  clear b6
  go_wp2_with fail
  refine (y1 _).out.mono ?_
  rintro _ w7 ⟨rfl, b7⟩
  have K7 := Lib.hid (And.intro (belows K6.out.1 b7) (K6.out.2.past b7 K6.out.2.inside))
  clear b7
  go_wp2_with fail
  refine (y4 _).out.mono ?_
  rintro _ w8 ⟨G2, rfl, b8, _, l8⟩
  have K8 := Lib.hid (And.intro (belows K7.out.1 b8) (And.intro (K7.out.2.past b8 K7.out.2.inside) (I2.out _ _ l8)))
  have z2 := z2 w8 G2 K8.out.2.2
  clear b8 l8
  generalize ltwo 4 G2 (lcon b) (lcon a) = e at *
  rw [show e.val = .agg #[.int .u8 e.op, .int .i64 e.col, .bool e.c.t, .int .i64 e.c.n, .string e.c.s, .slice e.A e.kids.length e.cap] from rfl]
  go_wp2_with fail
  refine z2.out.mono ?_
  rintro _ w9 ⟨rfl, b9⟩
  have K9 := Lib.hid (And.intro (belows K8.out.1 b9) (K8.out.2.1.past b9 K8.out.2.1.inside))
  clear b9
  unfold Vl.val
  dsimp only
  go_upto_region 5 with fail
  obtain ⟨V9, hV⟩ : ∃ V, V = w9.alloc (.cells #[.bool v2.t, .int .i64 v2.n, .string v2.s] 24) := ⟨_, rfl⟩
  have h1 : Below w9.heap.size w9 V9 := by rw [hV]; exact (Below.refl _ _).alloc (Nat.le_refl _) _
  have h2 : Own V9 w9.heap.size 24 v2.cells := by rw [hV]; exact Own.made w9 _ _
  have H9 := Lib.hid (belows K9.out.1 h1)
  have o1 := K9.out.2.past h1 K9.out.2.inside
  have d0 := o1.at_ 0
  have d1 := o1.at_ 1
  have d2 := o1.at_ 2
  have e0 := h2.at_ 0
  have e1 := h2.at_ 1
  have e2 := h2.at_ 2
  simp only [Vl.cells, List.getElem?_cons_zero, List.getElem?_cons_succ] at d0 d1 d2 e0 e1 e2
  rw [← hV]
  clear hV h1 h2 o1
  have hgd := fun (x1 y1 : Operand) (xs ys : Array Value) (w : World) => grd_val .neq x1 y1 xs ys w
  have hne := neq_val v1 v2
  unfold Vl.val at hne
  clear y0 z1 z2 I1 I2 y2 y3 y4
  go_cut [43] (fun v wx => v = .bool false ∧ V9 = wx)
  case first =>
    rcases k12 with ⟨rfl, rfl, rfl⟩ | ⟨rfl, k2⟩ | k1
    · have hv : (!eqV v1 v1) = false := by rw [eqV_iff.2 rfl]; rfl
      rw [hv] at hne
      go_wp2_with fail
      go_meet
      exact ⟨rfl, rfl⟩
    · have t2 : (u2 == 0) = false := by simpa using k2
      go_wp2_with fail
      go_meet
      exact ⟨rfl, rfl⟩
    · have t2 : (u1 == 0) = false := by simpa using k1
      go_wp2_with fail
      go_meet
      exact ⟨rfl, rfl⟩
  case rest =>
    obtain ⟨rfl, rfl⟩ := hcut
    clear d0 d1 d2 e0 e1 e2 hne hgd
    go_wp2_with fail
    refine (y1 _).out.mono ?_
    rintro _ w10 ⟨rfl, b10⟩
    have H10 := Lib.hid (belows H9.out b10)
    clear b10
    rw [show (lcon a).val = .agg #[.int .u8 2, .int .i64 0, .bool false, .int .i64 a, .string ⟨#[]⟩, .slice none 0 0] from rfl]
    go_wp2_with fail
    refine (z3 _).out.mono ?_
    rintro _ w11 ⟨rfl, b11⟩
    have H11 := Lib.hid (below_more (belows H10.out b11) (.cells #[.bool v3.t, .int .i64 v3.n, .string v3.s] 24))
    have f1 : (w11.alloc (.cells #[.bool v3.t, .int .i64 v3.n, .string v3.s] 24)).cell? ⟨w11.heap.size, 1, none⟩ = some (.int .i64 v3.n) := (Own.made w11 24 v3.cells).at_ 1
    clear b11
    unfold Vl.val
    dsimp only
    go_upto_region 8 with fail
    generalize w11.alloc (.cells #[.bool v3.t, .int .i64 v3.n, .string v3.s] 24) = V11 at *
    rcases k3 with ⟨rfl, hw⟩ | ⟨rfl, hw⟩
    · go_wp2_with fail
      go_ret
      exact ⟨rfl, H11.out⟩
    · rw [hw] at f1
      go_wp2_with fail
      go_ret
      exact ⟨rfl, H11.out⟩
theorem turned_walk (a b : Int) (w : World) (h1 : -9223372036854775808 ≤ a) (h2 : a ≤ 9223372036854775807) (h3 : -9223372036854775808 ≤ b) (h4 : b ≤ 9223372036854775807) :
    Calls Try.prog 6 #[.int .i64 a, .int .i64 b] w fun e w' => e = .returned (.bool true) ∧ Below w.heap.size w w' := by
  refine turned_core a b ⟨h1, h2⟩ ⟨h3, h4⟩ (subR a b) (turnR a b) (negR a) w (evalE_sub a b) (evalE_turn a b) (evalE_neg a ⟨h1, h2⟩) ?_ ?_
  · unfold subR turnR
    cases fits (a - b)
    · exact .inr (.inr (by simp))
    · cases fits (b - a)
      · exact .inr (.inl ⟨by simp, by simp⟩)
      · cases fits (-(b - a))
        · exact .inr (.inl ⟨by simp, by simp⟩)
        · exact .inl ⟨by simp, by simp, by simp⟩
  · unfold negR
    cases hf : fits (-a)
    · refine .inl ⟨by simp, ?_⟩
      have hn : ¬ (-9223372036854775808 ≤ -a ∧ -a ≤ 9223372036854775807) := fun h => by rw [(fits_iff (-a)).2 h] at hf; cases hf
      obtain rfl : a = -9223372036854775808 := by omega
      decide
    · exact .inr ⟨by simp, by simp [Vl.num]⟩
end Go.Proofs.Ytjidjpmdmcleoaa
