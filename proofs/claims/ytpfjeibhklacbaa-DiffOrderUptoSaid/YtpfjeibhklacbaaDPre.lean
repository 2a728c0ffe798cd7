/- Updates: as they lie in memory, and which are right. -/
import Derived.Test.YtpfjeibhklacbaaVCheck
import Derived.Test.YtpfjeibhklacbaaVSame
import Derived.Test.YtpfjeibhklacbaaCheck
import Derived.Test.YtpfjeibhklacbaaVGr
import Derived.Test.YtpfjeibhklacbaaVLine
import Derived.Test.YtpfjeibhklacbaaAsm
import Derived.Test.YtpfjeibhklacbaaLies
import Derived.Deep.Cut
import Derived.Deep.RegionHeld3
import Derived.Deep.DeepCutAuto
import Derived.Deep.CutRange
namespace Go.Proofs.Ytpfjeibhklacbaa
open Go Go.RowKit

/-- an update as it lies: two rows, a time, a number -/
structure Up where
  kA : Option Addr
  kc : Nat
  key : List Vl
  rA : Option Addr
  rc : Nat
  row : List Vl
  t : Tm
  d : Int
instance : Inhabited Up := ⟨⟨none, 0, [], none, 0, [], ⟨0, 0, 0⟩, 0⟩⟩
/-- what an update is of -/
structure Uk where
  key : List Vl
  row : List Vl
  t : Tm
namespace Up
def cells (u : Up) : List Value := [.slice u.kA u.key.length u.kc, .slice u.rA u.row.length u.rc, .int .u64 (u.t.e : Int), .int .u64 (u.t.a : Int), .int .u64 (u.t.b : Int), .int .i64 u.d]
def val (u : Up) : Value := .agg #[.slice u.kA u.key.length u.kc, .slice u.rA u.row.length u.rc, .int .u64 (u.t.e : Int), .int .u64 (u.t.a : Int), .int .u64 (u.t.b : Int), .int .i64 u.d]
def k (u : Up) : Uk := ⟨u.key, u.row, u.t⟩
def p (u : Up) : Uk × Int := (u.k, u.d)
end Up
theorem ucells_len (u : Up) : u.cells.length = 6 := rfl
theorem ucells_one (u : Up) : ∀ v ∈ u.cells, v.oneCell' = true := by
  intro v hv
  simp only [Up.cells, List.mem_cons, List.not_mem_nil, or_false] at hv
  rcases hv with rfl | rfl | rfl | rfl | rfl | rfl <;> rfl
def Uk.cmp (a b : Uk) : Int := if cmpRows a.key b.key = 0 then (if cmpRows a.row b.row = 0 then a.t.cmp b.t else cmpRows a.row b.row) else cmpRows a.key b.key
def chkK (u : Uk) : Int := orI (chkRow u.key) (orI (chkRow u.row) (chk [u.t]))
def chkU (u : Up) : Int := chkK u.k
def chkUs : List Up → Int
  | [] => 0
  | u :: l => if chkU u = 0 then chkUs l else chkU u
theorem chkUs_take {l : List Up} {k : Nat} {u : Up} (h : l[k]? = some u) (h0 : chkUs (l.take k) = 0) : chkUs (l.take (k + 1)) = chkU u := by
  induction l generalizing k with
  | nil => simp at h
  | cons x l ih =>
    cases k with
    | zero =>
      obtain rfl : x = u := by simpa using h
      simp only [List.take_succ_cons, List.take_zero, chkUs]
      split <;> simp [*]
    | succ k =>
      simp only [List.take_succ_cons, chkUs] at h0 ⊢
      split at h0
      · rename_i hx
        rw [if_pos hx]
        exact ih (by simpa using h) h0
      · rename_i hx; exact absurd h0 hx
theorem chkUs_bad {l : List Up} {k : Nat} {u : Up} (h : l[k]? = some u) (h0 : chkUs (l.take k) = 0) (hu : chkU u ≠ 0) : chkUs l = chkU u := by
  induction l generalizing k with
  | nil => simp at h
  | cons x l ih =>
    cases k with
    | zero =>
      obtain rfl : x = u := by simpa using h
      simp only [chkUs]
      rw [if_neg hu]
    | succ k =>
      simp only [List.take_succ_cons, chkUs] at h0 ⊢
      split at h0
      · rename_i hx
        rw [if_pos hx]
        exact ih (by simpa using h) h0
      · rename_i hx; exact absurd h0 hx
theorem chkUs_all {l : List Up} : chkUs l = 0 ↔ ∀ u ∈ l, chkU u = 0 := by
  induction l with
  | nil => simp [chkUs]
  | cons x l ih =>
    simp only [chkUs]
    by_cases hx : chkU x = 0
    · rw [if_pos hx, ih]; simp [hx]
    · rw [if_neg hx]
      constructor
      · intro h; exact absurd h hx
      · intro h; exact h x (by simp)
theorem chkRow_zero {l : List Vl} (h : chkRow l = 0) : l.all Vl.right = true ∧ l.length ≤ 8 := by
  unfold chkRow at h
  split at h
  · rename_i h1
    rw [Bool.and_eq_true] at h1
    exact ⟨h1.1, by simpa using h1.2⟩
  · omega
theorem chkK_zero {u : Uk} (h : chkK u = 0) : chkRow u.key = 0 ∧ chkRow u.row = 0 ∧ chk [u.t] = 0 := by
  unfold chkK orI at h
  split at h
  · rename_i h1
    split at h
    · rename_i h2; exact ⟨h1, h2, h⟩
    · rename_i h2; exact absurd h h2
  · rename_i h1; exact absurd h h1
theorem tm_zero {s t : Tm} : s.cmp t = 0 ↔ s = t := by
  have h : ∀ x y, Tm.cmpN x y = 0 ↔ x = y := fun x y => by unfold Tm.cmpN; repeat' split
                                                           all_goals omega
  obtain ⟨a, b, c⟩ := s
  obtain ⟨x, y, z⟩ := t
  unfold Tm.cmp
  dsimp only
  simp only [Tm.mk.injEq]
  by_cases h1 : a = x
  · by_cases h2 : b = y
    · simp [h1, h2, h]
    · simp [h1, h2, h]
  · simp [h1, h]
theorem tm_swap (s t : Tm) : t.cmp s = - s.cmp t := by
  unfold Tm.cmp Tm.cmpN
  by_cases h1 : s.e = t.e
  · by_cases h2 : s.a = t.a
    · simp only [h1, h2, ne_eq, not_true_eq_false, if_false]
      repeat' split
      all_goals omega
    · simp only [h1, h2, fun h : t.a = s.a => h2 h.symm, ne_eq, not_true_eq_false, not_false_eq_true, if_false, if_true]
      repeat' split
      all_goals omega
  · simp only [h1, fun h : t.e = s.e => h1 h.symm, ne_eq, not_false_eq_true, if_true]
    repeat' split
    all_goals omega
theorem tm_lt {s t : Tm} : s.cmp t < 0 ↔ s.e < t.e ∨ (s.e = t.e ∧ (s.a < t.a ∨ (s.a = t.a ∧ s.b < t.b))) := by
  unfold Tm.cmp Tm.cmpN
  repeat' split
  all_goals omega
theorem tm_le {s t : Tm} : s.cmp t ≤ 0 ↔ s.e < t.e ∨ (s.e = t.e ∧ (s.a < t.a ∨ (s.a = t.a ∧ s.b ≤ t.b))) := by
  unfold Tm.cmp Tm.cmpN
  repeat' split
  all_goals omega
theorem tm_trans (a b c : Tm) (h : a.cmp b ≤ 0) (k : b.cmp c ≤ 0) : a.cmp c ≤ 0 ∧ (a.cmp b < 0 ∨ b.cmp c < 0 → a.cmp c < 0) := by
  rw [tm_le] at *
  rw [tm_lt, tm_lt, tm_lt]
  omega
/-- one order behind another one -/
theorem lex_le {x y z p q r : Int} (h : (if x = 0 then p else x) ≤ 0) (k : (if y = 0 then q else y) ≤ 0) (h1 : x ≤ 0 → y ≤ 0 → z ≤ 0 ∧ (x < 0 ∨ y < 0 → z < 0)) (h0 : x = 0 → y = 0 → z = 0) (h2 : p ≤ 0 → q ≤ 0 → r ≤ 0 ∧ (p < 0 ∨ q < 0 → r < 0)) :
    (if z = 0 then r else z) ≤ 0 ∧ ((if x = 0 then p else x) < 0 ∨ (if y = 0 then q else y) < 0 → (if z = 0 then r else z) < 0) := by
  by_cases hx : x = 0
  · rw [if_pos hx] at *
    by_cases hy : y = 0
    · rw [if_pos hy] at *
      rw [if_pos (h0 hx hy)]
      exact h2 h k
    · rw [if_neg hy] at *
      have := (h1 (by omega) k).2 (.inr (by omega))
      rw [if_neg (by omega)]
      exact ⟨by omega, fun _ => this⟩
  · rw [if_neg hx] at *
    have hy : y ≤ 0 := by split at k <;> omega
    have := (h1 h hy).2 (.inl (by omega))
    rw [if_neg (by omega)]
    exact ⟨by omega, fun _ => this⟩
theorem rows_zero {a b c : List Vl} (h : cmpRows a b = 0) (k : cmpRows b c = 0) : cmpRows a c = 0 := by
  have h1 := (cmpRows_le a b c (by omega) (by omega)).1
  have h2 := (cmpRows_le c b a (by rw [cmpRows_swap]; omega) (by rw [cmpRows_swap]; omega)).1
  rw [cmpRows_swap a c] at h2
  omega
def UkR (u : Uk) : Prop := chkK u = 0
theorem uk_lin : Lin Uk.cmp UkR where
  swap a b := by
    unfold Uk.cmp
    rw [cmpRows_swap a.key b.key, cmpRows_swap a.row b.row, tm_swap a.t b.t]
    by_cases h1 : cmpRows a.key b.key = 0
    · by_cases h2 : cmpRows a.row b.row = 0
      · simp [h1, h2]
      · rw [if_pos (by omega), if_neg (by omega), if_pos h1, if_neg h2]
    · rw [if_neg (by omega), if_neg h1]
  le a b c h k := by
    unfold Uk.cmp at *
    refine lex_le h k (cmpRows_le a.key b.key c.key) rows_zero fun h k => ?_
    exact lex_le h k (cmpRows_le a.row b.row c.row) rows_zero (tm_trans a.t b.t c.t)
  eq a b ha hb := by
    obtain ⟨a1, a2, _⟩ := chkK_zero ha
    obtain ⟨b1, b2, _⟩ := chkK_zero hb
    have e1 := cmpRows_right (chkRow_zero a1).1 (chkRow_zero b1).1
    have e2 := cmpRows_right (chkRow_zero a2).1 (chkRow_zero b2).1
    obtain ⟨ak, ar, at_⟩ := a
    obtain ⟨bk, br, bt⟩ := b
    unfold Uk.cmp
    dsimp only at *
    simp only [Uk.mk.injEq]
    by_cases h1 : cmpRows ak bk = 0
    · by_cases h2 : cmpRows ar br = 0
      · rw [if_pos h1, if_pos h2, tm_zero]
        exact ⟨fun h => ⟨e1.1 h1, e2.1 h2, h⟩, fun h => h.2.2⟩
      · rw [if_pos h1, if_neg h2]
        exact ⟨fun h => absurd h h2, fun h => absurd (e2.2 h.2.1) h2⟩
    · rw [if_neg h1]
      exact ⟨fun h => absurd h h1, fun h => absurd (e1.2 h.1) h1⟩
/-- the rows of an update lie below block B -/
structure UIn (w : World) (B : Nat) (u : Up) : Prop where
  key : Vals w B u.kA u.key
  row : Vals w B u.rA u.row
theorem UIn.past {w w' : World} {B B' : Nat} {u : Up} (h : UIn w B u) (hb : Below B' w w') (hB : B ≤ B') : UIn w' B u := ⟨h.key.past hb hB, h.row.past hb hB⟩
theorem UIn.wide {w : World} {B B' : Nat} {u : Up} (h : UIn w B u) (hB : B ≤ B') : UIn w B' u := ⟨h.key.wide hB, h.row.wide hB⟩
theorem UIn.keep {w w' : World} {u : Up} (h : UIn w w.heap.size u) (hb : Below w.heap.size w w') : UIn w' w'.heap.size u := (h.past hb (Nat.le_refl _)).wide hb.size
/-- what an update that came in has -/
structure UOk (u : Up) : Prop where
  kn : u.key.length ≤ 140737488351232
  rn : u.row.length ≤ 140737488351232
  ks : ∀ v ∈ u.key, VOk v
  rs : ∀ v ∈ u.row, VOk v
  dn : -9223372036854775808 ≤ u.d ∧ u.d ≤ 9223372036854775807
/-- a list of updates, as it lies -/
structure Ups (w : World) (B : Nat) (A : Option Addr) (l : List Up) : Prop where
  head : Lies 6 Up.cells w B A l
  each_ : ∀ u ∈ l, UIn w B u
theorem Ups.past {w w' : World} {B B' : Nat} {A : Option Addr} {l : List Up} (h : Ups w B A l) (hb : Below B' w w') (hB : B ≤ B') : Ups w' B A l := ⟨h.head.past hb hB, fun u hu => (h.each_ u hu).past hb hB⟩
theorem Ups.wide {w : World} {B B' : Nat} {A : Option Addr} {l : List Up} (h : Ups w B A l) (hB : B ≤ B') : Ups w B' A l := ⟨h.head.wide hB, fun u hu => (h.each_ u hu).wide hB⟩
theorem Ups.keep {w w' : World} {A : Option Addr} {l : List Up} (h : Ups w w.heap.size A l) (hb : Below w.heap.size w w') : Ups w' w'.heap.size A l := (h.past hb (Nat.le_refl _)).wide hb.size
/-- an update's six cells lie at b, o -/
def UAt (w : World) (b o : Nat) (u : Up) : Prop := ∀ (j : Nat) (v : Value), u.cells[j]? = some v → w.cell? ⟨b, o + j, none⟩ = some v
theorem UAt.six {w : World} {b o : Nat} {u : Up} (h : UAt w b o u) :
    w.cell? ⟨b, o, none⟩ = some (.slice u.kA u.key.length u.kc) ∧ w.cell? ⟨b, o + 1, none⟩ = some (.slice u.rA u.row.length u.rc) ∧ w.cell? ⟨b, o + 2, none⟩ = some (.int .u64 (u.t.e : Int)) ∧
      w.cell? ⟨b, o + 3, none⟩ = some (.int .u64 (u.t.a : Int)) ∧ w.cell? ⟨b, o + 4, none⟩ = some (.int .u64 (u.t.b : Int)) ∧ w.cell? ⟨b, o + 5, none⟩ = some (.int .i64 u.d) :=
  ⟨h 0 _ rfl, h 1 _ rfl, h 2 _ rfl, h 3 _ rfl, h 4 _ rfl, h 5 _ rfl⟩
theorem UAt.past_ {w w' : World} {B b o : Nat} {u : Up} (h : UAt w b o u) (hb : Below B w w') (hB : b < B) : UAt w' b o u := fun j v hj => (hb.cell (p := ⟨b, o + j, none⟩) hB).trans (h j v hj)
theorem lies_up {w : World} {B : Nat} {A : Option Addr} {l : List Up} (h : Lies 6 Up.cells w B A l) (hp : 0 < l.length) :
    ∃ b o, A = some ⟨b, o, none⟩ ∧ b < B ∧ ∀ (i : Nat) (x : Up), l[i]? = some x → UAt w b (o + i * 6) x := by
  obtain ⟨b, o, e, hb, hc⟩ := h hp
  exact ⟨b, o, e, hb, fun i x hi j u hj => hc i x hi j u hj⟩
theorem own6 {w : World} {P : Nat} {t : TypeId} {a0 a1 a2 a3 a4 a5 : Value} (h : Own w P t [a0, a1, a2, a3, a4, a5]) :
    w.cell? ⟨P, 0, none⟩ = some a0 ∧ w.cell? ⟨P, 1, none⟩ = some a1 ∧ w.cell? ⟨P, 2, none⟩ = some a2 ∧ w.cell? ⟨P, 3, none⟩ = some a3 ∧ w.cell? ⟨P, 4, none⟩ = some a4 ∧ w.cell? ⟨P, 5, none⟩ = some a5 :=
  ⟨h.at_ 0, h.at_ 1, h.at_ 2, h.at_ 3, h.at_ 4, h.at_ 5⟩
theorem upbox (w : World) (u : Up) : ∃ W, W = w.alloc (.cells #[.slice u.kA u.key.length u.kc, .slice u.rA u.row.length u.rc, .int .u64 (u.t.e : Int), .int .u64 (u.t.a : Int), .int .u64 (u.t.b : Int), .int .i64 u.d] 38) ∧
    Below w.heap.size w W ∧ W.heap.size = w.heap.size + 1 ∧ Own W w.heap.size 38 u.cells :=
  ⟨_, rfl, (Below.refl _ _).alloc (Nat.le_refl _) _, by simp, Own.made w 38 u.cells⟩
end Go.Proofs.Ytpfjeibhklacbaa
namespace Go.Proofs.Ytpfjeibhklacbaa
open Go Go.RowKit Go.Sort

theorem two_box (w : World) (a b : Up) : ∃ W, W = (w.alloc (.cells #[.slice a.kA a.key.length a.kc, .slice a.rA a.row.length a.rc, .int .u64 (a.t.e : Int), .int .u64 (a.t.a : Int), .int .u64 (a.t.b : Int), .int .i64 a.d] 38)).alloc (.cells #[.slice b.kA b.key.length b.kc, .slice b.rA b.row.length b.rc, .int .u64 (b.t.e : Int), .int .u64 (b.t.a : Int), .int .u64 (b.t.b : Int), .int .i64 b.d] 38) ∧ Gr w W ∧ Own W w.heap.size 38 a.cells ∧ Own W (w.heap.size + 1) 38 b.cells := by
  refine ⟨_, rfl, Gr.two w _ _, (Own.made w 38 a.cells).more _, ?_⟩
  have := Own.made (w.alloc (.cells #[.slice a.kA a.key.length a.kc, .slice a.rA a.row.length a.rc, .int .u64 (a.t.e : Int), .int .u64 (a.t.a : Int), .int .u64 (a.t.b : Int), .int .i64 a.d] 38)) 38 b.cells
  rw [show (w.alloc (.cells #[.slice a.kA a.key.length a.kc, .slice a.rA a.row.length a.rc, .int .u64 (a.t.e : Int), .int .u64 (a.t.a : Int), .int .u64 (a.t.b : Int), .int .i64 a.d] 38)).heap.size = w.heap.size + 1 by simp] at this
  exact this
theorem maxn {n : Nat} (h : n ≤ 140737488351232) : n ≤ maxLen := by unfold maxLen; omega
set_option maxRecDepth 100000 in
set_option maxHeartbeats 3200000 in
theorem dcompare_gr (a b : Up) (w : World) (ha : UIn w w.heap.size a) (hb : UIn w w.heap.size b) (oa : UOk a) (ob : UOk b) :
    Calls Try.prog 17 #[a.val, b.val] w fun e w' => e = .returned (.int .i64 (a.k.cmp b.k)) ∧ Gr w w' := by
  have y1 := fun W h1 h2 => Lib.hid (rows_gr a.kA b.kA a.kc b.kc a.key b.key W h1 h2 (maxn oa.kn) (maxn ob.kn))
  have y2 := fun W h1 h2 => Lib.hid (rows_gr a.rA b.rA a.rc b.rc a.row b.row W h1 h2 (maxn oa.rn) (maxn ob.rn))
  have y3 := fun W => Lib.hid (compare_grows a.t b.t W)
  have hc := Lib.hid (show a.k.cmp b.k = if cmpRows a.key b.key = 0 then (if cmpRows a.row b.row = 0 then a.t.cmp b.t else cmpRows a.row b.row) else cmpRows a.key b.key from rfl)
  obtain ⟨W, hW, hg, o1, o2⟩ := two_box w a b
  have HB := Lib.hid (And.intro hg (And.intro o1 (And.intro o2 (And.intro (ha.keep hg.below) (hb.keep hg.below)))))
  obtain ⟨a0, a1, a2, a3, a4, a5⟩ := own6 o1
  obtain ⟨b0, b1, b2, b3, b4, b5⟩ := own6 o2
  generalize cmpRows a.key b.key = x at *
  generalize cmpRows a.row b.row = y at *
  generalize a.t.cmp b.t = z at *
  unfold Tm.val at y3
  have hav : a.val = .agg #[.slice a.kA a.key.length a.kc, .slice a.rA a.row.length a.rc, .int .u64 (a.t.e : Int), .int .u64 (a.t.a : Int), .int .u64 (a.t.b : Int), .int .i64 a.d] := rfl
  have hbv : b.val = .agg #[.slice b.kA b.key.length b.kc, .slice b.rA b.row.length b.rc, .int .u64 (b.t.e : Int), .int .u64 (b.t.a : Int), .int .u64 (b.t.b : Int), .int .i64 b.d] := rfl
  rw [hav, hbv]
  clear hav hbv ha hb oa ob hg o1 o2
  go_enter Try.func17, Try.ntmps17
  go_upto_region 1 with fail
  rw [← hW]
  clear hW
  go_wp2_with fail
  refine (y1 _ HB.out.2.2.2.1.key HB.out.2.2.2.2.key).out.mono ?_
  rintro _ w1 ⟨rfl, g1⟩
  have H1 := Lib.hid (And.intro (HB.out.1.trans g1) (And.intro (HB.out.2.1.past g1.below HB.out.2.1.inside) (And.intro (HB.out.2.2.1.past g1.below HB.out.2.2.1.inside) (And.intro (HB.out.2.2.2.1.keep g1.below) (HB.out.2.2.2.2.keep g1.below)))))
  clear g1 a0 a1 a2 a3 a4 a5 b0 b1 b2 b3 b4 b5 y1
  obtain ⟨a0, a1, a2, a3, a4, a5⟩ := own6 H1.out.2.1
  obtain ⟨b0, b1, b2, b3, b4, b5⟩ := own6 H1.out.2.2.1
  by_cases hx : x = 0
  case neg =>
    have t1 : (x == 0) = false := beq_eq_false_iff_ne.2 hx
    rw [if_neg hx] at hc
    clear hx
    go_wp2_with fail
    go_ret
    exact ⟨ret_i64 hc.out.symm, H1.out.1⟩
  rw [if_pos hx] at hc
  subst hx
  go_wp2_with fail
  refine (y2 _ H1.out.2.2.2.1.row H1.out.2.2.2.2.row).out.mono ?_
  rintro _ w2 ⟨rfl, g2⟩
  have H2 := Lib.hid (And.intro (H1.out.1.trans g2) (And.intro (H1.out.2.1.past g2.below H1.out.2.1.inside) (H1.out.2.2.1.past g2.below H1.out.2.2.1.inside)))
  clear g2 a0 a1 a2 a3 a4 a5 b0 b1 b2 b3 b4 b5 y2
  obtain ⟨a0, a1, a2, a3, a4, a5⟩ := own6 H2.out.2.1
  obtain ⟨b0, b1, b2, b3, b4, b5⟩ := own6 H2.out.2.2
  by_cases hy : y = 0
  case neg =>
    have t1 : (y == 0) = false := beq_eq_false_iff_ne.2 hy
    rw [if_neg hy] at hc
    clear hy
    go_wp2_with fail
    go_ret
    exact ⟨ret_i64 hc.out.symm, H2.out.1⟩
  rw [if_pos hy] at hc
  subst hy
  go_wp2_with fail
  refine (y3 _).out.mono ?_
  rintro _ w3 ⟨rfl, g3⟩
  have H3 := Lib.hid (H2.out.1.trans g3)
  clear g3 a0 a1 a2 a3 a4 a5 b0 b1 b2 b3 b4 b5 y3
  go_wp2_with fail
  go_ret
  exact ⟨ret_i64 hc.out.symm, H3.out⟩
end Go.Proofs.Ytpfjeibhklacbaa
namespace Go.Proofs.Ytpfjeibhklacbaa
open Go Go.RowKit

set_option maxRecDepth 100000 in
set_option maxHeartbeats 800000 in
theorem orE_any (g : Nat) (x y z : Int) (w : World) (h0 : w.cell? ⟨g, 0, none⟩ = some (.int .i64 x)) (h1 : w.cell? ⟨g, 1, none⟩ = some (.int .i64 y)) (h2 : w.cell? ⟨g, 2, none⟩ = some (.int .i64 z)) :
    Calls Try.prog 32 #[.slice (some ⟨g, 0, none⟩) 3 3] w fun e w' => e = .returned (.int .i64 (orI x (orI y z))) ∧ w = w' := by
  go_enter Try.func32, Try.ntmps32
  go_wp2_with fail
  go_rounds 4
  all_goals
    go_ret
    refine ⟨ret_i64 ?_, rfl⟩
    unfold orI
    simp_all
/-- a time in a block of its own -/
theorem times_made (w : World) (t : Tm) : Times (w.alloc (.cells #[.int .u64 (t.e : Int), .int .u64 (t.a : Int), .int .u64 (t.b : Int)] 36)) (w.alloc (.cells #[.int .u64 (t.e : Int), .int .u64 (t.a : Int), .int .u64 (t.b : Int)] 36)).heap.size (some ⟨w.heap.size, 0, none⟩) [t] := fun _ => by
  have ho := Own.made w 36 t.cells
  refine ⟨w.heap.size, 0, rfl, by simp, fun i x hx => ?_⟩
  match i, hx with
  | 0, hx =>
    obtain rfl : t = x := by simpa using hx
    exact ⟨ho.at_ 0, ho.at_ 1, ho.at_ 2⟩
theorem times_made_drew (w : World) (t : Tm) : Times (w.alloc (.cells #[.int .u64 (t.e : Int), .int .u64 (t.a : Int), .int .u64 (t.b : Int)] 36)).drew (w.alloc (.cells #[.int .u64 (t.e : Int), .int .u64 (t.a : Int), .int .u64 (t.b : Int)] 36)).drew.heap.size (some ⟨w.heap.size, 0, none⟩) [t] := times_made w t
theorem tms_keep {a b : World} {A : Option Addr} {l : List Tm} (h : Times a a.heap.size A l) (hb : Below a.heap.size a b) : Times b b.heap.size A l := (h.past hb (Nat.le_refl _)).wide hb.size
/-- nothing of V has turned -/
def Bl (V w : World) : Prop := Below V.heap.size V w
theorem Bl.refl (V : World) : Bl V V := Below.refl _ _
theorem Bl.more {V w : World} (h : Bl V w) (o : Obj) : Bl V (w.alloc o) := h.alloc h.size o
theorem Bl.drew {V w : World} (h : Bl V w) : Bl V w.drew := Below.drew h
theorem Bl.call {V a b : World} (h : Bl V a) (k : Below a.heap.size a b) : Bl V b := belows h k
theorem Bl.below {V w : World} (h : Bl V w) : Below V.heap.size V w := h
set_option maxRecDepth 100000 in
set_option maxHeartbeats 6400000 in
theorem dcheck_any (A : Option Addr) (c : Nat) (l : List Up) (w : World) (hl : Ups w w.heap.size A l) (hn : l.length ≤ 140737488351232) (hk : ∀ u ∈ l, UOk u) :
    Calls Try.prog 13 #[.slice A l.length c] w fun x w' => x = .returned (.int .i64 (chkUs l)) ∧ Below w.heap.size w w' := by
  have HL := Lib.hid (And.intro hl hk)
  clear hl hk
  go_enter Try.func13, Try.ntmps13
  go_wp2_with fail
  go_loopw [8] (fun i wr => ∃ k : Nat, i = .int .i64 (k : Int) ∧ k ≤ l.length ∧ Below w.heap.size w wr ∧ chkUs (l.take k) = 0) (fun i _ => l.length - (intOf i).toNat)
  case atStart => exact ⟨0, rfl, by omega, Below.refl _ _, rfl⟩
  case round =>
    obtain ⟨k, rfl, hk, hb, h0⟩ := hrel
    by_cases hlt : k < l.length
    · have hx : l[k]? = some l[k] := List.getElem?_eq_getElem hlt
      have hmem := List.mem_of_getElem? hx
      obtain ⟨b, o, rfl, hB, hxs⟩ := lies_up HL.out.1.head (by omega)
      have hxa := (hxs k _ hx).past_ hb hB
      have hin := (HL.out.1.each_ _ hmem).past hb (Nat.le_refl _)
      have hok := HL.out.2 _ hmem
      have hnx := chkUs_take hx h0
      have hbad := fun h => chkUs_bad hx h0 h
      generalize l[k] = u at *
      obtain ⟨c0, c1, c2, c3, c4, c5⟩ := hxa.six
      obtain ⟨V, hV, hvb, hvs, hvo⟩ := upbox wr u
      have hin2 := (hin.wide hb.size).keep hvb
      have HV := Lib.hid (And.intro (hb.trans (hvb.mono hb.size)) (And.intro hvo (And.intro hnx hbad)))
      have x1 := fun W (h : Bl V W) => Lib.hid (vcheck_any u.kA u.kc u.key W (hin2.keep h).key (maxn hok.kn) (fun v hv => (hok.ks v hv).1))
      have x2 := fun W (h : Bl V W) => Lib.hid (vcheck_any u.rA u.rc u.row W (hin2.keep h).row (maxn hok.rn) (fun v hv => (hok.rs v hv).1))
      have x3 : ∀ W g, Times W W.heap.size (some ⟨g, 0, none⟩) [u.t] → Hid (Calls Try.prog 34 #[.slice (some ⟨g, 0, none⟩) 1 1] W fun e w' => e = .returned (.int .i64 (chk [u.t])) ∧ Below W.heap.size W w') := fun W g h => Lib.hid (check_any (some ⟨g, 0, none⟩) 1 [u.t] W h (by unfold maxLen; simp))
      have x4 := fun W g h1 h2 h3 => Lib.hid (orE_any g (chkRow u.key) (chkRow u.row) (chk [u.t]) W h1 h2 h3)
      have hcu := Lib.hid (show chkU u = orI (chkRow u.key) (orI (chkRow u.row) (chk [u.t])) from rfl)
      have HS := Lib.hid (fun W (h : Bl V W) => let k := own6 (hvo.past h hvo.inside); (⟨k.1, k.2.1, k.2.2.1, k.2.2.2.1, k.2.2.2.2.1⟩ : W.cell? ⟨wr.heap.size, 0, none⟩ = some (.slice u.kA u.key.length u.kc) ∧ W.cell? ⟨wr.heap.size, 1, none⟩ = some (.slice u.rA u.row.length u.rc) ∧ W.cell? ⟨wr.heap.size, 2, none⟩ = some (.int .u64 (u.t.e : Int)) ∧ W.cell? ⟨wr.heap.size, 3, none⟩ = some (.int .u64 (u.t.a : Int)) ∧ W.cell? ⟨wr.heap.size, 4, none⟩ = some (.int .u64 (u.t.b : Int))))
      have hself := Bl.refl V
      obtain ⟨d0, d1, d2, d3, d4, d5⟩ := own6 hvo
      have q0 : (0 : Int) ≤ (k : Int) := by omega
      have q1 : (k : Int) < (l.length : Int) := by omega
      have htm := Lib.hid (fun W => times_made W u.t)
      have htd := Lib.hid (fun W => times_made_drew W u.t)
      clear hx hmem hxs hxa hin hok hnx hbad hvb hvo hin2 hb h0 hvs
      go_upto_region 4 with fail
      rw [← hV]
      clear hV c0 c1 c2 c3 c4 c5
      go_cut [5] (fun s5 wx => s5 = .int .i64 (chkU u) ∧ Bl V wx)
      case first =>
        go_region_held3 (fun w' => Bl V w' ∧ (w'.cell? ⟨wr.heap.size, 0, none⟩ = some (.slice u.kA u.key.length u.kc) ∧ w'.cell? ⟨wr.heap.size, 1, none⟩ = some (.slice u.rA u.row.length u.rc) ∧ w'.cell? ⟨wr.heap.size, 2, none⟩ = some (.int .u64 (u.t.e : Int)) ∧ w'.cell? ⟨wr.heap.size, 3, none⟩ = some (.int .u64 (u.t.a : Int)) ∧ w'.cell? ⟨wr.heap.size, 4, none⟩ = some (.int .u64 (u.t.b : Int))))
          ((refine (fun h => And.intro h (HS.out _ h)) ?_; repeat (first | with_reducible exact hb3 | with_reducible exact hb2 | with_reducible exact hb1 | with_reducible exact hself | with_reducible refine Bl.more ?_ _ | with_reducible refine Bl.drew ?_)))
          (first | (go_at_call 33; have hq := hb1; refine (x2 _ (by repeat (first | with_reducible exact hb1 | with_reducible refine Bl.more ?_ _))).out.mono ?_; rintro _ w2 ⟨rfl, k2⟩; have hb2 : Bl V w2 := Bl.call (by repeat (first | with_reducible exact hb1 | with_reducible refine Bl.more ?_ _)) k2; first | have ht2 := tms_keep ht1 k2 | have ht2 := tms_keep (htm.out _) k2 | skip) | (go_at_call 33; refine (x1 _ (by repeat (first | with_reducible exact hself | with_reducible refine Bl.more ?_ _ | with_reducible refine Bl.drew ?_))).out.mono ?_; rintro _ w1 ⟨rfl, k1⟩; have hb1 : Bl V w1 := Bl.call (by repeat (first | with_reducible exact hself | with_reducible refine Bl.more ?_ _ | with_reducible refine Bl.drew ?_)) k1; first | have ht1 := tms_keep (htm.out _) k1 | have ht1 := tms_keep (htd.out _) k1 | skip) | (go_at_call 34; refine (x3 _ _ (by first | exact ht2 | exact htm.out _)).out.mono ?_; rintro _ w3 ⟨rfl, k3⟩; have hb3 : Bl V w3 := Bl.call (by repeat (first | with_reducible exact hb2 | with_reducible refine Bl.more ?_ _)) k3) | (go_at_call 32; refine (x4 _ _ ?_ ?_ ?_).out.mono ?_; (simp [go_sem]); (simp [go_sem]); (simp [go_sem]); rintro _ w4 ⟨rfl, rfl⟩))
        all_goals
          go_wp2_with fail
          go_meet
          exact ⟨by rw [hcu.out], hb3.more _⟩
      case rest =>
        obtain ⟨rfl, hcb⟩ := hcut
        have HX := Lib.hid (HV.out.1.trans (hcb.below.mono (Nat.le_trans HV.out.1.size (Nat.le_refl _))))
        by_cases hz : chkU u = 0
        · have t1 : (chkU u != 0) = false := by simp [hz]
          have HZ := Lib.hid hz
          clear hz hcb d0 d1 d2 d3 d4 d5
          go_wp2_with fail
          go_roundw
          case rel => exact ⟨k + 1, by go_num, by omega, HX.out, by rw [HV.out.2.2.1, HZ.out]⟩
          case measure => simp [intOf]; omega
        · have t1 : (chkU u != 0) = true := bne_iff_ne.2 hz
          have hr := Lib.hid (HV.out.2.2.2 hz)
          clear hz hcb d0 d1 d2 d3 d4 d5
          go_wp2_with fail
          go_ret
          exact ⟨ret_i64 hr.out.symm, HX.out⟩
    · have hk2 : k = l.length := by omega
      subst hk2
      rw [List.take_length] at h0
      have HX := Lib.hid (And.intro h0 hb)
      clear h0 hb
      go_wp2_with fail
      go_ret
      exact ⟨ret_i64 HX.out.1.symm, HX.out.2⟩
end Go.Proofs.Ytpfjeibhklacbaa
