/- What Check tells of a plan, and how many loops it has. -/
import Derived.Test.YtjidjpmdmcleoaaPLook2
namespace Go.Proofs.Ytjidjpmdmcleoaa
open Go Go.RowKit

def Ft.val (s : Ft) : Value := .agg #[.int .i64 s.why, .int .i64 s.nodes, .int .i64 s.depth, .int .i64 s.loops, .bool s.long]
theorem pxAt_own {w : World} {b : Nat} {t : TypeId} {p : Px} (h : Own w b t p.cells) : PAt w b 0 p := fun j u hj => by rw [Nat.zero_add, h.at_ j]; exact hj
theorem pxbox (w : World) (p : Px) : ∃ W, W = w.alloc (.cells #[.int .u8 p.kind, .int .i64 p.n, .slice p.kA p.kids.length p.kc, .slice p.eA p.exprs.length p.ec, .slice p.cA p.cols.length p.cc, .slice p.wA p.wit.length p.wc, .int .u8 p.agg, .int .i64 p.rounds] 52) ∧ Below w.heap.size w W ∧ W.heap.size = w.heap.size + 1 ∧ Own W w.heap.size 52 p.cells :=
  ⟨_, rfl, (Below.refl _ _).alloc (Nat.le_refl _) _, by simp, by have := Own.made w 52 p.cells; simpa [Px.cells] using this⟩
def z5 : List Value := [.int .i64 0, .int .i64 0, .int .i64 0, .int .i64 0, .bool false]
theorem ftbox (w : World) : ∃ W, W = (w.alloc (.cells #[.int .i64 0, .int .i64 0, .int .i64 0, .int .i64 0, .bool false] 87)).alloc (.cells #[.int .i64 0, .int .i64 0, .int .i64 0, .int .i64 0, .bool false] 87) ∧ Below w.heap.size w W ∧ W.heap.size = w.heap.size + 2 ∧
    Own W w.heap.size 87 z5 ∧ Own W (w.heap.size + 1) 87 (ftL ⟨0, 0, 0, 0, false⟩) :=
  ⟨_, rfl, ((Below.refl _ _).alloc (Nat.le_refl _) _).alloc (by simp) _, by simp, (own_at (l := z5) rfl).more _, own_at (l := z5) (by simp)⟩
theorem own_put5 {w : World} {P : Nat} {t : TypeId} {z0 z1 z2 z3 z4 : Value} (h : Own w P t [z0, z1, z2, z3, z4]) (a0 a1 a2 a3 a4 : Value) :
    Own (((((w.setCell ⟨P, 0, none⟩ a0).setCell ⟨P, 1, none⟩ a1).setCell ⟨P, 2, none⟩ a2).setCell ⟨P, 3, none⟩ a3).setCell ⟨P, 4, none⟩ a4) P t [a0, a1, a2, a3, a4] := ((((h.set_ 0 a0).set_ 1 a1).set_ 2 a2).set_ 3 a3).set_ 4 a4
theorem at5 {w : World} {P : Nat} {t : TypeId} {a0 a1 a2 a3 a4 : Value} (h : Own w P t [a0, a1, a2, a3, a4]) :
    w.cell? ⟨P, 0, none⟩ = some a0 ∧ w.cell? ⟨P, 1, none⟩ = some a1 ∧ w.cell? ⟨P, 2, none⟩ = some a2 ∧ w.cell? ⟨P, 3, none⟩ = some a3 ∧ w.cell? ⟨P, 4, none⟩ = some a4 := ⟨h.at_ 0, h.at_ 1, h.at_ 2, h.at_ 3, h.at_ 4⟩
theorem below_put5 {B : Nat} {u w : World} {P : Nat} (h : Below B u w) (hg : B ≤ P) (a0 a1 a2 a3 a4 : Value) :
    Below B u (((((w.setCell ⟨P, 0, none⟩ a0).setCell ⟨P, 1, none⟩ a1).setCell ⟨P, 2, none⟩ a2).setCell ⟨P, 3, none⟩ a3).setCell ⟨P, 4, none⟩ a4) := ((((h.setCell hg _).setCell hg _).setCell hg _).setCell hg _).setCell hg _
set_option maxRecDepth 100000 in
set_option maxHeartbeats 6400000 in
theorem exam_any (p : Px) (b o : Nat) (w : World) (hok : PxOk 17 p) (hin : PxIn w w.heap.size 17 p) (hat : PAt w b o p) (hb : b < w.heap.size) :
    Calls Try.prog 36 #[.pointer (some ⟨b, o, none⟩)] w fun x w' => x = .returned (examP p).val ∧ Below w.heap.size w w' := by
  have HC := Lib.hid (show examP p = if (lookP 17 p 0 ⟨0, 0, 0, 0, false⟩).long = true ∨ (lookP 17 p 0 ⟨0, 0, 0, 0, false⟩).depth > 16 ∨ (lookP 17 p 0 ⟨0, 0, 0, 0, false⟩).nodes > 64 ∨ (lookP 17 p 0 ⟨0, 0, 0, 0, false⟩).loops > 2 then ⟨fl (lookP 17 p 0 ⟨0, 0, 0, 0, false⟩).why 2, (lookP 17 p 0 ⟨0, 0, 0, 0, false⟩).nodes, (lookP 17 p 0 ⟨0, 0, 0, 0, false⟩).depth, (lookP 17 p 0 ⟨0, 0, 0, 0, false⟩).loops, (lookP 17 p 0 ⟨0, 0, 0, 0, false⟩).long⟩ else lookP 17 p 0 ⟨0, 0, 0, 0, false⟩ from rfl)
  obtain ⟨W, hW, fb, hs, fr, ff⟩ := ftbox w
  have hlk := Lib.hid (lookP_any 17 (by omega) p 0 ⟨0, 0, 0, 0, false⟩ b o (w.heap.size + 1) W hok ((hin.past fb (Nat.le_refl _)).wide (by omega)) (hat.past fb hb) (by omega) (by decide) ff)
  rw [show (17 - ((17 : Nat) : Int)) = 0 from rfl] at hlk
  have HW := Lib.hid (And.intro fb (And.intro hs fr))
  clear hok hin hat fb hs fr ff
  generalize examP p = R at *
  generalize lookP 17 p 0 ⟨0, 0, 0, 0, false⟩ = s at *
  go_enter Try.func36, Try.ntmps36
  go_upto_region 2 with fail
  rw [← hW]
  clear hW
  go_wp2_with fail
  refine hlk.out.mono ?_
  rintro _ w2 ⟨rfl, u2⟩
  have hb2 := HW.out.1.trans (u2.below (B := w.heap.size) (by omega) (by have := HW.out.2.1; omega))
  obtain ⟨c0, c1, c2, c3, c4⟩ := at5 u2.own
  have hr := u2.other (by omega) HW.out.2.2
  have y0 := hr.open_ 0
  have y1 := hr.open_ 1
  have y2 := hr.open_ 2
  have y3 := hr.open_ 3
  have y4 := hr.open_ 4
  obtain ⟨x0, x1, x2, x3, x4⟩ := at5 hr
  have U2 := Lib.hid (And.intro u2 (And.intro hb2 hr))
  have hsz := hb2.size
  have hin2 := u2.own.inside
  clear u2 hb2 hr hlk HW
  obtain ⟨why, nodes, depth, loops, long⟩ := s
  dsimp only at c0 c1 c2 c3 c4 HC
  cases long with
  | true =>
    have HR := Lib.hid (HC.out.trans (if_pos (.inl rfl)))
    clear HC
    go_wp2_with fail
    refine (fail_any _ _ _ 2 _ _ U2.out.1.own).mono ?_
    rintro _ w3 ⟨rfl, u3⟩
    clear c0 c1 c2 c3 c4 x0 x1 x2 x3 x4 y0 y1 y2 y3 y4
    have hr := u3.other (by omega) U2.out.2.2
    have y0 := hr.open_ 0
    have y1 := hr.open_ 1
    have y2 := hr.open_ 2
    have y3 := hr.open_ 3
    have y4 := hr.open_ 4
    obtain ⟨x0, x1, x2, x3, x4⟩ := at5 hr
    obtain ⟨c0, c1, c2, c3, c4⟩ := at5 u3.own
    have hb3 := u3.below (B := w.heap.size) (by omega) (by omega)
    have U3 := Lib.hid (And.intro (U2.out.2.1.trans hb3) hr)
    clear u3 hr hb3 U2
    go_wp2_with fail
    have hp := own_put5 U3.out.2 (.int .i64 (fl why 2)) (.int .i64 nodes) (.int .i64 depth) (.int .i64 loops) (.bool true)
    obtain ⟨x0, x1, x2, x3, x4⟩ := at5 hp
    exact bodyPost_ret (v := .agg #[.int .i64 (fl why 2), .int .i64 nodes, .int .i64 depth, .int .i64 loops, .bool true]) (by simp [results, Try.results36, go_sem, x0, x1, x2, x3, x4]) rfl ⟨by rw [HR.out]; rfl, below_put5 U3.out.1 (Nat.le_refl _) _ _ _ _ _⟩
  | false =>
    by_cases h1 : depth > 16
    · have HR := Lib.hid (HC.out.trans (if_pos (.inr (.inl h1))))
      have t1 : decide (16 < depth) = true := by simpa using h1
      clear HC h1
      go_wp2_with fail
      refine (fail_any _ _ _ 2 _ _ U2.out.1.own).mono ?_
      rintro _ w3 ⟨rfl, u3⟩
      clear c0 c1 c2 c3 c4 x0 x1 x2 x3 x4 y0 y1 y2 y3 y4
      have hr := u3.other (by omega) U2.out.2.2
      have y0 := hr.open_ 0
      have y1 := hr.open_ 1
      have y2 := hr.open_ 2
      have y3 := hr.open_ 3
      have y4 := hr.open_ 4
      obtain ⟨x0, x1, x2, x3, x4⟩ := at5 hr
      obtain ⟨c0, c1, c2, c3, c4⟩ := at5 u3.own
      have hb3 := u3.below (B := w.heap.size) (by omega) (by omega)
      have U3 := Lib.hid (And.intro (U2.out.2.1.trans hb3) hr)
      clear u3 hr hb3 U2
      go_wp2_with fail
      have hp := own_put5 U3.out.2 (.int .i64 (fl why 2)) (.int .i64 nodes) (.int .i64 depth) (.int .i64 loops) (.bool false)
      obtain ⟨x0, x1, x2, x3, x4⟩ := at5 hp
      exact bodyPost_ret (v := .agg #[.int .i64 (fl why 2), .int .i64 nodes, .int .i64 depth, .int .i64 loops, .bool false]) (by simp [results, Try.results36, go_sem, x0, x1, x2, x3, x4]) rfl ⟨by rw [HR.out]; rfl, below_put5 U3.out.1 (Nat.le_refl _) _ _ _ _ _⟩
    have t1 : decide (16 < depth) = false := by simpa using h1
    by_cases h2 : nodes > 64
    · have HR := Lib.hid (HC.out.trans (if_pos (.inr (.inr (.inl h2)))))
      have t2 : decide (64 < nodes) = true := by simpa using h2
      clear HC h1 h2
      go_wp2_with fail
      refine (fail_any _ _ _ 2 _ _ U2.out.1.own).mono ?_
      rintro _ w3 ⟨rfl, u3⟩
      clear c0 c1 c2 c3 c4 x0 x1 x2 x3 x4 y0 y1 y2 y3 y4
      have hr := u3.other (by omega) U2.out.2.2
      have y0 := hr.open_ 0
      have y1 := hr.open_ 1
      have y2 := hr.open_ 2
      have y3 := hr.open_ 3
      have y4 := hr.open_ 4
      obtain ⟨x0, x1, x2, x3, x4⟩ := at5 hr
      obtain ⟨c0, c1, c2, c3, c4⟩ := at5 u3.own
      have hb3 := u3.below (B := w.heap.size) (by omega) (by omega)
      have U3 := Lib.hid (And.intro (U2.out.2.1.trans hb3) hr)
      clear u3 hr hb3 U2
      go_wp2_with fail
      have hp := own_put5 U3.out.2 (.int .i64 (fl why 2)) (.int .i64 nodes) (.int .i64 depth) (.int .i64 loops) (.bool false)
      obtain ⟨x0, x1, x2, x3, x4⟩ := at5 hp
      exact bodyPost_ret (v := .agg #[.int .i64 (fl why 2), .int .i64 nodes, .int .i64 depth, .int .i64 loops, .bool false]) (by simp [results, Try.results36, go_sem, x0, x1, x2, x3, x4]) rfl ⟨by rw [HR.out]; rfl, below_put5 U3.out.1 (Nat.le_refl _) _ _ _ _ _⟩
    have t2 : decide (64 < nodes) = false := by simpa using h2
    by_cases h3 : loops > 2
    · have HR := Lib.hid (HC.out.trans (if_pos (.inr (.inr (.inr h3)))))
      have t3 : decide (2 < loops) = true := by simpa using h3
      clear HC h1 h2 h3
      go_wp2_with fail
      refine (fail_any _ _ _ 2 _ _ U2.out.1.own).mono ?_
      rintro _ w3 ⟨rfl, u3⟩
      clear c0 c1 c2 c3 c4 x0 x1 x2 x3 x4 y0 y1 y2 y3 y4
      have hr := u3.other (by omega) U2.out.2.2
      have y0 := hr.open_ 0
      have y1 := hr.open_ 1
      have y2 := hr.open_ 2
      have y3 := hr.open_ 3
      have y4 := hr.open_ 4
      obtain ⟨x0, x1, x2, x3, x4⟩ := at5 hr
      obtain ⟨c0, c1, c2, c3, c4⟩ := at5 u3.own
      have hb3 := u3.below (B := w.heap.size) (by omega) (by omega)
      have U3 := Lib.hid (And.intro (U2.out.2.1.trans hb3) hr)
      clear u3 hr hb3 U2
      go_wp2_with fail
      have hp := own_put5 U3.out.2 (.int .i64 (fl why 2)) (.int .i64 nodes) (.int .i64 depth) (.int .i64 loops) (.bool false)
      obtain ⟨x0, x1, x2, x3, x4⟩ := at5 hp
      exact bodyPost_ret (v := .agg #[.int .i64 (fl why 2), .int .i64 nodes, .int .i64 depth, .int .i64 loops, .bool false]) (by simp [results, Try.results36, go_sem, x0, x1, x2, x3, x4]) rfl ⟨by rw [HR.out]; rfl, below_put5 U3.out.1 (Nat.le_refl _) _ _ _ _ _⟩
    have t3 : decide (2 < loops) = false := by simpa using h3
    have HR := Lib.hid (HC.out.trans (if_neg (by rintro (h | h | h | h); cases h; exact h1 h; exact h2 h; exact h3 h)))
    clear HC h1 h2 h3
    go_wp2_with fail
    have hp := own_put5 U2.out.2.2 (.int .i64 why) (.int .i64 nodes) (.int .i64 depth) (.int .i64 loops) (.bool false)
    obtain ⟨x0, x1, x2, x3, x4⟩ := at5 hp
    exact bodyPost_ret (v := .agg #[.int .i64 why, .int .i64 nodes, .int .i64 depth, .int .i64 loops, .bool false]) (by simp [results, Try.results36, go_sem, x0, x1, x2, x3, x4]) rfl ⟨by rw [HR.out]; rfl, below_put5 U2.out.2.1 (Nat.le_refl _) _ _ _ _ _⟩
set_option maxRecDepth 100000 in
set_option maxHeartbeats 3200000 in
theorem checkP_any (p : Px) (w : World) (hok : PxOk 17 p) (hin : PxIn w w.heap.size 17 p) :
    Calls Try.prog 23 #[p.val] w fun x w' => x = .returned (.int .i64 (checkP p)) ∧ Below w.heap.size w w' := by
  obtain ⟨W, hW, fb, hs, fk⟩ := pxbox w p
  have hex := Lib.hid (exam_any p w.heap.size 0 W hok ((hin.past fb (Nat.le_refl _)).wide (by omega)) (pxAt_own fk) (by omega))
  have HB := Lib.hid fb
  have HK := Lib.hid (show checkP p = (examP p).why from rfl)
  generalize examP p = s at *
  generalize checkP p = K at *
  unfold Px.val
  unfold Ft.val at hex
  clear hok hin fb hs fk
  go_enter Try.func23, Try.ntmps23
  go_upto_region 1 with fail
  rw [← hW]
  clear hW
  go_wp2_with fail
  refine hex.out.mono ?_
  rintro _ w2 ⟨rfl, b2⟩
  have H2 := Lib.hid (belows HB.out b2)
  clear b2
  have hf1 : ∀ (a b c d : Int) (e : Bool) (W : World), (Instr.field 87 (.agg #[.int .i64 a, .int .i64 b, .int .i64 c, .int .i64 d, .bool e]) 0).run Try.prog W = .ok (.agg #[.int .i64 a]) W := fun _ _ _ _ _ _ => by kernel_rfl
  have hf2 : ∀ (a : Int) (W : World), (Instr.field 64 (.agg #[.int .i64 a]) 0).run Try.prog W = .ok (.int .i64 a) W := fun _ _ => by kernel_rfl
  go_wp2_with fail
  go_ret
  exact ⟨ret_i64 HK.out.symm, H2.out⟩
set_option maxRecDepth 100000 in
set_option maxHeartbeats 3200000 in
theorem loopsP_any (p : Px) (w : World) (hok : PxOk 17 p) (hin : PxIn w w.heap.size 17 p) :
    Calls Try.prog 24 #[p.val] w fun x w' => x = .returned (.int .i64 (loopsP p)) ∧ Below w.heap.size w w' := by
  obtain ⟨W, hW, fb, hs, fk⟩ := pxbox w p
  have hex := Lib.hid (exam_any p w.heap.size 0 W hok ((hin.past fb (Nat.le_refl _)).wide (by omega)) (pxAt_own fk) (by omega))
  have HB := Lib.hid fb
  have HK := Lib.hid (show loopsP p = if (examP p).why = 0 then (examP p).loops else 0 from rfl)
  generalize examP p = s at *
  generalize loopsP p = K at *
  obtain ⟨why, nodes, depth, loops, long⟩ := s
  dsimp only at HK
  unfold Px.val
  unfold Ft.val at hex
  dsimp only at hex
  clear hok hin fb hs fk
  go_enter Try.func24, Try.ntmps24
  go_upto_region 1 with fail
  rw [← hW]
  clear hW
  go_wp2_with fail
  refine hex.out.mono ?_
  rintro _ w2 ⟨rfl, b2⟩
  have H2 := Lib.hid (fun o => (belows HB.out b2).alloc (belows HB.out b2).size o)
  clear b2
  by_cases hy : why = 0
  · have t1 : (why != 0) = false := by simpa using hy
    have HY := Lib.hid (HK.out.trans (if_pos hy))
    clear hy HK
    go_wp2_with fail
    go_ret
    exact ⟨ret_i64 HY.out.symm, H2.out _⟩
  · have t1 : (why != 0) = true := by simpa using hy
    have HY := Lib.hid (HK.out.trans (if_neg hy))
    clear hy HK
    go_wp2_with fail
    go_ret
    exact ⟨ret_i64 HY.out.symm, H2.out _⟩
end Go.Proofs.Ytjidjpmdmcleoaa
