/- What Check tells of an expression. -/
import Derived.Test.YtjidjpmdmcleoaaELook2
namespace Go.Proofs.Ytjidjpmdmcleoaa
open Go Go.RowKit

theorem lxAt_own {w : World} {b : Nat} {t : TypeId} {e : Lx} (h : Own w b t e.cells) : LxAt w b 0 e := fun j u hj => by
  rw [Nat.zero_add, h.at_ j]
  exact hj
theorem lxbox (w : World) (e : Lx) : ∃ W, W = w.alloc (.cells #[.int .u8 e.op, .int .i64 e.col, .bool e.c.t, .int .i64 e.c.n, .string e.c.s, .slice e.A e.kids.length e.cap] 27) ∧ Below w.heap.size w W ∧ W.heap.size = w.heap.size + 1 ∧ Own W w.heap.size 27 e.cells :=
  ⟨_, rfl, (Below.refl _ _).alloc (Nat.le_refl _) _, by simp, by have := Own.made w 27 e.cells; simpa [Lx.cells] using this⟩
theorem lxbox2 (w : World) (e : Lx) (t : TypeId) (l : List Value) : ∃ W, W = (w.alloc (.cells #[.int .u8 e.op, .int .i64 e.col, .bool e.c.t, .int .i64 e.c.n, .string e.c.s, .slice e.A e.kids.length e.cap] 27)).alloc (.cells l.toArray t) ∧ Below w.heap.size w W ∧ W.heap.size = w.heap.size + 2 ∧
    Own W w.heap.size 27 e.cells ∧ Own W (w.heap.size + 1) t l := by
  obtain ⟨W, hW, fb, h1, f0⟩ := lxbox w e
  rw [← hW]
  have g0 := Own.made W t l
  rw [h1] at g0
  exact ⟨_, rfl, fb.alloc (by omega) _, by simp; omega, f0.more _, g0⟩
theorem look_all (e : Lx) (s : St) (b o g : Nat) (w : World) (h1 : LxOk 17 e) (h2 : LxIn w g 17 e) (h3 : LxAt w b o e) (h4 : b < g) (h5 : Own w g 74 (stL s)) :
    Calls Try.prog 29 #[.pointer (some ⟨g, 0, none⟩), .pointer (some ⟨b, o, none⟩), .int .i64 0] w fun x w' => x = .returned (.tuple #[]) ∧ Upd w w' g 74 (stL (lk 17 e s)) := by
  have := look_any 17 (by omega) e s b o g w h1 h2 h3 h4 h5
  rwa [show (17 - ((17 : Nat) : Int)) = 0 from rfl] at this

set_option maxRecDepth 100000 in
set_option maxHeartbeats 3200000 in
theorem check_any (e : Lx) (w : World) (hok : LxOk 17 e) (hin : LxIn w w.heap.size 17 e) :
    Calls Try.prog 16 #[e.val] w fun x w' => x = .returned (.int .i64 (checkE e)) ∧ Below w.heap.size w w' := by
  have HH := Lib.hid (And.intro hok hin)
  have HC := Lib.hid (show checkE e = if (lk 17 e ⟨0, 0, false⟩).deep = true ∨ (lk 17 e ⟨0, 0, false⟩).nodes > 64 then ((lk 17 e ⟨0, 0, false⟩).fail 2).why else (lk 17 e ⟨0, 0, false⟩).why from rfl)
  have hlk := fun b o g W => Lib.hid (look_all e ⟨0, 0, false⟩ b o g W)
  clear hok hin
  unfold Lx.val
  go_enter Try.func16, Try.ntmps16
  go_wp2_with fail
  obtain ⟨W, hW, fb, hs, fe, fo⟩ := lxbox2 w e 74 (stL ⟨0, 0, false⟩)
  unfold stL at hW
  dsimp only at hW
  rw [← hW]
  clear hW
  have HW := Lib.hid (And.intro fb (And.intro hs (And.intro fe fo)))
  clear fb hs fe fo
  generalize lk 17 e ⟨0, 0, false⟩ = s at *
  refine ((hlk _ _ _ _).out HH.out.1 ((HH.out.2.past HW.out.1 (Nat.le_refl _)).wide (by omega)) (lxAt_own HW.out.2.2.1) (by omega) HW.out.2.2.2).mono ?_
  rintro _ w2 ⟨rfl, u2⟩
  have hb2 := HW.out.1.trans (u2.below (B := w.heap.size) (by omega) (by have := HW.out.2.1; omega))
  have c0 := u2.own.at_ 0
  have c1 := u2.own.at_ 1
  have c2 := u2.own.at_ 2
  have U2 := Lib.hid (And.intro u2 hb2)
  have hsz := hb2.size
  have hin2 := u2.own.inside
  clear u2 hb2 hlk HH HW
  simp only [stL, List.getElem?_cons_zero, List.getElem?_cons_succ] at c0 c1 c2
  obtain ⟨why, nodes, deep⟩ := s
  dsimp only at c0 c1 c2
  unfold St.fail at HC
  dsimp only at HC
  by_cases hd : deep = true ∨ nodes > 64
  · rw [if_pos hd] at HC
    cases deep with
    | true =>
      go_wp2_with fail
      refine (fail_any _ _ _ 2 _ _ U2.out.1.own).mono ?_
      rintro _ w3 ⟨rfl, u3⟩
      have d0 := u3.own.at_ 0
      simp only [List.getElem?_cons_zero] at d0
      have hb3 := u3.below (B := w.heap.size) (by omega) (by omega)
      clear c0 c1 c2
      have U3 := Lib.hid hb3
      clear u3 hb3
      go_wp2_with fail
      go_ret
      exact ⟨ret_i64 HC.out.symm, U2.out.2.trans U3.out⟩
    | false =>
      have hn : nodes > 64 := by rcases hd with h | h; cases h; exact h
      have t1 : decide (64 < nodes) = true := by simpa using hn
      clear hd hn
      go_wp2_with fail
      refine (fail_any _ _ _ 2 _ _ U2.out.1.own).mono ?_
      rintro _ w3 ⟨rfl, u3⟩
      have d0 := u3.own.at_ 0
      simp only [List.getElem?_cons_zero] at d0
      have hb3 := u3.below (B := w.heap.size) (by omega) (by omega)
      clear c0 c1 c2
      have U3 := Lib.hid hb3
      clear u3 hb3
      go_wp2_with fail
      go_ret
      exact ⟨ret_i64 HC.out.symm, U2.out.2.trans U3.out⟩
  · rw [if_neg hd] at HC
    have hn : ¬ nodes > 64 := fun h => hd (.inr h)
    have hd1 : deep = false := by rw [← Bool.not_eq_true]; exact fun h => hd (.inl h)
    subst hd1
    have t1 : decide (64 < nodes) = false := by simpa using hn
    clear hd hn
    go_wp2_with fail
    go_ret
    exact ⟨ret_i64 HC.out.symm, U2.out.2⟩
end Go.Proofs.Ytjidjpmdmcleoaa
