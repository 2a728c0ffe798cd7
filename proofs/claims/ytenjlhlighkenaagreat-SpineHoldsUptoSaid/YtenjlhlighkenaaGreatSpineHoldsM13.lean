/- Part 13 of the texts on which SpineHolds rests: facts and contracts. -/
import Derived.Test.YtenjlhlighkenaaGreatSpineHoldsM12
import Derived.RangeFuncNested
import Derived.RangeFuncBound
import Derived.RangeFuncCalls
import Derived.RangeFuncLeaves
import Derived.OrdersIn
import Derived.OrdersHeld
import Derived.Deep.RegionHeld
import Derived.Shelf.Abstract
import Derived.WalkKit
import Derived.OwnWalkIn
import Derived.TacticsInMore
import Derived.LoopNIn
import Derived.LoopIn
namespace Go.Proofs.YtenjlhlighkenaaGreat
open Go Go.RowKit

theorem grown_none {X Y Z : World} (h : X.grownBy Y none) (k : Y.grownBy Z none) : X.grownBy Z none := ⟨k.os.trans h.os, k.tape.trans h.tape, k.output.trans h.output, Nat.le_trans h.size k.size, fun b hb hn => (k.block b (Nat.lt_of_lt_of_le hb h.size) hn).trans (h.block b hb hn)⟩
structure Holds (B M : Nat) (X Y : World) : Prop where
  size : X.heap.size ≤ Y.heap.size
  same : ∀ k, B ≤ k → k < M → Y.heap[k]? = X.heap[k]?
theorem Holds.refl (B M : Nat) (X : World) : Holds B M X X := ⟨Nat.le_refl _, fun _ _ _ => rfl⟩
theorem Holds.trans {B M : Nat} {X Y Z : World} (h : Holds B M X Y) (k : Holds B M Y Z) : Holds B M X Z := ⟨Nat.le_trans h.size k.size, fun i h1 h2 => (k.same i h1 h2).trans (h.same i h1 h2)⟩
theorem Holds.far {B B' M : Nat} {X Y : World} (h : Holds B M X Y) (hB : B ≤ B') : Holds B' M X Y := ⟨h.size, fun k h1 h2 => h.same k (Nat.le_trans hB h1) h2⟩
theorem Holds.put (B M : Nat) (X : World) {l : Nat} (o : Obj) (hl : l < B) : Holds B M X (X.putObj l o) := ⟨by simp, fun k h1 _ => World.putObj_heap_other (by omega)⟩
theorem Holds.grown {B M : Nat} {X Y : World} {row : Option Nat} (h : X.grownBy Y row) (hM : M ≤ X.heap.size) (hr : ∀ r, row = some r → r < B ∨ M ≤ r) : Holds B M X Y :=
  ⟨h.size, fun k h1 h2 => h.block k (by omega) (fun e => by have := hr k e.symm; omega)⟩
def Descends (F : Fence) (n : Nat) (P : Program) (g : Nat) (lb : Array Value) (N : Nat) (see : Nat → Prop) (enc : Nat → Array Value) (Rd : Nat → World → Prop) (w : World) : Prop :=
  ∀ (l : Nat) (J : Nat → Nat → World → Prop) (Jx : Nat → World → Prop) (W : World), Below w.heap.size w W → (∀ M, OwnFrom W.heap.size (J M)) → OwnFrom W.heap.size Jx →
    (∀ M p X, J M p X → Rd p X) → (∀ M p X, p < N → ¬ see p → J M (p + 1) X → J M p X) →
    (∀ M p X, p < N → see p → J M (p + 1) X → YieldAt F (n - 1) P l (enc p) X fun e X' => Holds W.heap.size M X X' ∧ ((e = .returned (.bool true) ∧ J M p X') ∨ (e = .returned (.bool false) ∧ Jx M X'))) →
    (∀ X, W.grownBy X none → J X.heap.size N X) →
    CallsIn F n P g (#[.func (.yield l) #[] #[]] ++ lb) W fun e W' => (∃ v, e = .returned v) ∧ ∃ M, J M 0 W' ∨ Jx M W'
def downPost (B M : Nat) (I : Nat → World → Prop) (Ix : Code → World → Prop) (p : Nat) (X : World) : Exit → Act → World → Prop
  | .normal, _, Y => Holds B M X Y ∧ I p Y
  | .ret, _, Y => Holds B M X Y ∧ Ix .ret Y
  | .exit id, _, Y => Holds B M X Y ∧ Ix (.exit id) Y
  | .goto t, _, Y => Holds B M X Y ∧ Ix (.goto t) Y
  | .panic _, _, _ => False
  | .outgrown, _, _ => False
theorem range_down {F : Fence} {n : Nat} {P : Program} {g : Operand} {ps : Array Tmp} {assign body : Code} {Q : Exit → Act → World → Prop} {a : Act} {w : World}
    (hro : F.round = none) (h1 : 1 ≤ n) {gf : Nat} {lb : Array Value} (hg : a.eval g = .func (.func gf) #[] lb) (hFg : F.fn gf) (eg : ∀ args w, (callFunc gf args).run P w = .ok (.enter gf args) w)
    {N : Nat} {see : Nat → Prop} {enc : Nat → Array Value} {Rd : Nat → World → Prop} {w0 : World} (hseq : Descends F (n - 1) P gf lb N see enc Rd w0) (hb0 : Below w0.heap.size w0 w) (hps : ∀ p, (enc p).size = ps.size)
    (I : Nat → Nat → World → Prop) (Ix : Nat → Code → World → Prop) (hI : ∀ M, OwnFrom w.heap.size (I M)) (hIx : ∀ c, OwnFrom w.heap.size (fun M => Ix M c))
    (hRd : ∀ M p X, I M p X → Rd p X) (hskip : ∀ M p X, p < N → ¬ see p → I M (p + 1) X → I M p X)
    (h0 : ∀ X, w.grownBy X none → w.heap.size + 2 ≤ X.heap.size → I X.heap.size N X)
    (Ax : Nat → Nat → Act → World → Prop) (hAx : ∀ M p a', OwnFrom w.heap.size (fun (_ : Unit) => Ax M p a'))
    (hassign : ∀ (l M p : Nat) (X : World) (K : Act → World → Prop), p < N → see p → I M (p + 1) X → M ≤ X.heap.size → w.heap.size + 2 ≤ M → (∀ a' Y, Holds w.heap.size M X Y → Ax M p a' Y → K a' Y) →
      assign.wpIn (F.inRound l) (n - 1 - 1) P (Exit.then K (fun _ _ _ => False)) { tmps := (ps.zip (enc p)).foldl (fun t (p, v) => t.setIfInBounds p v) a.tmps, defers := [] } X)
    (hbody : ∀ (l M p : Nat) (a' : Act) (X : World), p < N → see p → Ax M p a' X → M ≤ X.heap.size → w.heap.size + 2 ≤ M → body.wpIn (F.inRound l) (n - 1 - 1) P (downPost w.heap.size M (I M) (Ix M) p X) a' X)
    (hdone : ∀ (D M : Nat) (X : World), w.heap.size ≤ D → I M 0 X → X.heap[D]? = some (.deferred (some [])) → Q .normal { a with defers := { target := .collected D, args := #[] } :: a.defers } X)
    (hstop : ∀ (D M : Nat) (c : Code) (X : World), w.heap.size ≤ D → Ix M c X → X.heap[D]? = some (.deferred (some [])) → c.wpIn F n P Q { a with defers := { target := .collected D, args := #[] } :: a.defers } X) :
    (Code.rangeFunc g ps assign body).wpIn F n P Q a w := by
  refine wpIn_rangeFunc ?_
  intro fn hfn
  rw [hro]
  obtain ⟨D, hD⟩ : ∃ D, D = w.heap.size := ⟨_, rfl⟩
  obtain ⟨lp, hlp⟩ : ∃ lp : LoopState → Option Code → Loop, lp = fun s j => { state := s, pending := j, fn := fn, tmps := a.tmps, params := ps, assign := assign, body := body, defers := w.heap.size } := ⟨_, rfl⟩
  have lp_ps : ∀ s j, (lp s j).params = ps := fun s j => by rw [hlp]
  have lp_st : ∀ s j, (lp s j).state = s := fun s j => by rw [hlp]
  have lp_pe : ∀ s j, (lp s j).pending = j := fun s j => by rw [hlp]
  have lp_up : ∀ s j s' j', { lp s j with state := s', pending := j' } = lp s' j' := fun s j s' j' => by rw [hlp]
  obtain ⟨A, hA⟩ : ∃ A, A = w.alloc (.deferred (some [])) := ⟨_, rfl⟩
  obtain ⟨W, hW⟩ : ∃ W, W = A.alloc (.loop (lp .ready none)) := ⟨_, rfl⟩
  have sA : A.heap.size = D + 1 := by rw [hA, hD]; simp
  have sW : W.heap.size = D + 2 := by rw [hW]; simp [sA]
  have gw : w.grownBy W none := by
    have g1 := World.grownBy_alloc w (.deferred (some [])) none
    have g2 := World.grownBy_alloc A (.loop (lp .ready none)) none
    rw [← hA] at g1
    rw [← hW] at g2
    exact grown_none g1 g2
  have dW : W.heap[D]? = some (.deferred (some [])) := by
    have h2 := (World.grownBy_alloc A (.loop (lp .ready none)) none).block D (by omega) (fun e => by cases e)
    rw [hW, h2, hA, hD]
    exact World.alloc_heap_new w _
  have lW : W.heap[D + 1]? = some (.loop (lp .ready none)) := by
    rw [hW, ← sA]
    exact World.alloc_heap_new A _
  refine ⟨D + 1, [{ target := .collected D, args := #[] }], W, { target := .fn (.func gf) lb, args := #[.func (.yield (D + 1)) #[] #[]] }, W, gf, #[.func (.yield (D + 1)) #[] #[]] ++ lb, W, ?_, ?_, ?_, ?_, fun _ => h1, ?_⟩
  · rw [hW, hA, hlp, hD]
    exact run_enterLoop_outer _ _ _ _ _
  · simp only [resolve, hg]
    simp [go_sem]
  · intro f' hf'
    simp [Target.leads] at hf'
    subst hf'
    exact hFg
  · simp [invoke, go_sem, eg]
  have nonc : ∀ {X : World} {k : Nat} {o : Obj}, X.heap[k]? = some o → k < X.heap.size := fun h => (Array.getElem?_eq_some_iff.1 h).1
  -- a block that is no cells, of the function's own, turns: ours stay
  have keep : ∀ {X Y : World} {row : Option Nat} {k : Nat} {o : Obj}, X.grownBy Y row → (∀ r, row = some r → W.heap.size ≤ r ∧ ∃ o : Obj, X.heap[r]? = some o ∧ o.isCells = false) → k < D + 2 → X.heap[k]? = some o → Y.heap[k]? = some o := fun hg hr hk ho =>
    (hg.block _ (nonc ho) (fun e => by have := (hr _ e.symm).1; omega)).trans ho
  have far : ∀ {X : World} {row : Option Nat}, (∀ r, row = some r → W.heap.size ≤ r ∧ ∃ o : Obj, X.heap[r]? = some o ∧ o.isCells = false) → ∀ r, row = some r → w.heap.size ≤ r ∧ ∃ o : Obj, X.heap[r]? = some o ∧ o.isCells = false := fun hr r e => ⟨by have := (hr r e).1; omega, (hr r e).2⟩
  refine (hseq (D + 1)
    (fun M p X => (I M p X ∧ M ≤ X.heap.size ∧ D + 2 ≤ M) ∧ X.heap[D + 1]? = some (.loop (lp .ready none)) ∧ X.heap[D]? = some (.deferred (some [])))
    (fun M X => ∃ c, Ix M c X ∧ X.heap[D + 1]? = some (.loop (lp .done (some c))) ∧ X.heap[D]? = some (.deferred (some []))) W
    (hb0.trans (((Below.refl _ w).grown gw (Nat.le_refl _) (fun _ e => by cases e)).mono hb0.size)) ?_ ?_ (fun M p X h => hRd M p X h.1.1) (fun M p X hp hs h => ⟨⟨hskip M p X hp hs h.1.1, h.1.2⟩, h.2⟩) ?_ ?_).mono ?_
  · rintro M p X Y row ⟨⟨h2, h3, h6⟩, h4, h5⟩ hg' hr
    exact ⟨⟨hI M p X Y row h2 hg' (far hr), Nat.le_trans h3 hg'.size, h6⟩, keep hg' hr (by omega) h4, keep hg' hr (by omega) h5⟩
  · rintro M X Y row ⟨c, h2, h4, h5⟩ hg' hr
    exact ⟨c, hIx c M X Y row h2 hg' (far hr), keep hg' hr (by omega) h4, keep hg' hr (by omega) h5⟩
  · -- one round
    rintro M p X hp hs ⟨⟨hi, hM, hDM⟩, hl, hd⟩
    have hy := run_yield (P := P) (args := enc p) hl (by rw [lp_ps]; exact hps p)
    refine ⟨_, _, _, _, hy, ?_⟩
    have e1 : (lp .ready none).fn = fn := by rw [hlp]
    have e2 : (lp .ready none).assign = assign := by rw [hlp]
    have e3 : (lp .ready none).body = body := by rw [hlp]
    have e4 : (lp .ready none).tmps = a.tmps := by rw [hlp]
    rw [e1, e2, e3, e4, lp_ps]
    refine roundIn_of_wpIn hfn (hassign (D + 1) M p X _ hp hs hi hM (by omega) ?_)
    intro a' Y hXY hax
    have hl2 := (hXY.same (D + 1) (by omega) (by omega)).trans hl
    have hd2 := (hXY.same D (by omega) (by omega)).trans hd
    have hlt := nonc hl2
    refine ⟨_, run_beginRound hl2 (lp_st _ _), ?_⟩
    have eb : { lp .ready none with state := .busy } = lp .busy none := by rw [hlp]
    rw [eb]
    obtain ⟨Z, hZ⟩ : ∃ Z, Z = Y.putObj (D + 1) (.loop (lp .busy none)) := ⟨_, rfl⟩
    rw [← hZ]
    have gz : Y.grownBy Z (some (D + 1)) := by rw [hZ]; exact grownBy_putObj' Y _ _
    have haz := hAx M p a' () Y Z (some (D + 1)) hax gz (fun r e => by cases e; exact ⟨by omega, _, hl2, rfl⟩)
    have hl3 : Z.heap[D + 1]? = some (.loop (lp .busy none)) := by rw [hZ]; exact World.putObj_heap_same hlt
    have hd3 : Z.heap[D]? = some (.deferred (some [])) := by rw [hZ]; exact (World.putObj_heap_other (by omega)).trans hd2
    have hYZ : Holds (D + 2) M Y Z := by rw [hZ]; exact Holds.put _ _ _ _ (by omega)
    have hXZ : Holds (D + 2) M X Z := (hXY.far (by omega)).trans hYZ
    refine wpIn_mono (hbody (D + 1) M p a' Z hp hs haz (Nat.le_trans hM hXZ.size) (by omega)) ?_
    have fin : ∀ (j : Option Code) (V : World), Holds w.heap.size M Z V → ∃ U : World, (Instr.endRound (D + 1) j).run P V = .ok (.bool j.isNone) U ∧ V.grownBy U (some (D + 1)) ∧ (∃ o, V.heap[D + 1]? = some o ∧ o.isCells = false) ∧ U.heap[D + 1]? = some (.loop (lp (if j.isNone then .ready else .done) j)) ∧ U.heap[D]? = some (.deferred (some [])) ∧ Holds (D + 2) M X U ∧ V.heap.size = U.heap.size := fun j V hZV => by
      have hl4 := (hZV.same (D + 1) (by omega) (by omega)).trans hl3
      have hd4 := (hZV.same D (by omega) (by omega)).trans hd3
      refine ⟨_, run_endRound j hl4, grownBy_putObj' V _ _, ⟨_, hl4, rfl⟩, ?_, (World.putObj_heap_other (by omega)).trans hd4, (hXZ.trans (hZV.far (by omega))).trans (Holds.put _ _ _ _ (by omega)), by simp⟩
      rw [World.putObj_heap_same (nonc hl4), lp_up]
    have out : ∀ (j : Code) (V : World), Holds w.heap.size M Z V → Ix M j V → ∃ v U, (Instr.endRound (D + 1) (some j)).run P V = .ok v U ∧ (Holds W.heap.size M X U ∧ ((Ending.returned v = .returned (.bool true) ∧ (I M p U ∧ M ≤ U.heap.size ∧ D + 2 ≤ M) ∧ U.heap[D + 1]? = some (.loop (lp .ready none)) ∧ U.heap[D]? = some (.deferred (some []))) ∨ (Ending.returned v = .returned (.bool false) ∧ ∃ c, Ix M c U ∧ U.heap[D + 1]? = some (.loop (lp .done (some c))) ∧ U.heap[D]? = some (.deferred (some []))))) := fun j V h2 h3 => by
      obtain ⟨U, r1, r2, r3, r4, r5, r6, r7⟩ := fin (some j) V h2
      exact ⟨_, U, r1, by rw [sW]; exact r6, .inr ⟨rfl, j, hIx j M V U _ h3 r2 (fun r e => by cases e; exact ⟨by omega, r3⟩), r4, r5⟩⟩
    rintro e a3 V hpost
    cases e with
    | normal =>
      obtain ⟨h2, h3⟩ := hpost
      obtain ⟨U, r1, r2, r3, r4, r5, r6, r7⟩ := fin none V h2
      exact ⟨_, U, r1, by rw [sW]; exact r6, .inl ⟨rfl, ⟨hI M p V U _ h3 r2 (fun r e => by cases e; exact ⟨by omega, r3⟩), Nat.le_trans hM r6.size, hDM⟩, r4, r5⟩⟩
    | ret => exact out _ V hpost.1 hpost.2
    | exit id => exact out _ V hpost.1 hpost.2
    | goto t => exact out _ V hpost.1 hpost.2
    | panic ch => exact hpost.elim
    | outgrown => exact hpost.elim
  · intro X hX
    have hsz := hX.size
    have gx : w.grownBy X none := grown_none gw hX
    exact ⟨⟨h0 X gx (by omega), Nat.le_refl _, by omega⟩, (hX.block _ (by omega) (fun e => by cases e)).trans lW, (hX.block _ (by omega) (fun e => by cases e)).trans dW⟩
  · rintro e V ⟨⟨v, rfl⟩, M, (⟨⟨h2, _, _⟩, h4, h5⟩ | ⟨c, h2, h4, h5⟩)⟩
    · have hr := run_endLoop (P := P) h4 (by rw [lp_st]; decide)
      rw [lp_pe] at hr
      exact ⟨none, _, hr, hdone D M _ (by omega) (hI M 0 V _ _ h2 (grownBy_putObj' V _ _) (fun r e => by cases e; exact ⟨by omega, _, h4, rfl⟩)) ((World.putObj_heap_other (by omega)).trans h5)⟩
    · have hr := run_endLoop (P := P) h4 (by rw [lp_st]; decide)
      rw [lp_pe] at hr
      exact ⟨some c, _, hr, hstop D M c _ (by omega) (hIx c M V _ _ h2 (grownBy_putObj' V _ _) (fun r e => by cases e; exact ⟨by omega, _, h4, rfl⟩)) ((World.putObj_heap_other (by omega)).trans h5)⟩
end Go.Proofs.YtenjlhlighkenaaGreat
namespace Go.Proofs.YtenjlhlighkenaaGreat
open Go Go.RowKit

def Bare (X : World) (row : Option Nat) : Prop := ∀ r, row = some r → ∃ o : Obj, X.heap[r]? = some o ∧ o.isCells = false
section
variable {X Y : World} {row : Option Nat} {B : Nat} {A : Option Addr}
theorem Bare.cell {a : Addr} {v : Value} (h : Bare X row) (hc : X.cell? a = some v) : row ≠ some a.block := fun e => by
  obtain ⟨o, h1, h2⟩ := h _ e
  obtain ⟨o', h3, h4⟩ := cells_of_cell hc
  rw [h1] at h3
  injection h3 with h3
  rw [h3, h4] at h2
  cases h2
theorem Bare.own {g : Nat} {t : TypeId} {l : List Value} (h : Bare X row) (ho : Own X g t l) : row ≠ some g := fun e => by
  obtain ⟨o, h1, h2⟩ := h _ e
  have h3 : X.heap[g]? = some (.cells l.toArray t) := ho
  rw [h1] at h3
  injection h3 with h3
  rw [h3] at h2
  cases h2
theorem bare_times {l : List Tm} (h : Times X B A l) (hr : Bare X row) : OfT (fun k => row = some k) A l.length := fun hp b o e hs => by
  obtain ⟨b', o', e', _, hc⟩ := h hp
  have hb := at_block e e'
  subst hb
  exact hr.cell (hc 0 l[0] (List.getElem?_eq_getElem hp)).1 hs
theorem bare_vals {l : List Vl} (h : Vals X B A l) (hr : Bare X row) : OfT (fun k => row = some k) A l.length := fun hp b o e hs => by
  obtain ⟨b', o', e', _, hc⟩ := h hp
  have hb := at_block e e'
  subst hb
  exact hr.cell (hc 0 l[0] (List.getElem?_eq_getElem hp)).1 hs
theorem bare_lies {α : Type} {size : Nat} {cells : α → List Value} {l : List α} (hne : ∀ x, ∃ u, (cells x)[0]? = some u) (h : Lies size cells X B A l) (hr : Bare X row) : OfT (fun k => row = some k) A l.length := fun hp b o e hs => by
  obtain ⟨b', o', e', _, hc⟩ := h hp
  have hb := at_block e e'
  subst hb
  obtain ⟨u, hu⟩ := hne l[0]
  exact hr.cell (hc 0 l[0] (List.getElem?_eq_getElem hp) 0 u hu) hs
theorem bare_ups {l : List Up} (h : Ups X B A l) (hr : Bare X row) : OfU (fun k => row = some k) A l := ⟨bare_lies (fun x => ⟨_, rfl⟩) h.head hr, fun u hu => ⟨bare_vals (h.each_ u hu).key hr, bare_vals (h.each_ u hu).row hr⟩⟩
theorem bare_bt {b : Bt} (h : BtIn X B b) (hr : Bare X row) : OfB (fun k => row = some k) b := ⟨bare_times h.since hr, bare_ups h.ups hr⟩
theorem bare_mg {m : Mg} (h : MgIn X B m) (hr : Bare X row) : OfM (fun k => row = some k) m := ⟨bare_ups h.a hr, bare_ups h.b hr, bare_times h.f hr, bare_ups h.o hr⟩
theorem bare_lv {l : Lv} (h : LvIn X B l) (hr : Bare X row) : OfL (fun k => row = some k) l := ⟨bare_bt h.b hr, bare_mg h.m hr⟩
theorem Own.turn {g : Nat} {t : TypeId} {l : List Value} (h : Own X g t l) (hg : X.grownBy Y row) (hr : Bare X row) : Own Y g t l := (KeptK.of_grown (S := fun k => row = some k) hg (fun _ e => e)).own h (hr.own h)
theorem BtIn.turn {b : Bt} (h : BtIn X X.heap.size b) (hg : X.grownBy Y row) (hr : Bare X row) : BtIn Y Y.heap.size b := bt_kept h (bare_bt h hr) (KeptK.of_grown (S := fun k => row = some k) hg (fun _ e => e))
theorem LvIn.turn {l : Lv} (h : LvIn X X.heap.size l) (hg : X.grownBy Y row) (hr : Bare X row) : LvIn Y Y.heap.size l := lv_kept h (bare_lv h hr) (KeptK.of_grown (S := fun k => row = some k) hg (fun _ e => e))
theorem row_turn {base c n size : Nat} {e : TypeId} {xs : List Value} (h : X.ownsRow base e size (.slice A n c) n xs) (hg : X.grownBy Y row) (hr : Bare X row) : Y.ownsRow base e size (.slice A n c) n xs := by
  refine (KeptK.of_grown (S := fun k => row = some k) hg (fun _ e => e)).row h (fun k e1 e2 => ?_)
  rcases row_ownK h with ⟨h0, _⟩ | ⟨g, cur, h0, _, ho, _⟩
  · rw [h0] at e1; cases e1
  · rw [h0] at e1
    have e1 : some g = some k := e1
    injection e1 with e1
    subst e1
    exact hr.own ho e2
theorem Wk.turn {base g : Nat} {s : Sp} (h : Wk X base g s) (hg : X.grownBy Y row) (hr : Bare X row) : Wk Y base g s := by
  have k := KeptK.of_grown (S := fun k => row = some k) hg (fun _ e => e)
  exact ⟨h.own.turn hg hr, row_turn h.row hg hr, h.out, times_kept h.since (bare_times h.since hr) k, h.soff, fun l hl => (h.lev l hl).turn hg hr, h.loff, h.ok, h.slo, h.lo, h.low, Nat.le_trans h.base_ hg.size⟩
theorem KeptK.turn {w : World} {S : Nat → Prop} {B' : Nat} (h : KeptK w X S) (hg : X.grownBy Y row) (hr : ∀ r, row = some r → B' ≤ r) (hB : w.heap.size ≤ B') : KeptK w Y S :=
  h.trans (KeptK.of_grown (S := fun k => row = some k) hg (fun _ e => e)) (fun b hb e => by have := hr b e; omega)
end
end Go.Proofs.YtenjlhlighkenaaGreat
namespace Go.Proofs.YtenjlhlighkenaaGreat
open Go Go.RowKit

section
variable {P : Program} {ops : Array Oper} {Q : Exit → Act → World → Prop} {md : Region.Mode} {l n : Nat}
def noDefer (ops : Array Oper) : Bool := ops.all fun o => match o.op with
  | .defer _ => false
  | _ => true
theorem noDefer_at (h : noDefer ops = true) {i : Nat} {o : Oper} (ho : ops[i]? = some o) : ∀ c, o.op ≠ .defer c := fun c e => by
  have h1 := Array.all_eq_true.1 h i (Array.getElem?_eq_some_iff.1 ho).1
  rw [(Array.getElem?_eq_some_iff.1 ho).2, e] at h1
  cases h1
theorem wpOp_round (hd : noDefer ops = true) (hQ : ¬ LetsOut Q) {i : Nat} {K : Act → World → Prop} {a : Act} {w : World} (h : wpOp P ops Q i K a w) : wpOpIn (Fence.wide.inRound l) n P ops Q i K a w := by
  unfold wpOp at h
  unfold wpOpIn
  cases ho : ops[i]? with
  | none => simpa [ho] using h
  | some o =>
    simp only [ho] at h ⊢
    split
    · rename_i hw
      simp only [hw, if_true] at h
      rcases h with h | ⟨_, h⟩
      · refine ⟨fun f _ => trivial, ?_⟩
        rw [Oper.semAt_eq _ _ _ (noDefer_at hd ho)]
        unfold Oper.wp at h
        generalize (execOp a.eval o).run P w = r at *
        cases r with
        | ok x w' =>
          cases x <;> simp only [Oper.upon, Oper.uponIn] at h ⊢ <;>
            first
              | exact h
              | exact ⟨fun e => (by cases e), callsIn_wide.2 h⟩
              | exact ⟨fun e => (by cases e), fun c cs _ => let ⟨v, w', r, s⟩ := h c cs; ⟨v, w', r, stepsIn_wide.2 s⟩⟩
        | halt x w' => cases x <;> simp only [Oper.upon, Oper.uponIn] at h ⊢ <;> exact h
      · exact absurd h hQ
    · rename_i hw
      simp only [hw] at h
      exact ⟨fun _ _ => trivial, h⟩
theorem wpAny_round (hd : noDefer ops = true) (hQ : ¬ LetsOut Q) : ∀ (fuel : Nat) (listed : Array Bool) (a : Act) (w : World), wpAny P md ops Q fuel listed a w → wpAnyIn (Fence.wide.inRound l) n P md ops Q fuel listed a w
  | 0, _, _, _, h => h
  | fuel + 1, _, _, _, h => ⟨h.1, fun i hi => wpOpIn_mono (fun a' w' h' => wpAny_round hd hQ fuel _ a' w' h') (wpOp_round hd hQ (h.2 i hi))⟩
theorem region_round {S : World → Prop} {id : Nat} {a : Act} {w : World} (hm : P.follows .mixedOrders = true) (hd : noDefer ops = true) (hQ : ¬ LetsOut Q) (hS : S w.drew)
    (h : S w.drew → wpAnyH P .any ops Q S ops.size (Array.replicate ops.size false) a w.drew) : (Code.region id ops true).wpIn (Fence.wide.inRound l) n P Q a w :=
  wpIn_region_any hm (wpAny_round hd hQ _ _ _ _ (wpAny_of_held _ _ _ _ (h hS)))
end
end Go.Proofs.YtenjlhlighkenaaGreat
namespace Go.Proofs.YtenjlhlighkenaaGreat
open Go Go.RowKit Go.Shelf

attribute [local go_sem] Oper.semAt_some

theorem grown_refl (W : World) : W.grownBy W none := ⟨rfl, rfl, rfl, Nat.le_refl _, fun _ _ _ => rfl⟩
theorem backward_any (A : Option Addr) (n c : Nat) (w : World) :
    Calls Tryz.prog 88 #[.slice A n c] w fun e w' => e = .returned (.func (.func 116) #[] #[.pointer (some ⟨w.heap.size, 0, none⟩)]) ∧ w' = w.alloc (.cells #[.slice A n c] 29) := by
  go_enter Tryz.func88, Tryz.ntmps88
  go_wp2_with fail
  go_ret
  exact ⟨rfl, rfl⟩
def RowsTo (A : Option Addr) (L : List Lv) (p : Nat) (X : World) : Prop := ∀ i l, i < p → L[i]? = some l → ∃ G, A = some ⟨G, 0, none⟩ ∧ ∀ (j : Nat) (u : Value), l.cells[j]? = some u → X.cell? ⟨G, i * 10 + j, none⟩ = some u
def RdB (Bs : Nat) (A : Option Addr) (c : Nat) (L : List Lv) (p : Nat) (X : World) : Prop := X.cell? ⟨Bs, 0, none⟩ = some (.slice A L.length c) ∧ RowsTo A L p X
def encB (L : List Lv) (p : Nat) : Array Value := #[.int .i64 (p : Int), (L.getD p default).val]
set_option maxRecDepth 100000 in
set_option maxHeartbeats 3200000 in
theorem backward_down (n Bs : Nat) (A : Option Addr) (c : Nat) (L : List Lv) (w : World) (hL : L.length ≤ 1048576) :
    Descends Fence.wide n Tryz.prog 116 #[.pointer (some ⟨Bs, 0, none⟩)] L.length (fun _ => True) (encB L) (RdB Bs A c L) w := by
  intro l J Jx W hW hJ hJx hRd hskip hY h0
  have hJ0 := h0 W (grown_refl W)
  obtain ⟨hb, _⟩ := hRd _ _ _ hJ0
  have hw : IntKind.i64.wrap ((L.length : Int) - 1) = (L.length : Int) - 1 := by rw [IntKind.wrap_i64]; omega
  refine callsIn_of_wp Tryz.func116 rfl trivial ?_ rfl
  simp only [Tryz.ntmps116, List.size_toArray, List.length_cons, List.length_nil, Nat.reduceAdd, Nat.reduceSub, Array.replicate_succ, Array.replicate_zero, List.push_toArray, List.append_toArray, List.nil_append, List.cons_append]
  gi_wp2
  gi_loopw [3] (fun v wr => ∃ k : Nat, k ≤ L.length ∧ v = .int .i64 ((k : Int) - 1) ∧ J W.heap.size k wr) (fun v _ => (intOf v + 1).toNat)
  case atStart => exact ⟨L.length, Nat.le_refl _, by first | rfl | rw [hw], hJ0⟩
  case round =>
    obtain ⟨k, hk, rfl, hJs⟩ := hrel
    obtain ⟨hbk, hrows⟩ := hRd _ _ _ hJs
    cases k with
    | zero =>
      gi_wp2
      go_end0
      exact ⟨⟨_, rfl⟩, _, .inl hJs⟩
    | succ p =>
      have hp : p < L.length := hk
      obtain ⟨x, hx⟩ : ∃ x, L[p]? = some x := ⟨_, List.getElem?_eq_getElem hp⟩
      obtain ⟨G, rfl, hc⟩ := hrows p x (Nat.lt_succ_self p) hx
      obtain ⟨r0, r1, r2, r3, r4, r5, r6, r7, r8, r9⟩ := lv_ten hc
      obtain ⟨fn, tmps, assign, body, hy, hR⟩ := hY _ p wr hp trivial hJs
      have hd : L.getD p default = x := by rw [List.getD_eq_getElem?_getD, hx]; rfl
      unfold encB at hy
      rw [hd] at hy
      unfold Lv.val at hy
      have e1 : ((p + 1 : Nat) : Int) - 1 = (p : Int) := by omega
      rw [e1]
      have q0 : (0 : Int) ≤ (p : Int) := by omega
      have q1 : (p : Int) < (L.length : Int) := by omega
      have q2 : IntKind.i64.wrap ((p : Int) - 1) = (p : Int) - 1 := by rw [IntKind.wrap_i64]; omega
      gi_wp2
      refine ⟨fun e => (by cases e), hR.mono ?_⟩
      rintro e W3 ⟨_, ⟨rfl, hJ3⟩ | ⟨rfl, hJ3⟩⟩
      · gi_wp2
        go_roundw
        case rel => exact ⟨p, Nat.le_of_lt hp, by first | rfl | rw [q2], hJ3⟩
        case measure => simp [intOf]
      · gi_wp2
        refine bodyPost_ret (results_none rfl _ _ _) rfl ?_
        exact ⟨⟨_, rfl⟩, _, .inr hJ3⟩
end Go.Proofs.YtenjlhlighkenaaGreat
namespace Go.Proofs.YtenjlhlighkenaaGreat
open Go Go.RowKit Go.Shelf

attribute [local go_sem] Oper.semAt_some

theorem busy_any (g : Nat) (w : World) :
    Calls Tryz.prog 55 #[.pointer (some ⟨g, 0, none⟩)] w fun e w' => e = .returned (.func (.func 87) #[] #[.pointer (some ⟨w.heap.size, 0, none⟩)]) ∧ w' = w.alloc (.cells #[.pointer (some ⟨g, 0, none⟩)] 111) := by
  go_enter Tryz.func55, Tryz.ntmps55
  go_wp2_with fail
  go_ret
  exact ⟨rfl, rfl⟩
def seeB (L : List Lv) (p : Nat) : Prop := ∃ l, L[p]? = some l ∧ l.busy = true
def encM (L : List Lv) (p : Nat) : Array Value := #[.int .i64 (p : Int), (L.getD p default).m.val]
def RdW (Bw g : Nat) (A : Option Addr) (c : Nat) (L : List Lv) (p : Nat) (X : World) : Prop :=
  X.cell? ⟨Bw, 0, none⟩ = some (.pointer (some ⟨g, 0, none⟩)) ∧ (p = L.length → X.cell? ⟨g, 1, none⟩ = some (.slice A L.length c)) ∧ RowsTo A L p X
theorem cell_held {B M : Nat} {X Y : World} (h : Holds B M X Y) {a : Addr} {v : Value} (h1 : B ≤ a.block) (h2 : a.block < M) (hc : X.cell? a = some v) : Y.cell? a = some v := by
  rw [← hc]
  exact World.cell?_of_block (h.same _ h1 h2)
theorem cell_grown_none {X Y : World} (h : X.grownBy Y none) {a : Addr} {v : Value} (hc : X.cell? a = some v) : Y.cell? a = some v := by
  rw [← hc]
  obtain ⟨o, ho, _⟩ := cells_of_cell hc
  exact World.cell?_of_block (h.block _ (Array.getElem?_eq_some_iff.1 ho).1 (fun e => by cases e))
set_option maxRecDepth 100000 in
set_option maxHeartbeats 3200000 in
theorem busy_down (n Bw g : Nat) (A : Option Addr) (c : Nat) (L : List Lv) (w : World) (hL : L.length ≤ 1048576) (hBw : Bw < w.heap.size) (hg : g < w.heap.size) :
    Descends Fence.wide n Tryz.prog 87 #[.pointer (some ⟨Bw, 0, none⟩)] L.length (seeB L) (encM L) (RdW Bw g A c L) w := by
  intro l J Jx W hW hJ hJx hRd hskip hY h0
  obtain ⟨hw1, hw2, _⟩ := hRd _ _ _ (h0 W (grown_refl W))
  replace hw2 := hw2 rfl
  have sW := hW.size
  refine callsIn_wide.2 (callsIn_wide (n := 9).1 ?_)
  have h9 : 1 ≤ 9 := by decide
  refine callsIn_of_wp_marks Tryz.func87 rfl trivial ?_ rfl
  simp only [Tryz.ntmps87, List.size_toArray, List.length_cons, List.length_nil, Nat.reduceAdd, Nat.reduceSub, Array.replicate_succ, Array.replicate_zero, List.push_toArray, List.append_toArray, List.nil_append, List.cons_append]
  have gV := World.grownBy_alloc W (.cells #[.func (.yield l) #[] #[]] 158) none
  have g1 := cell_grown_none gV hw1
  have g2 := cell_grown_none gV hw2
  gi_wp2_with (refine ⟨trivial, ?_⟩; gi_at_call 88; refine (callsIn_wide.2 (backward_any A L.length c _)).mono ?_; rintro _ _ ⟨rfl, rfl⟩)
  obtain ⟨V, hV⟩ : ∃ V, V = (W.alloc (.cells #[.func (.yield l) #[] #[]] 158)).alloc (.cells #[.slice A L.length c] 29) := ⟨_, rfl⟩
  rw [← hV]
  have gV2 : W.grownBy V none := by rw [hV]; exact grown_none gV (World.grownBy_alloc _ _ none)
  have sV : V.heap.size = W.heap.size + 2 := by rw [hV]; simp
  have v0 : V.cell? ⟨W.heap.size, 0, none⟩ = some (.func (.yield l) #[] #[]) := by
    rw [hV]
    exact cell_grown_none (World.grownBy_alloc _ _ none) ((Own.made W 158 [.func (.yield l) #[] #[]]).at_ 0)
  have v1 : V.cell? ⟨W.heap.size + 1, 0, none⟩ = some (.slice A L.length c) := by
    rw [hV]
    have := (Own.made (W.alloc (.cells #[.func (.yield l) #[] #[]] 158)) 29 [.slice A L.length c]).at_ 0
    rwa [World.size_alloc] at this
  clear hV gV g1 g2
  refine range_down (w := V) rfl h9 (gf := 116) (lb := #[.pointer (some ⟨W.heap.size + 1, 0, none⟩)]) rfl trivial (enters_of Tryz.func116 (by kernel_rfl) rfl)
    (backward_down 8 (W.heap.size + 1) A c L V hL) (Below.refl _ _) (fun _ => rfl)
    (fun M p X => J M p X ∧ X.cell? ⟨W.heap.size, 0, none⟩ = some (.func (.yield l) #[] #[]) ∧ X.cell? ⟨W.heap.size + 1, 0, none⟩ = some (.slice A L.length c))
    (fun M j X => j = .ret ∧ Jx M X) ?hI ?hIx ?hRd (fun M p X _ hn _ => absurd trivial hn) ?h0
    (fun M p a' X => (J M (p + 1) X ∧ X.cell? ⟨W.heap.size, 0, none⟩ = some (.func (.yield l) #[] #[]) ∧ X.cell? ⟨W.heap.size + 1, 0, none⟩ = some (.slice A L.length c)) ∧ ∃ (x : Lv) (Bx : Nat), L[p]? = some x ∧ (∀ (j : Nat) (u : Value), x.cells[j]? = some u → X.cell? ⟨Bx, j, none⟩ = some u) ∧
      a' = { tmps := #[.func (.yield l) #[] #[], .pointer (some ⟨Bw, 0, none⟩), .pointer (some ⟨W.heap.size, 0, none⟩), .int .i64 (p : Int), .pointer (some ⟨Bx, 0, none⟩), .pointer (some ⟨g, 0, none⟩), .pointer (some ⟨g, 0, none⟩), .pointer (some ⟨g, 0, none⟩), .pointer (some ⟨g, 1, none⟩), .slice A L.length c, .func (.func 116) #[] #[.pointer (some ⟨W.heap.size + 1, 0, none⟩)], .int .i64 (p : Int), x.val, undef, undef, undef, undef, undef, undef, undef, undef, undef, undef], defers := [] })
    ?hAx ?assign ?body ?done ?stop
  case hI =>
    rintro M p X Y row ⟨h1, h2, h3⟩ hg2 hr
    exact ⟨hJ M p X Y row h1 hg2 (fun r e => ⟨by have := (hr r e).1; omega, (hr r e).2⟩), cell_kept h2 hg2 (fun r e => (hr r e).2), cell_kept h3 hg2 (fun r e => (hr r e).2)⟩
  case hIx =>
    rintro j M X Y row ⟨h1, h2⟩ hg2 hr
    exact ⟨h1, hJx M X Y row h2 hg2 (fun r e => ⟨by have := (hr r e).1; omega, (hr r e).2⟩)⟩
  case hRd =>
    rintro M p X ⟨h1, h2, h3⟩
    exact ⟨h3, (hRd M p X h1).2.2⟩
  case h0 =>
    intro X hX _
    exact ⟨h0 X (grown_none gV2 hX), cell_grown_none hX v0, cell_grown_none hX v1⟩
  case hAx =>
    rintro M p a' _ X Y row ⟨⟨h1, h2, h3⟩, x, Bx, h4, h5, h6⟩ hg2 hr
    exact ⟨⟨hJ M (p + 1) X Y row h1 hg2 (fun r e => ⟨by have := (hr r e).1; omega, (hr r e).2⟩), cell_kept h2 hg2 (fun r e => (hr r e).2), cell_kept h3 hg2 (fun r e => (hr r e).2)⟩, x, Bx, h4, fun j u hu => cell_kept (h5 j u hu) hg2 (fun r e => (hr r e).2), h6⟩
  case assign =>
    rintro l2 M p X K hp _ ⟨h1, h2, h3⟩ hM hDM hK
    obtain ⟨x, hx⟩ : ∃ x, L[p]? = some x := ⟨_, List.getElem?_eq_getElem hp⟩
    have hd : L.getD p default = x := by rw [List.getD_eq_getElem?_getD, hx]; rfl
    unfold encB
    rw [hd]
    unfold Lv.val
    gi_wp2
    exact hK _ _ (Holds.grown (World.grownBy_alloc X _ none) hM (fun r e => by cases e)) ⟨⟨hJ M (p + 1) X _ none h1 (World.grownBy_alloc X _ none) (fun r e => by cases e), cell_grown_none (World.grownBy_alloc X _ none) h2, cell_grown_none (World.grownBy_alloc X _ none) h3⟩, x, X.heap.size, hx, fun j u hu => ((Own.made X 65 x.cells).at_ j).trans hu, rfl⟩
  case body =>
    rintro l2 M p a' X hp _ ⟨⟨h1, h2, h3⟩, x, Bx, hx, hc, rfl⟩ hM hDM
    cases hb : x.busy with
    | false =>
      have c1 := hc 1 (.bool false) (by rw [← hb]; rfl)
      gi_wp2
      refine ⟨fun f _ => trivial, ?_⟩
      gi_wp2
      exact ⟨Holds.refl _ _ _, hskip M p X hp (fun ⟨x', hx', hb'⟩ => by rw [hx] at hx'; injection hx' with hx'; rw [← hx', hb] at hb'; cases hb') h1, h2, h3⟩
    | true =>
      obtain ⟨fn, tmps, assign, body, hy, hR⟩ := hY M p X hp ⟨x, hx, hb⟩ h1
      have hd : L.getD p default = x := by rw [List.getD_eq_getElem?_getD, hx]; rfl
      unfold encM at hy
      rw [hd] at hy
      unfold Mg.val at hy
      have c1 := hc 1 (.bool true) (by rw [← hb]; rfl)
      have c4 := hc 4 _ rfl
      have c5 := hc 5 _ rfl
      have c6 := hc 6 _ rfl
      have c7 := hc 7 _ rfl
      have c8 := hc 8 _ rfl
      have c9 := hc 9 _ rfl
      gi_wp2
      refine RoundIn.mono (R := fun e X' => Holds W.heap.size M X X' ∧ ((e = .returned (.bool true) ∧ J M p X') ∨ (e = .returned (.bool false) ∧ Jx M X'))) ⟨hR.1, fun c cs _ => hR.2 c cs (room_wide _)⟩ ?_
      rintro e X2 ⟨hh, ⟨rfl, hJ2⟩ | ⟨rfl, hJ2⟩⟩
      · gi_wp2
        exact ⟨hh.far (by omega), hJ2, cell_held hh (Nat.le_refl _) (by show W.heap.size < M; omega) h2, cell_held hh (by show W.heap.size ≤ W.heap.size + 1; omega) (by show W.heap.size + 1 < M; omega) h3⟩
      · gi_wp2
        exact ⟨hh.far (by omega), rfl, hJ2⟩
  case done =>
    rintro D M X hD ⟨h1, _, _⟩ hk
    gi_wp2
    refine ⟨by simp, .inl ⟨_, _, rfl, run_takeDeferred hk, ?_⟩⟩
    exact ⟨_, results_none rfl _ _ _, ⟨_, rfl⟩, M, .inl (hJ M 0 X _ _ h1 (grownBy_putObj' X _ _) (fun r e => by cases e; exact ⟨by omega, _, hk, rfl⟩))⟩
  case stop =>
    rintro D M j X hD ⟨rfl, h1⟩ hk
    gi_wp2
    refine ⟨by simp, .inl ⟨_, _, rfl, run_takeDeferred hk, ?_⟩⟩
    exact ⟨_, results_none rfl _ _ _, ⟨_, rfl⟩, M, .inr (hJx M X _ _ h1 (grownBy_putObj' X _ _) (fun r e => by cases e; exact ⟨by omega, _, hk, rfl⟩))⟩
end Go.Proofs.YtenjlhlighkenaaGreat
namespace Go.Proofs.YtenjlhlighkenaaGreat
open Go Go.RowKit

def WorkedC (m : Mg) (fuel : Int) (w : World) (x : Ending) (w' : World) : Prop :=
  ∃ (m' : Mg) (c E : Int), x = .returned (.tuple #[m'.val, .int .i64 c, .int .i64 E]) ∧ (¬ MOk m ∧ m' = Mg.nil ∧ c = 0 ∧ E = 8 ∨ MOk m ∧ WorkOk m m' fuel c E) ∧ MgIn w' w'.heap.size m' ∧ MgOk m' ∧ MgLo w.heap.size m' ∧ Below w.heap.size w w' ∧ m'.ac = m'.a.length ∧ m'.bc = m'.b.length
set_option maxRecDepth 100000 in
set_option maxHeartbeats 12800000 in
theorem work_anyC (m : Mg) (fuel : Int) (w : World) (hm : MgIn w w.heap.size m) (hok : MgOk m) (na : m.a.length ≤ 274877906944) (nb : m.b.length ≤ 274877906944) (no : m.o.length ≤ 274877906944) :
    Calls Tryz.prog 53 #[m.val, .int .i64 fuel] w (WorkedC m fuel w) := by
  obtain ⟨V, hV, hvb, hvo, hvz⟩ := wk_box w m
  have hin := hm.keep hvb
  have y1 := Lib.hid (checkM_any m V hin hok)
  have HB := Lib.hid (And.intro hvb (And.intro hvo hvz))
  have HK := Lib.hid (And.intro hin (And.intro hok (And.intro na (And.intro nb no))))
  have hmv : m.val = .agg #[.slice m.aA m.a.length m.ac, .slice m.bA m.b.length m.bc, .int .i64 m.i, .int .i64 m.j, .slice m.sA m.f.length m.sc, .slice m.oA m.o.length m.oc] := rfl
  rw [hmv] at y1 ⊢
  obtain ⟨d0, d1, d2, d3, d4, d5⟩ := own6 hvo
  clear hm hok hvb hvo hvz hin hmv na nb no
  go_enter Tryz.func53, Tryz.ntmps53
  go_upto_region 1 with fail
  rw [← hV]
  clear hV
  go_wp2_with fail
  refine y1.out.mono ?_
  rintro _ w1 ⟨n, rfl, hn, b1⟩
  have H1 := Lib.hid (And.intro hn (And.intro (HB.out.1.trans (b1.mono HB.out.1.size)) (And.intro (HB.out.2.1.past b1 HB.out.2.1.inside) (And.intro (HB.out.2.2.past b1 HB.out.2.2.inside) (HK.out.1.keep b1)))))
  clear d0 d1 d2 d3 d4 d5 b1 y1 hn
  by_cases h0 : n = 0
  case neg =>
    have t1 : (n != 0) = true := bne_iff_ne.2 h0
    obtain ⟨f0, f1, f2, f3, f4, f5⟩ := own_frozen6 H1.out.2.2.2.1
    obtain ⟨z0, z1, z2, z3, z4, z5⟩ := own6 H1.out.2.2.2.1
    obtain ⟨X, hX', hXo, hXb, hXs, hXh⟩ := own_six H1.out.2.2.2.1 (.slice none 0 0) (.slice none 0 0) (.int .i64 0) (.int .i64 0) (.slice none 0 0) (.slice none 0 0)
    have HX := Lib.hid (And.intro (hXb w.heap.size w H1.out.2.1 (by omega)) hXo)
    have HR := Lib.hid hX'
    have H0 := Lib.hid h0
    clear hXo hXb hXs hXh hX' h0
    go_wp2_with fail
    rw [← HR.out]
    obtain ⟨x0, x1, x2, x3, x4, x5⟩ := own6 HX.out.2
    exact bodyPost_ret (v := .tuple #[.agg #[.slice none 0 0, .slice none 0 0, .int .i64 0, .int .i64 0, .slice none 0 0, .slice none 0 0], .int .i64 0, .int .i64 n]) (by simp [results, Tryz.results53, go_sem, x0, x1, x2, x3, x4, x5]) rfl ⟨Mg.nil, 0, n, rfl, .inl (by
      rcases H1.out.1 with ⟨_, e⟩ | ⟨e, e2⟩
      · exact absurd e H0.out
      · exact ⟨e, rfl, rfl, e2⟩), mg_nil_in _ _, mg_nil_ok, mg_nil_lo _, HX.out.1, rfl, rfl⟩
  subst h0
  have hmok : MOk m := by
    rcases H1.out.1 with ⟨e, _⟩ | ⟨_, e⟩
    · exact e
    · omega
  have y2 := Lib.hid (copyM_any m w1 H1.out.2.2.2.2 HK.out.2.1 (mok_sm hmok HK.out.2.2.1 HK.out.2.2.2.1 HK.out.2.2.2.2))
  obtain ⟨d0, d1, d2, d3, d4, d5⟩ := own6 H1.out.2.2.1
  have HM := Lib.hid hmok
  rw [show m.val = .agg #[.slice m.aA m.a.length m.ac, .slice m.bA m.b.length m.bc, .int .i64 m.i, .int .i64 m.j, .slice m.sA m.f.length m.sc, .slice m.oA m.o.length m.oc] from rfl] at y2
  clear hmok
  go_wp2_with fail
  refine y2.out.mono ?_
  rintro _ w2 ⟨m1, rfl, hs1, hi1, ho1, hl1, b2, ha1⟩
  clear d0 d1 d2 d3 d4 d5 y2
  -- loop
  unfold Mg.val
  obtain ⟨i1, hi1'⟩ : ∃ i : Nat, m1.i = (i : Int) := ⟨m1.i.toNat, by have := HM.out.da.lo; rw [hs1.i]; omega⟩
  obtain ⟨j1, hj1'⟩ : ∃ j : Nat, m1.j = (j : Int) := ⟨m1.j.toNat, by have := HM.out.db.lo; rw [hs1.j]; omega⟩
  have hi1l : i1 ≤ m1.a.length := by have := HM.out.da.hi; have h3 := hs1.i; rw [len_p hs1.a]; omega
  have hj1l : j1 ≤ m1.b.length := by have := HM.out.db.hi; have h3 := hs1.j; rw [len_p hs1.b]; omega
  rw [hi1', hj1']
  obtain ⟨V2, hV2⟩ : ∃ V2, V2 = w2.alloc (.cells #[.slice m1.aA m1.a.length m1.ac, .slice m1.bA m1.b.length m1.bc, .int .i64 (i1 : Int), .int .i64 (j1 : Int), .slice m1.sA m1.f.length m1.sc, .slice m1.oA m1.o.length m1.oc, .int .i64 0] 154) := ⟨_, rfl⟩
  have hst0 := wst_start hi1 ho1 ha1 hi1' hj1' b2.size hl1 hV2
  have hbV2 : Below w1.heap.size w2 V2 := by rw [hV2]; exact (Below.refl _ _).alloc b2.size _
  have HCP := Lib.hid (And.intro ha1.ac ha1.bc)
  have hla := len_p hs1.a
  have hlb := len_p hs1.b
  have hlo := len_p hs1.o
  have hnA : m1.a.length ≤ 274877906944 := by rw [hla]; exact HK.out.2.2.1
  have hnB : m1.b.length ≤ 274877906944 := by rw [hlb]; exact HK.out.2.2.2.1
  have hnO : m1.o.length ≤ 274877906944 := by rw [hlo]; exact HK.out.2.2.2.2
  have hRz := (H1.out.2.2.2.1.past b2 H1.out.2.2.2.1.inside).past hbV2 H1.out.2.2.2.1.inside
  have hNl : (m.a.length - m.i.toNat) + (m.b.length - m.j.toNat) = (m1.a.length - i1) + (m1.b.length - j1) := by have h3 := hs1.i; have h4 := hs1.j; rw [hla, hlb]; omega
  have hii : m.i.toNat = i1 := by have h3 := hs1.i; omega
  have hjj : m.j.toNat = j1 := by have h3 := hs1.j; omega
  have H2 := Lib.hid (And.intro (And.intro H1.out.2.1.size H1.out.2.2.2.1.inside) (And.intro (show Below w.heap.size w V2 from (H1.out.2.1.trans (b2.mono H1.out.2.1.size)).trans (hbV2.mono H1.out.2.1.size)) (And.intro hRz (And.intro ho1 (And.intro hs1 (And.intro hl1 (And.intro ha1 (And.intro (And.intro hNl (And.intro hii hjj)) hst0))))))))
  have hP2 : w2.heap.size < V2.heap.size := hst0.own.inside
  obtain ⟨P, hP⟩ : ∃ P, P = w2.heap.size := ⟨_, rfl⟩
  have HST := Lib.hid (show WSt w1.heap.size P m1 i1 j1 0 (.slice m1.oA m1.o.length m1.oc) m1.o V2 from hP ▸ hst0)
  clear hs1 hi1 ho1 hl1 b2 ha1 hi1' hj1' hst0 hbV2 hla hlb hlo hRz hNl hii hjj hP2
  go_wp2_with fail
  rw [← hV2, ← hP]
  clear hV2 hP
  go_loopw [9] (fun _ wr => ∃ (i j k : Nat) (v : Value) (o : List Up) (n : Nat), WSt w1.heap.size P m1 i j k v o wr ∧ Below w1.heap.size V2 wr ∧ i ≤ m1.a.length ∧ j ≤ m1.b.length ∧ k ≤ i + j ∧ o.length + (m1.a.length - i) + (m1.b.length - j) ≤ 824633720832 ∧
      workM m1.f fuel ((m1.a.length - i1) + (m1.b.length - j1)) (curM m1 i1 j1 0 m1.o) = workM m1.f fuel n (curM m1 i j k o) ∧ (m1.a.length - i) + (m1.b.length - j) ≤ n)
    (fun _ wr => m1.a.length + m1.b.length - ((intOf ((wr.cell? ⟨P, 2, none⟩).getD undef)).toNat + (intOf ((wr.cell? ⟨P, 3, none⟩).getD undef)).toNat))
  case atStart => exact ⟨i1, j1, 0, _, m1.o, _, HST.out, Below.refl _ _, hi1l, hj1l, by omega, by omega, rfl, Nat.le_refl _⟩
  case round =>
    obtain ⟨i, j, k, v, o, n, hws, hbv, hi, hj, hk, hsz, hw, hn⟩ := hrel
    obtain ⟨oA, oc, hv, _, _, _⟩ := lies_of_own (size := 6) (cells := Up.cells) (by decide) ucells_len rfl hws.row
    subst hv
    obtain ⟨wi, hwi⟩ : ∃ wi, wi = wr := ⟨_, rfl⟩
    subst hwi
    have y1 := Lib.hid (left_any P m1 i j k _ wi hws.own (by omega) (by omega) (by omega) (by omega))
    have HN := Lib.hid (And.intro hi (And.intro hj (And.intro hk (And.intro hsz (And.intro hw hn)))))
    have HW := Lib.hid (And.intro hws hbv)
    clear hws hbv hw
    have HC := Lib.hid (show WSt w1.heap.size P m1 i j k (.slice oA o.length oc) o wi ∧ Below w1.heap.size V2 wi from HW.out)
    obtain ⟨c0, c1, c2, c3, c4, c5, c6⟩ := own7 HC.out.1.own
    by_cases hlf : i < m1.a.length ∨ j < m1.b.length
    case neg =>
      have hD : decide (i < m1.a.length ∨ j < m1.b.length) = false := decide_eq_false hlf
      rw [hD] at y1
      have HE := Lib.hid (show workM m1.f fuel n (curM m1 i j k o) = { curM m1 i j k o with E := 0 } from work_none (cur_none (by omega) (by omega)) n)
      clear hD hlf c0 c1 c2 c3 c4 c5 c6
      go_wp2_with fail
      refine y1.out.mono ?_
      rintro _ wl ⟨rfl, q, hq⟩
      have h9 : WSt w1.heap.size P m1 i j k (.slice oA o.length oc) o wl := hq ▸ HC.out.1.past (below_draws (Below.refl _ _) q)
      have b9 : Below w1.heap.size V2 wl := hq ▸ below_draws HC.out.2 q
      have HQ := Lib.hid (And.intro h9 b9)
      have hC := fun p : Past wl => own7 ((h9.past p.h).own)
      clear hq h9 b9 y1
      have hwt := hC ⟨wl, Below.refl _ _⟩
      obtain ⟨c0, c1, c2, c3, c4, c5, c6⟩ := hwt
      dsimp only at c0 c1 c2 c3 c4 c5 c6
      have HS := Lib.hid (fun W (h : Hp P wl W) => (⟨h.cell c0, h.cell c1, h.cell c2, h.cell c3, h.cell c4, h.cell c5, h.cell c6⟩ : W.cell? ⟨P, 0, none⟩ = some (.slice m1.aA m1.a.length m1.ac) ∧ W.cell? ⟨P, 1, none⟩ = some (.slice m1.bA m1.b.length m1.bc) ∧ W.cell? ⟨P, 2, none⟩ = some (.int .i64 (i : Int)) ∧ W.cell? ⟨P, 3, none⟩ = some (.int .i64 (j : Int)) ∧ W.cell? ⟨P, 4, none⟩ = some (.slice m1.sA m1.f.length m1.sc) ∧ W.cell? ⟨P, 5, none⟩ = some (.slice oA o.length oc) ∧ W.cell? ⟨P, 6, none⟩ = some (.int .i64 (k : Int))))
      have hself := Hp.refl P wl
      have hRP : w.heap.size + 1 ≠ P := by have h1 := H2.out.1.2; have h2 := HST.out.base_; omega
      have hwz := (H2.out.2.2.1.past HQ.out.2 (by have := H2.out.1.2; omega))
      obtain ⟨f0, f1, f2, f3, f4, f5⟩ := own_frozen6 hwz
      obtain ⟨z0, z1, z2, z3, z4, z5⟩ := own6 hwz
      clear hwz
      go_upto_region 9 with fail
      have HDR := Lib.hid (Below.drew (Below.refl wl.heap.size wl))
      go_region_held3 (fun w' => Hp P wl w' ∧ (w'.cell? ⟨P, 0, none⟩ = some (.slice m1.aA m1.a.length m1.ac) ∧ w'.cell? ⟨P, 1, none⟩ = some (.slice m1.bA m1.b.length m1.bc) ∧ w'.cell? ⟨P, 2, none⟩ = some (.int .i64 (i : Int)) ∧ w'.cell? ⟨P, 3, none⟩ = some (.int .i64 (j : Int)) ∧ w'.cell? ⟨P, 4, none⟩ = some (.slice m1.sA m1.f.length m1.sc) ∧ w'.cell? ⟨P, 5, none⟩ = some (.slice oA o.length oc) ∧ w'.cell? ⟨P, 6, none⟩ = some (.int .i64 (k : Int))))
        ((refine (fun h => And.intro h (HS.out _ h)) ?_; repeat (first | with_reducible exact hself | with_reducible refine Hp.set ?_ hRP _ _ | with_reducible refine Hp.drew ?_)))
        (fail)
      clear c0 c1 c2 c3 c4 c5 c6 f0 f1 f2 f3 f4 f5 z0 z1 z2 z3 z4 z5 hself
      have hz := (H2.out.2.2.1.past HQ.out.2 (by have := H2.out.1.2; omega))
      have hst := HQ.out.1
      have hbb := HQ.out.2
      obtain ⟨X, hX', hXo, hXb, hXs, hXh⟩ := own_six hz (.slice m1.aA m1.a.length m1.ac) (.slice m1.bA m1.b.length m1.bc) (.int .i64 (i : Int)) (.int .i64 (j : Int)) (.slice m1.sA m1.f.length m1.sc) (.slice oA o.length oc)
      obtain ⟨r1, r2⟩ := out_fine (R := w.heap.size + 1) hst H2.out.2.2.2.2.2.1 H2.out.1.2 hXs hXh
      have HX := Lib.hid (And.intro (Below.drew (hXb w.heap.size w (H2.out.2.1.trans (hbb.mono H2.out.1.1)) (by omega))) (And.intro (own_drew' hXo) (And.intro (show MgIn X.drew X.drew.heap.size (outM m1 i j oA oc o) from r1.keep (Below.drew (Below.refl _ _))) (r2.mono H2.out.1.1))))
      have HR := Lib.hid hX'
      clear hst hbb hz hXo hXb hXs hXh hX' hC r1 r2 HS HDR
      go_wp2_with fail
      rw [← HR.out]
      obtain ⟨x0, x1, x2, x3, x4, x5⟩ := own6 HX.out.2.1
      exact bodyPost_ret (v := .tuple #[.agg #[.slice m1.aA m1.a.length m1.ac, .slice m1.bA m1.b.length m1.bc, .int .i64 (i : Int), .int .i64 (j : Int), .slice m1.sA m1.f.length m1.sc, .slice oA o.length oc], .int .i64 (k : Int), .int .i64 0]) (by simp [results, Tryz.results53, go_sem, x0, x1, x2, x3, x4, x5]) rfl ⟨outM m1 i j oA oc o, k, 0, rfl, .inr ⟨HM.out, ⟨H2.out.2.2.2.2.1.a, H2.out.2.2.2.2.1.b, H2.out.2.2.2.2.1.f, work_fin H2.out.2.2.2.2.1 HN.out.2.2.2.2.1 HN.out.1 HN.out.2.1 H2.out.2.2.2.2.2.2.2.1 HE.out⟩⟩, HX.out.2.2.1, ⟨H2.out.2.2.2.1.a, H2.out.2.2.2.1.b, H2.out.2.2.2.1.f, ⟨by have := HN.out.2.2.2.1; show o.length ≤ _; omega, HQ.out.1.ok⟩, ⟨by show -9223372036854775808 ≤ (i : Int); omega, by show (i : Int) ≤ 9223372036854775807; omega⟩, ⟨by show -9223372036854775808 ≤ (j : Int); omega, by show (j : Int) ≤ 9223372036854775807; omega⟩⟩, HX.out.2.2.2, HX.out.1, HCP.out⟩
    have hD : decide (i < m1.a.length ∨ j < m1.b.length) = true := decide_eq_true hlf
    rw [hD] at y1
    by_cases hf : (k : Int) < fuel
    case neg =>
      have t1 : decide ((k : Int) < fuel) = false := decide_eq_false hf
      have HE := Lib.hid (show workM m1.f fuel n (curM m1 i j k o) = { curM m1 i j k o with E := 0 } from work_full hf n)
      clear hD hlf hf c0 c1 c2 c3 c4 c5 c6
      go_wp2_with fail
      refine y1.out.mono ?_
      rintro _ wl ⟨rfl, q, hq⟩
      have h9 : WSt w1.heap.size P m1 i j k (.slice oA o.length oc) o wl := hq ▸ HC.out.1.past (below_draws (Below.refl _ _) q)
      have b9 : Below w1.heap.size V2 wl := hq ▸ below_draws HC.out.2 q
      have HQ := Lib.hid (And.intro h9 b9)
      have hC := fun p : Past wl => own7 ((h9.past p.h).own)
      obtain ⟨c0, c1, c2, c3, c4, c5, c6⟩ := own7 h9.own
      clear hq h9 b9 y1
      have hwt := hC ⟨wl, Below.refl _ _⟩
      obtain ⟨c0, c1, c2, c3, c4, c5, c6⟩ := hwt
      dsimp only at c0 c1 c2 c3 c4 c5 c6
      have HS := Lib.hid (fun W (h : Hp P wl W) => (⟨h.cell c0, h.cell c1, h.cell c2, h.cell c3, h.cell c4, h.cell c5, h.cell c6⟩ : W.cell? ⟨P, 0, none⟩ = some (.slice m1.aA m1.a.length m1.ac) ∧ W.cell? ⟨P, 1, none⟩ = some (.slice m1.bA m1.b.length m1.bc) ∧ W.cell? ⟨P, 2, none⟩ = some (.int .i64 (i : Int)) ∧ W.cell? ⟨P, 3, none⟩ = some (.int .i64 (j : Int)) ∧ W.cell? ⟨P, 4, none⟩ = some (.slice m1.sA m1.f.length m1.sc) ∧ W.cell? ⟨P, 5, none⟩ = some (.slice oA o.length oc) ∧ W.cell? ⟨P, 6, none⟩ = some (.int .i64 (k : Int))))
      have hself := Hp.refl P wl
      have hRP : w.heap.size + 1 ≠ P := by have h1 := H2.out.1.2; have h2 := HST.out.base_; omega
      have hwz := (H2.out.2.2.1.past HQ.out.2 (by have := H2.out.1.2; omega))
      obtain ⟨f0, f1, f2, f3, f4, f5⟩ := own_frozen6 hwz
      obtain ⟨z0, z1, z2, z3, z4, z5⟩ := own6 hwz
      clear hwz
      go_upto_region 9 with fail
      have HDR := Lib.hid (Below.drew (Below.refl wl.heap.size wl))
      go_region_held3 (fun w' => Hp P wl w' ∧ (w'.cell? ⟨P, 0, none⟩ = some (.slice m1.aA m1.a.length m1.ac) ∧ w'.cell? ⟨P, 1, none⟩ = some (.slice m1.bA m1.b.length m1.bc) ∧ w'.cell? ⟨P, 2, none⟩ = some (.int .i64 (i : Int)) ∧ w'.cell? ⟨P, 3, none⟩ = some (.int .i64 (j : Int)) ∧ w'.cell? ⟨P, 4, none⟩ = some (.slice m1.sA m1.f.length m1.sc) ∧ w'.cell? ⟨P, 5, none⟩ = some (.slice oA o.length oc) ∧ w'.cell? ⟨P, 6, none⟩ = some (.int .i64 (k : Int))))
        ((refine (fun h => And.intro h (HS.out _ h)) ?_; repeat (first | with_reducible exact hself | with_reducible refine Hp.set ?_ hRP _ _ | with_reducible refine Hp.drew ?_)))
        (fail)
      clear c0 c1 c2 c3 c4 c5 c6 f0 f1 f2 f3 f4 f5 z0 z1 z2 z3 z4 z5 hself
      have hz := (H2.out.2.2.1.past HQ.out.2 (by have := H2.out.1.2; omega))
      have hst := HQ.out.1
      have hbb := HQ.out.2
      obtain ⟨X, hX', hXo, hXb, hXs, hXh⟩ := own_six hz (.slice m1.aA m1.a.length m1.ac) (.slice m1.bA m1.b.length m1.bc) (.int .i64 (i : Int)) (.int .i64 (j : Int)) (.slice m1.sA m1.f.length m1.sc) (.slice oA o.length oc)
      obtain ⟨r1, r2⟩ := out_fine (R := w.heap.size + 1) hst H2.out.2.2.2.2.2.1 H2.out.1.2 hXs hXh
      have HX := Lib.hid (And.intro (Below.drew (hXb w.heap.size w (H2.out.2.1.trans (hbb.mono H2.out.1.1)) (by omega))) (And.intro (own_drew' hXo) (And.intro (show MgIn X.drew X.drew.heap.size (outM m1 i j oA oc o) from r1.keep (Below.drew (Below.refl _ _))) (r2.mono H2.out.1.1))))
      have HR := Lib.hid hX'
      clear hst hbb hz hXo hXb hXs hXh hX' hC r1 r2 HS HDR
      go_wp2_with fail
      rw [← HR.out]
      obtain ⟨x0, x1, x2, x3, x4, x5⟩ := own6 HX.out.2.1
      exact bodyPost_ret (v := .tuple #[.agg #[.slice m1.aA m1.a.length m1.ac, .slice m1.bA m1.b.length m1.bc, .int .i64 (i : Int), .int .i64 (j : Int), .slice m1.sA m1.f.length m1.sc, .slice oA o.length oc], .int .i64 (k : Int), .int .i64 0]) (by simp [results, Tryz.results53, go_sem, x0, x1, x2, x3, x4, x5]) rfl ⟨outM m1 i j oA oc o, k, 0, rfl, .inr ⟨HM.out, ⟨H2.out.2.2.2.2.1.a, H2.out.2.2.2.2.1.b, H2.out.2.2.2.2.1.f, work_fin H2.out.2.2.2.2.1 HN.out.2.2.2.2.1 HN.out.1 HN.out.2.1 H2.out.2.2.2.2.2.2.2.1 HE.out⟩⟩, HX.out.2.2.1, ⟨H2.out.2.2.2.1.a, H2.out.2.2.2.1.b, H2.out.2.2.2.1.f, ⟨by have := HN.out.2.2.2.1; show o.length ≤ _; omega, HQ.out.1.ok⟩, ⟨by show -9223372036854775808 ≤ (i : Int); omega, by show (i : Int) ≤ 9223372036854775807; omega⟩, ⟨by show -9223372036854775808 ≤ (j : Int); omega, by show (j : Int) ≤ 9223372036854775807; omega⟩⟩, HX.out.2.2.2, HX.out.1, HCP.out⟩
    have t1 : decide ((k : Int) < fuel) = true := decide_eq_true hf
    have hA9 := H2.out.2.2.2.2.2.2.1
    have HT := Lib.hid (And.intro hf hlf)
    clear hD hf c0 c1 c2 c3 c4 c5 c6
    go_wp2_with fail
    refine y1.out.mono ?_
    rintro _ wl ⟨rfl, q, hq⟩
    have h9 : WSt w1.heap.size P m1 i j k (.slice oA o.length oc) o wl := hq ▸ HC.out.1.past (below_draws (Below.refl _ _) q)
    have b9 : Below w1.heap.size V2 wl := hq ▸ below_draws HC.out.2 q
    have y3 := Lib.hid (step_anyB w1.heap.size P m1 i j k (.slice oA o.length oc) o wl h9 hA9.na hA9.nb H2.out.2.2.2.1.a H2.out.2.2.2.1.b H2.out.2.2.2.1.f hA9.ac hA9.bc HN.out.1 HN.out.2.1 HT.out.2 (by omega) HN.out.2.2.2.1)
    obtain ⟨c0, c1, c2, c3, c4, c5, c6⟩ := own7 h9.own
    have HZ := Lib.hid b9
    clear hq h9 b9 y1 hA9 hlf
    go_wp2_with fail
    refine y3.out.mono ?_
    rintro _ w5 ⟨u, E, hnx, hE, rfl, b5, hor⟩
    clear c0 c1 c2 c3 c4 c5 c6 y3
    by_cases h0 : E = 0
    case neg =>
      have t2 : (E != 0) = true := bne_iff_ne.2 h0
      have h5 : WSt w1.heap.size P m1 i j k (.slice oA o.length oc) o w5 := by
        rcases hor with ⟨_, h⟩ | ⟨e, _⟩
        · exact h
        · exact absurd e h0
      have hn0 : 0 < n := by have := HT.out.2; omega
      have HE := Lib.hid (show workM m1.f fuel n (curM m1 i j k o) = { curM m1 i j k o with E := E } from by
        obtain ⟨n', rfl⟩ : ∃ n', n = n' + 1 := ⟨n - 1, by omega⟩
        have hc : consE [advL m1.f (grp u (curM m1 i j k o).ra ++ grp u (curM m1 i j k o).rb)] ≠ 0 := fun h => h0 (hE.trans h)
        rw [work_err HT.out.1 hnx hc, hE]
        rfl)
      have HQ := Lib.hid (And.intro h5 (HZ.out.trans b5))
      have hC := fun p : Past w5 => own7 ((h5.past p.h).own)
      clear hor h0 hE hnx b5 h5 hn0
      have hwt := hC ⟨w5, Below.refl _ _⟩
      obtain ⟨c0, c1, c2, c3, c4, c5, c6⟩ := hwt
      dsimp only at c0 c1 c2 c3 c4 c5 c6
      have HS := Lib.hid (fun W (h : Hp P w5 W) => (⟨h.cell c0, h.cell c1, h.cell c2, h.cell c3, h.cell c4, h.cell c5, h.cell c6⟩ : W.cell? ⟨P, 0, none⟩ = some (.slice m1.aA m1.a.length m1.ac) ∧ W.cell? ⟨P, 1, none⟩ = some (.slice m1.bA m1.b.length m1.bc) ∧ W.cell? ⟨P, 2, none⟩ = some (.int .i64 (i : Int)) ∧ W.cell? ⟨P, 3, none⟩ = some (.int .i64 (j : Int)) ∧ W.cell? ⟨P, 4, none⟩ = some (.slice m1.sA m1.f.length m1.sc) ∧ W.cell? ⟨P, 5, none⟩ = some (.slice oA o.length oc) ∧ W.cell? ⟨P, 6, none⟩ = some (.int .i64 (k : Int))))
      have hself := Hp.refl P w5
      have hRP : w.heap.size + 1 ≠ P := by have h1 := H2.out.1.2; have h2 := HST.out.base_; omega
      have hwz := (H2.out.2.2.1.past HQ.out.2 (by have := H2.out.1.2; omega))
      obtain ⟨f0, f1, f2, f3, f4, f5⟩ := own_frozen6 hwz
      obtain ⟨z0, z1, z2, z3, z4, z5⟩ := own6 hwz
      clear hwz
      go_upto_region 8 with fail
      have HDR := Lib.hid (Below.drew (Below.refl w5.heap.size w5))
      go_region_held3 (fun w' => Hp P w5 w' ∧ (w'.cell? ⟨P, 0, none⟩ = some (.slice m1.aA m1.a.length m1.ac) ∧ w'.cell? ⟨P, 1, none⟩ = some (.slice m1.bA m1.b.length m1.bc) ∧ w'.cell? ⟨P, 2, none⟩ = some (.int .i64 (i : Int)) ∧ w'.cell? ⟨P, 3, none⟩ = some (.int .i64 (j : Int)) ∧ w'.cell? ⟨P, 4, none⟩ = some (.slice m1.sA m1.f.length m1.sc) ∧ w'.cell? ⟨P, 5, none⟩ = some (.slice oA o.length oc) ∧ w'.cell? ⟨P, 6, none⟩ = some (.int .i64 (k : Int))))
        ((refine (fun h => And.intro h (HS.out _ h)) ?_; repeat (first | with_reducible exact hself | with_reducible refine Hp.set ?_ hRP _ _ | with_reducible refine Hp.drew ?_)))
        (fail)
      clear c0 c1 c2 c3 c4 c5 c6 f0 f1 f2 f3 f4 f5 z0 z1 z2 z3 z4 z5 hself
      have hz := (H2.out.2.2.1.past HQ.out.2 (by have := H2.out.1.2; omega))
      have hst := HQ.out.1
      have hbb := HQ.out.2
      obtain ⟨X, hX', hXo, hXb, hXs, hXh⟩ := own_six hz (.slice m1.aA m1.a.length m1.ac) (.slice m1.bA m1.b.length m1.bc) (.int .i64 (i : Int)) (.int .i64 (j : Int)) (.slice m1.sA m1.f.length m1.sc) (.slice oA o.length oc)
      obtain ⟨r1, r2⟩ := out_fine (R := w.heap.size + 1) hst H2.out.2.2.2.2.2.1 H2.out.1.2 hXs hXh
      have HX := Lib.hid (And.intro (Below.drew (hXb w.heap.size w (H2.out.2.1.trans (hbb.mono H2.out.1.1)) (by omega))) (And.intro (own_drew' hXo) (And.intro (show MgIn X.drew X.drew.heap.size (outM m1 i j oA oc o) from r1.keep (Below.drew (Below.refl _ _))) (r2.mono H2.out.1.1))))
      have HR := Lib.hid hX'
      clear hst hbb hz hXo hXb hXs hXh hX' hC r1 r2 HS HDR
      go_wp2_with fail
      rw [← HR.out]
      obtain ⟨x0, x1, x2, x3, x4, x5⟩ := own6 HX.out.2.1
      exact bodyPost_ret (v := .tuple #[.agg #[.slice m1.aA m1.a.length m1.ac, .slice m1.bA m1.b.length m1.bc, .int .i64 (i : Int), .int .i64 (j : Int), .slice m1.sA m1.f.length m1.sc, .slice oA o.length oc], .int .i64 (k : Int), .int .i64 E]) (by simp [results, Tryz.results53, go_sem, x0, x1, x2, x3, x4, x5]) rfl ⟨outM m1 i j oA oc o, k, E, rfl, .inr ⟨HM.out, ⟨H2.out.2.2.2.2.1.a, H2.out.2.2.2.2.1.b, H2.out.2.2.2.2.1.f, work_fin H2.out.2.2.2.2.1 HN.out.2.2.2.2.1 HN.out.1 HN.out.2.1 H2.out.2.2.2.2.2.2.2.1 HE.out⟩⟩, HX.out.2.2.1, ⟨H2.out.2.2.2.1.a, H2.out.2.2.2.1.b, H2.out.2.2.2.1.f, ⟨by have := HN.out.2.2.2.1; show o.length ≤ _; omega, HQ.out.1.ok⟩, ⟨by show -9223372036854775808 ≤ (i : Int); omega, by show (i : Int) ≤ 9223372036854775807; omega⟩, ⟨by show -9223372036854775808 ≤ (j : Int); omega, by show (j : Int) ≤ 9223372036854775807; omega⟩⟩, HX.out.2.2.2, HX.out.1, HCP.out⟩
    subst h0
    obtain ⟨v', e, he, h5⟩ : ∃ (v' : Value) (e : List Up), e.map Up.p = consL [advL m1.f (grp u (m1.a.drop i) ++ grp u (m1.b.drop j))] ∧ WSt w1.heap.size P m1 (i + (grp u (m1.a.drop i)).length) (j + (grp u (m1.b.drop j)).length) (k + ((grp u (m1.a.drop i)).length + (grp u (m1.b.drop j)).length)) v' (o ++ e) w5 := by
      rcases hor with ⟨h, _⟩ | ⟨_, h⟩
      · exact absurd rfl h
      · exact h
    have hpos := grp_pos hnx
    have hg1 := grp_lens u m1.a i
    have hg2 := grp_lens u m1.b j
    have hel : e.length ≤ (grp u (m1.a.drop i)).length + (grp u (m1.b.drop j)).length := by
      have := consL_len [advL m1.f (grp u (m1.a.drop i) ++ grp u (m1.b.drop j))]
      rw [← he, List.length_map] at this
      simp only [List.flatten_cons, List.flatten_nil, List.append_nil, advL_len, List.length_append] at this
      exact this
    have hwk : workM m1.f fuel n (curM m1 i j k o) = workM m1.f fuel (n - 1) (curM m1 (i + (grp u (m1.a.drop i)).length) (j + (grp u (m1.b.drop j)).length) (k + ((grp u (m1.a.drop i)).length + (grp u (m1.b.drop j)).length)) (o ++ e)) := by
      obtain ⟨n', rfl⟩ : ∃ n', n = n' + 1 := ⟨n - 1, by have := HT.out.2; omega⟩
      rw [work_more HT.out.1 hnx hE.symm, cur_step m1 i j k o e u he]
      rfl
    have H5 := Lib.hid (And.intro h5 (And.intro (HZ.out.trans b5) (And.intro hpos (And.intro hg1 (And.intro hg2 (And.intro hel hwk))))))
    obtain ⟨c0, c1, c2, c3, c4, c5, c6⟩ := own7 h5.own
    have HM2 := Lib.hid (And.intro c2 c3)
    have HM0 := Lib.hid (own7 HC.out.1.own)
    clear hor hE hnx b5 h5 he hpos hg1 hg2 hel hwk c0 c1 c2 c3 c4 c5 c6
    go_wp2_with fail
    go_roundw
    case rel =>
      have q1 := H5.out.2.2.1
      have q2 := H5.out.2.2.2.1
      have q3 := H5.out.2.2.2.2.1
      have q4 := H5.out.2.2.2.2.2.1
      exact ⟨_, _, _, v', o ++ e, n - 1, H5.out.1, H5.out.2.1, by omega, by omega, by omega, by rw [List.length_append]; omega, HN.out.2.2.2.2.1.trans H5.out.2.2.2.2.2.2, by omega⟩
    case measure =>
      have q1 := H5.out.2.2.1
      have q2 := H5.out.2.2.2.1
      have q3 := H5.out.2.2.2.2.1
      rw [HM2.out.1, HM2.out.2, HM0.out.2.2.1, HM0.out.2.2.2.1]
      simp only [Option.getD_some, intOf]
      omega
end Go.Proofs.YtenjlhlighkenaaGreat
namespace Go.Proofs.YtenjlhlighkenaaGreat
open Go Go.RowKit

theorem Wk.off {X Y : World} {base g : Nat} {s : Sp} {S : Nat → Prop} (h : Wk X base g s) (k : KeptK X Y S) (hg : ¬ S g) (hA : ∀ q, blkS s.lA = some q → ¬ S q) (hf : OfT S s.sA s.f.length) (hl : ∀ l ∈ s.L, OfL S l) : Wk Y base g s :=
  ⟨k.own h.own hg, k.row h.row (fun q e => hA q (by rw [← e, blkS_own])), h.out, times_kept h.since hf k, h.soff, fun l hm => lv_kept (h.lev l hm) (hl l hm) k, h.loff, h.ok, h.slo, h.lo, h.low, Nat.le_trans h.base_ k.size⟩
theorem Wk.merger {W : World} {base g G i : Nat} {s : Sp} {l : Lv} {m : Mg} (h : Wk W base g s) (hm : MgIn W W.heap.size m) (om : OfM (SpS g s.lA) m) (okm : MgOk m) (cap : McOk m) (lom : MgLo base m) (hi : s.L[i]? = some l) (hA : s.lA = some ⟨G, 0, none⟩) :
    Wk (setsAt W G (i * 10 + 4) m.cells) base g ⟨s.sA, s.sc, s.f, s.lA, s.lc, s.L.set i ⟨l.cls, l.busy, l.b, m⟩⟩ ∧ KeptK W (setsAt W G (i * 10 + 4) m.cells) (SpS g s.lA) := by
  have hlt := (List.getElem?_eq_some_iff.1 hi).1
  have hml := List.mem_of_getElem? hi
  have hblk : blkS s.lA = some G := by rw [hA]; rfl
  have hk : KeptK W (setsAt W G (i * 10 + 4) m.cells) (SpS g s.lA) := setsAt_kept (.inl (.inr hblk)) _ _ _ (KeptK.refl _ _)
  have hk1 : KeptK W (setsAt W G (i * 10 + 4) m.cells) (fun k => k = G) := setsAt_kept (S := fun k => k = G) (.inl rfl) _ _ _ (KeptK.refl _ _)
  have hlen : (s.L.set i ⟨l.cls, l.busy, l.b, m⟩).length = s.L.length := List.length_set ..
  have o0 := h.ok.each_ l hml
  have okS : SpOk ⟨s.sA, s.sc, s.f, s.lA, s.lc, s.L.set i ⟨l.cls, l.busy, l.b, m⟩⟩ := ⟨h.ok.f, by show (s.L.set i _).length ≤ _; rw [hlen]; exact h.ok.n, by show (s.L.set i _).length ≤ _; rw [hlen]; exact h.ok.le, h.ok.c_, fun x hx => by
    rcases List.mem_or_eq_of_mem_set hx with hx | rfl
    · exact h.ok.each_ x hx
    · exact ⟨o0.c, o0.b, okm, cap⟩⟩
  refine ⟨h.of_row hk rfl rfl rfl ?_ ?_ h.out (.inl rfl) (fun x hx => ?_) okS, hk⟩
  · show Own _ g _ [.slice s.sA s.f.length s.sc, .slice s.lA (s.L.set i _).length s.lc]
    rw [hlen]
    exact hk1.own h.own (fun e => h.out (by rw [hblk, e]))
  · show World.ownsRow _ base _ 10 (.slice s.lA (s.L.set i _).length s.lc) (s.L.set i _).length _
    rw [hlen]
    rcases row_ownK h.row with ⟨h0, _⟩ | ⟨G', cur, e, hb, hg, hn, hm2, hc, ht⟩
    · rw [hA] at h0; cases h0
    · rw [hA] at e
      obtain rfl : G = G' := by simpa using e
      have hle : i * 10 + 10 ≤ s.lc * 10 := by omega
      have hc6 : m.cells.length = 6 := rfl
      have o2 := setsAt_own m.cells W (i * 10 + 4) cur hg (by rw [hc6, hc]; omega)
      -- the level as a whole
      have hfour : (cur.drop (i * 10)).take 4 = (⟨l.cls, l.busy, l.b, m⟩ : Lv).cells.take 4 := by
        have h1 : (cur.take (s.L.length * 10)).drop (i * 10) = l.cells ++ (s.L.drop (i + 1)).flatMap Lv.cells := by
          rw [ht, level_rowsD, List.drop_eq_getElem_cons hlt, List.flatMap_cons, (List.getElem?_eq_some_iff.1 hi).2]
        have h2 := congrArg (List.take 4) h1
        rw [List.drop_take, List.take_take, Nat.min_eq_left (by omega), List.take_append_of_le_length (by show 4 ≤ 10; omega)] at h2
        rw [h2]
        rfl
      have hwhole : cur.take (i * 10 + 4) ++ m.cells ++ cur.drop (i * 10 + 4 + m.cells.length) = cur.take (i * 10) ++ (⟨l.cls, l.busy, l.b, m⟩ : Lv).cells ++ cur.drop (i * 10 + 10) := by
        have h3 : (⟨l.cls, l.busy, l.b, m⟩ : Lv).cells = (⟨l.cls, l.busy, l.b, m⟩ : Lv).cells.take 4 ++ m.cells := rfl
        rw [h3, ← hfour, List.take_add, hc6]
        simp only [List.append_assoc]
      rw [hwhole] at o2
      have hnew : (cur.take (i * 10) ++ (⟨l.cls, l.busy, l.b, m⟩ : Lv).cells ++ cur.drop (i * 10 + 10)).take (s.L.length * 10) = (s.L.set i ⟨l.cls, l.busy, l.b, m⟩).flatMap Lv.cells := by
        have e1 : s.L.set i ⟨l.cls, l.busy, l.b, m⟩ = s.L.take i ++ ⟨l.cls, l.busy, l.b, m⟩ :: s.L.drop (i + 1) := (List.set_eq_take_append_cons_drop ..).trans (if_pos hlt)
        rw [splice_level rfl hlt (by omega), ht, level_rows, level_rowsD, e1, List.flatMap_append, List.flatMap_cons, List.append_assoc]
      rw [hA, ← hnew]
      exact own_to_row o2 hb hn hm2 (by rw [List.length_append, List.length_append, List.length_take, List.length_drop, hc]; show _ + 10 + _ = _; omega)
  · rcases List.mem_or_eq_of_mem_set hx with hx | rfl
    · exact .inl hx
    · exact .inr ⟨⟨(h.lev l hml).b, hm⟩, ⟨(h.loff l hml).b, om⟩, ⟨(h.lo l hml).b, lom⟩⟩
def Aw (W : World) (M : Nat) (dA : Option Addr) (k : Nat) : Prop := (W.heap.size ≤ k ∧ k < M) ∨ blkS dA = some k
structure WkB (W : World) (base g : Nat) (s : Sp) (fuel : Int) (M : Nat) (s1 : Sp) (D : List Bt) (cv : Int) (dA : Option Addr) (dc : Nat) (X : World) : Prop where
  wk : Wk X base g s1
  e1 : s1.sA = s.sA
  e2 : s1.sc = s.sc
  e3 : s1.f = s.f
  e4 : s1.lA = s.lA
  e5 : s1.lc = s.lc
  awf : OfT (Aw W M dA) s1.sA s1.f.length
  aw : ∀ l ∈ s1.L, OfL (Aw W M dA) l
  w0 : Own X W.heap.size 111 [.pointer (some ⟨g, 0, none⟩)]
  w1 : Own X (W.heap.size + 1) 3 [.int .i64 fuel]
  w2 : Own X (W.heap.size + 2) 3 [.int .i64 0]
  w3 : Own X (W.heap.size + 3) 35 [.int .i64 0]
  w4 : Own X (W.heap.size + 4) 3 [.int .i64 cv]
  w5 : Own X (W.heap.size + 5) 121 [.slice dA D.length dc]
  w6 : Own X (W.heap.size + 6) 111 [.pointer (some ⟨g, 0, none⟩)]
  row : X.ownsRow M 61 2 (.slice dA D.length dc) D.length (D.flatMap Bt.cells)
  each : ∀ d ∈ D, BtIn X X.heap.size d ∧ BtOk d ∧ BtLo base d ∧ OfB (fun k => SpS g s.lA k ∨ Aw W M dA k) d
  kept : KeptK W X (SpS g s.lA)
  lo : W.heap.size + 7 ≤ M
  low : ∀ k, SpS g s.lA k → k < W.heap.size
  hi : M ≤ X.heap.size
section
variable {W X Y : World} {base g M : Nat} {s s1 : Sp} {fuel cv : Int} {D : List Bt} {dA : Option Addr} {dc : Nat}
theorem WkB.turn {row : Option Nat} (h : WkB W base g s fuel M s1 D cv dA dc X) (hg : X.grownBy Y row) (hr : Bare X row) (hb : ∀ r, row = some r → W.heap.size ≤ r) : WkB W base g s fuel M s1 D cv dA dc Y :=
  ⟨h.wk.turn hg hr, h.e1, h.e2, h.e3, h.e4, h.e5, h.awf, h.aw, h.w0.turn hg hr, h.w1.turn hg hr, h.w2.turn hg hr, h.w3.turn hg hr, h.w4.turn hg hr, h.w5.turn hg hr, h.w6.turn hg hr, row_turn h.row hg hr, fun d hd => ⟨(h.each d hd).1.turn hg hr, (h.each d hd).2⟩, h.kept.turn hg hb (Nat.le_refl _), h.lo, h.low, Nat.le_trans h.hi hg.size⟩
theorem WkB.past (h : WkB W base g s fuel M s1 D cv dA dc X) (hb : Below X.heap.size X Y) : WkB W base g s fuel M s1 D cv dA dc Y :=
  ⟨h.wk.past hb, h.e1, h.e2, h.e3, h.e4, h.e5, h.awf, h.aw, h.w0.past hb h.w0.inside, h.w1.past hb h.w1.inside, h.w2.past hb h.w2.inside, h.w3.past hb h.w3.inside, h.w4.past hb h.w4.inside, h.w5.past hb h.w5.inside, h.w6.past hb h.w6.inside, own_below h.row hb, fun d hd => ⟨(h.each d hd).1.keep hb, (h.each d hd).2⟩, h.kept.trans (KeptK.of_below hb (Nat.le_refl _) (SpS g s.lA)) (fun _ _ e => e), h.lo, h.low, Nat.le_trans h.hi hb.size⟩
theorem WkB.rowM (h : WkB W base g s fuel M s1 D cv dA dc X) : ∀ k, blkS dA = some k → M ≤ k ∧ k < X.heap.size := fun k e => h.row.lt k (by rw [blkS_own]; exact e)
theorem WkB.sps (h : WkB W base g s fuel M s1 D cv dA dc X) {k : Nat} (hk : W.heap.size ≤ k) : ¬ SpS g s.lA k := fun e => by have := h.low k e; omega
theorem WkB.off (h : WkB W base g s fuel M s1 D cv dA dc X) {S : Nat → Prop} (k : KeptK X Y S) (hS : ∀ b, S b → W.heap.size ≤ b ∧ b < M) : Wk Y base g s1 ∧ Y.ownsRow M 61 2 (.slice dA D.length dc) D.length (D.flatMap Bt.cells) ∧ (∀ d ∈ D, BtIn Y Y.heap.size d ∧ BtOk d ∧ BtLo base d ∧ OfB (fun k => SpS g s.lA k ∨ Aw W M dA k) d) ∧ KeptK W Y (SpS g s.lA) := by
  refine ⟨h.wk.off k (fun e => by have := hS _ e; have := h.low g (.inl rfl); omega) (fun q e e2 => by have := hS _ e2; have := h.low q (.inr (by rw [← h.e4]; exact e)); omega) (h.awf.less (fun b e => .inl (hS b e))) (fun l hl => (h.aw l hl).less (fun b e => .inl (hS b e))), k.row h.row (fun q e e2 => by rw [blkS_own] at e; have := hS _ e2; have := h.rowM q e; omega), fun d hd => ⟨bt_kept (h.each d hd).1 ((h.each d hd).2.2.2.less (fun b e => .inr (.inl (hS b e)))) k, (h.each d hd).2⟩, h.kept.trans k (fun b hb e => by have := hS b e; omega)⟩
theorem WkB.cost (h : WkB W base g s fuel M s1 D cv dA dc X) (c' : Int) : WkB W base g s fuel M s1 D c' dA dc (X.setCell ⟨W.heap.size + 4, 0, none⟩ (.int .i64 c')) := by
  have k1 : KeptK X (X.setCell ⟨W.heap.size + 4, 0, none⟩ (.int .i64 c')) (fun b => b = W.heap.size + 4) := (KeptK.refl X (fun b => b = W.heap.size + 4)).set_ (.inl rfl) _
  have hlo := h.lo
  obtain ⟨a1, a2, a3, a4⟩ := h.off k1 (fun b e => by omega)
  exact ⟨a1, h.e1, h.e2, h.e3, h.e4, h.e5, h.awf, h.aw, h.w0.other (by show _ ≠ _; simp) _, h.w1.other (by show _ ≠ _; simp) _, h.w2.other (by show _ ≠ _; simp) _, h.w3.other (by show _ ≠ _; simp) _, h.w4.set_ 0 _, h.w5.other (by show _ ≠ _; simp) _, h.w6.other (by show _ ≠ _; simp) _, a2, a3, a4, h.lo, h.low, by simpa using h.hi⟩
theorem WkB.spine (h : WkB W base g s fuel M s1 D cv dA dc X) {s2 : Sp} (k : KeptK X Y (SpS g s.lA)) (hwk : Wk Y base g s2) (e1 : s2.sA = s.sA) (e2 : s2.sc = s.sc) (e3 : s2.f = s.f) (e4 : s2.lA = s.lA) (e5 : s2.lc = s.lc) (aw : ∀ l ∈ s2.L, l ∈ s1.L ∨ OfL (Aw W M dA) l) : WkB W base g s fuel M s2 D cv dA dc Y := by
  have kk := fun j => h.sps (k := W.heap.size + j) (Nat.le_add_right _ _)
  refine ⟨hwk, e1, e2, e3, e4, e5, by rw [e1, e3, ← h.e1, ← h.e3]; exact h.awf, fun l hl => (aw l hl).elim (h.aw l) id, k.own h.w0 (kk 0), k.own h.w1 (kk 1), k.own h.w2 (kk 2), k.own h.w3 (kk 3), k.own h.w4 (kk 4), k.own h.w5 (kk 5), k.own h.w6 (kk 6), k.row h.row (fun q e e9 => ?_), fun d hd => ⟨bt_kept (h.each d hd).1 ((h.each d hd).2.2.2.less (fun b e => .inl e)) k, (h.each d hd).2⟩, h.kept.trans k (fun _ _ e => e), h.lo, h.low, Nat.le_trans h.hi k.size⟩
  rw [blkS_own] at e
  have h1 := h.rowM q e
  have h2 := h.low q e9
  have h3 := h.lo
  omega
theorem WkB.pushed (h : WkB W base g s fuel M s1 D cv dA dc X) {Z : World} {b : Bt} {dA' : Option Addr} {dc' : Nat} (hb : Below X.heap.size X Y) (ib : BtIn X X.heap.size b) (ob : BtOk b) (lb : BtLo base b) (fb : OfB (fun k => SpS g s.lA k ∨ Aw W M dA k) b)
    (hr : Z.ownsRow M 61 2 (.slice dA' (D.length + 1) dc') (D.length + 1) (D.flatMap Bt.cells ++ [b].flatMap Bt.cells)) (hob : blkS dA' = blkS dA ∨ blkS dA' = some Y.heap.size) (hg : Y.grownBy Z (blkS dA)) :
    WkB W base g s fuel M s1 (D ++ [b]) cv dA' dc' (Z.setCell ⟨W.heap.size + 5, 0, none⟩ (.slice dA' (D.length + 1) dc')) := by
  have hY := h.past hb
  have k1 : KeptK Y Z (fun q => blkS dA = some q) := KeptK.of_grown hg (fun _ e => e)
  have k2 : KeptK Y (Z.setCell ⟨W.heap.size + 5, 0, none⟩ (.slice dA' (D.length + 1) dc')) (fun q => blkS dA = some q ∨ q = W.heap.size + 5) := (k1.more (fun _ e => .inl e)).set_ (.inl (.inr rfl)) _
  have hlo := h.lo
  have hM := hY.rowM
  have ne : ∀ j, j < 7 → ¬ blkS dA = some (W.heap.size + j) := fun j hj e => by have := hM _ e; omega
  have nS : ∀ q, SpS g s.lA q → ¬ (blkS dA = some q ∨ q = W.heap.size + 5) := fun q hq e => by
    have h1 := h.low q hq
    rcases e with e | e
    · have := hM _ e; omega
    · omega
  -- nothing of the spine or of what is done lies in the row
  have hnew : ∀ q, Aw W M dA' q → Aw W M dA q ∨ Y.heap.size ≤ q := fun q e => by
    rcases e with e | e
    · exact .inl (.inl e)
    · rcases hob with e2 | e2
      · exact .inl (.inr (by rw [← e2]; exact e))
      · rw [e2] at e; injection e with e; exact .inr (by omega)
  have inS : ∀ q, (blkS dA = some q ∨ q = W.heap.size + 5) → Aw W M dA q := fun q e => by
    rcases e with e | e
    · exact .inr e
    · exact .inl (by omega)
  have fixL : ∀ l ∈ s1.L, OfL (Aw W M dA') l := fun l hl => ((h.aw l hl).or (lv_in (hY.wk.lev l hl))).less hnew
  have fixB : ∀ {d : Bt}, BtIn Y Y.heap.size d → OfB (fun k => SpS g s.lA k ∨ Aw W M dA k) d → OfB (fun k => SpS g s.lA k ∨ Aw W M dA' k) d := fun hi hd => (hd.or (bt_in hi)).less fun q e => by
    rcases e with e | e
    · exact .inl (.inl e)
    · rcases hnew q e with e | e
      · exact .inl (.inr e)
      · exact .inr e
  have ibY := ib.keep hb
  have hwk := hY.wk.off k2 (fun e => nS g (.inl rfl) e) (fun q e => nS q (.inr (by rw [← h.e4]; exact e))) (h.awf.less inS) (fun l hl => (h.aw l hl).less inS)
  have hfl : (D ++ [b]).flatMap Bt.cells = D.flatMap Bt.cells ++ [b].flatMap Bt.cells := List.flatMap_append ..
  have hlen : (D ++ [b]).length = D.length + 1 := by rw [List.length_append]; rfl
  have hr2 : (Z.setCell ⟨W.heap.size + 5, 0, none⟩ (.slice dA' (D.length + 1) dc')).ownsRow M 61 2 (.slice dA' (D.length + 1) dc') (D.length + 1) (D.flatMap Bt.cells ++ [b].flatMap Bt.cells) :=
    ((KeptK.refl Z (fun q => q = W.heap.size + 5)).set_ (.inl rfl) _).row hr (fun q e e2 => by have := (hr.lt q e).1; omega)
  have nw : ∀ j, j < 5 → ¬ (blkS dA = some (W.heap.size + j) ∨ W.heap.size + j = W.heap.size + 5) := fun j hj e => by
    rcases e with e | e
    · exact ne j (by omega) e
    · omega
  have w5 : Own (Z.setCell ⟨W.heap.size + 5, 0, none⟩ (.slice dA' (D.length + 1) dc')) (W.heap.size + 5) 121 [.slice dA' (D.length + 1) dc'] := (k1.own hY.w5 (ne 5 (by decide))).set_ 0 _
  refine ⟨hwk, h.e1, h.e2, h.e3, h.e4, h.e5, (h.awf.or (times_in hY.wk.since)).less hnew, fixL, k2.own hY.w0 (nw 0 (by decide)), k2.own hY.w1 (nw 1 (by decide)), k2.own hY.w2 (nw 2 (by decide)), k2.own hY.w3 (nw 3 (by decide)), k2.own hY.w4 (nw 4 (by decide)), by rw [hlen]; exact w5, k2.own hY.w6 (fun e => by
    rcases e with e | e
    · exact ne 6 (by decide) e
    · omega), by rw [hlen, hfl]; exact hr2, fun d hd => ?_, hY.kept.trans k2 (fun q hq e => by
    rcases e with e | e
    · have := hM q e; omega
    · omega), h.lo, h.low, Nat.le_trans hY.hi k2.size⟩
  rcases List.mem_append.1 hd with hd | hd
  · exact ⟨bt_kept (hY.each d hd).1 ((h.each d hd).2.2.2.less (fun q e => .inr (inS q e))) k2, (h.each d hd).2.1, (h.each d hd).2.2.1, fixB (hY.each d hd).1 (h.each d hd).2.2.2⟩
  · obtain rfl := List.mem_singleton.1 hd
    exact ⟨bt_kept ibY (fb.less (fun q e => .inr (inS q e))) k2, ob, lb, fixB ibY fb⟩
end
end Go.Proofs.YtenjlhlighkenaaGreat
namespace Go.Proofs.YtenjlhlighkenaaGreat
open Go Go.RowKit

theorem below_grown {W X : World} (h : W.grownBy X none) : Below W.heap.size W X := (Below.refl _ W).grown h (Nat.le_refl _) (fun _ e => by cases e)
theorem Holds.below {B M : Nat} {X Y : World} (h : Below X.heap.size X Y) (hM : M ≤ X.heap.size) : Holds B M X Y := ⟨h.size, fun k _ h2 => h.block k (by omega)⟩
theorem Holds.setc {B M : Nat} (X : World) (p : Addr) (v : Value) (h : p.block < B ∨ M ≤ p.block) : Holds B M X (X.setCell p v) := ⟨by simp, fun k h1 h2 => Below.heap_setCell X p v k (fun e => by omega)⟩
theorem Holds.kept {B M : Nat} {X Y : World} {S : Nat → Prop} (h : KeptK X Y S) (hM : M ≤ X.heap.size) (hS : ∀ k, S k → k < B ∨ M ≤ k) : Holds B M X Y := ⟨h.size, fun k h1 h2 => h.block k (by omega) (fun e => by have := hS k e; omega)⟩
theorem inBlock_two {id : Nat} {Q : Exit → Act → World → Prop} {e : Exit} {a : Act} {X : World} (h : e = .normal ∨ e = .exit id) (hq : Q .normal a X) : Exit.inBlock id Q e a X := by
  rcases h with rfl | rfl
  · exact hq
  · simp only [Exit.inBlock, if_true]
    exact hq
theorem work_world (W : World) (g : Nat) (fuel : Int) : ∃ V, V = ((((((W.alloc (.cells #[.pointer (some ⟨g, 0, none⟩)] 111)).alloc (.cells #[.int .i64 fuel] 3)).alloc (.cells #[.int .i64 0] 3)).alloc (.cells #[.int .i64 0] 35)).alloc (.cells #[.int .i64 0] 3)).alloc (.cells #[.slice none 0 0] 121)).alloc (.cells #[.pointer (some ⟨g, 0, none⟩)] 111) ∧
    W.grownBy V none ∧ V.heap.size = W.heap.size + 7 ∧ Own V W.heap.size 111 [.pointer (some ⟨g, 0, none⟩)] ∧ Own V (W.heap.size + 1) 3 [.int .i64 fuel] ∧ Own V (W.heap.size + 2) 3 [.int .i64 0] ∧ Own V (W.heap.size + 3) 35 [.int .i64 0] ∧
    Own V (W.heap.size + 4) 3 [.int .i64 0] ∧ Own V (W.heap.size + 5) 121 [.slice none 0 0] ∧ Own V (W.heap.size + 6) 111 [.pointer (some ⟨g, 0, none⟩)] := by
  obtain ⟨A, hA⟩ : ∃ A, A = W.alloc (.cells #[.pointer (some ⟨g, 0, none⟩)] 111) := ⟨_, rfl⟩
  obtain ⟨B, hB⟩ : ∃ B, B = A.alloc (.cells #[.int .i64 fuel] 3) := ⟨_, rfl⟩
  obtain ⟨C, hC⟩ : ∃ C, C = B.alloc (.cells #[.int .i64 0] 3) := ⟨_, rfl⟩
  obtain ⟨D, hD⟩ : ∃ D, D = C.alloc (.cells #[.int .i64 0] 35) := ⟨_, rfl⟩
  obtain ⟨E, hE⟩ : ∃ E, E = D.alloc (.cells #[.int .i64 0] 3) := ⟨_, rfl⟩
  obtain ⟨F, hF⟩ : ∃ F, F = E.alloc (.cells #[.slice none 0 0] 121) := ⟨_, rfl⟩
  obtain ⟨V, hV⟩ : ∃ V, V = F.alloc (.cells #[.pointer (some ⟨g, 0, none⟩)] 111) := ⟨_, rfl⟩
  have sA : A.heap.size = W.heap.size + 1 := by rw [hA]; simp
  have sB : B.heap.size = W.heap.size + 2 := by rw [hB]; simp [sA]
  have sC : C.heap.size = W.heap.size + 3 := by rw [hC]; simp [sB]
  have sD : D.heap.size = W.heap.size + 4 := by rw [hD]; simp [sC]
  have sE : E.heap.size = W.heap.size + 5 := by rw [hE]; simp [sD]
  have sF : F.heap.size = W.heap.size + 6 := by rw [hF]; simp [sE]
  have oA : Own A W.heap.size 111 [.pointer (some ⟨g, 0, none⟩)] := by rw [hA]; exact Own.made W _ _
  have oB : Own B (W.heap.size + 1) 3 [.int .i64 fuel] := by rw [hB, ← sA]; exact Own.made A _ _
  have oC : Own C (W.heap.size + 2) 3 [.int .i64 0] := by rw [hC, ← sB]; exact Own.made B _ _
  have oD : Own D (W.heap.size + 3) 35 [.int .i64 0] := by rw [hD, ← sC]; exact Own.made C _ _
  have oE : Own E (W.heap.size + 4) 3 [.int .i64 0] := by rw [hE, ← sD]; exact Own.made D _ _
  have oF : Own F (W.heap.size + 5) 121 [.slice none 0 0] := by rw [hF, ← sE]; exact Own.made E _ _
  have oV : Own V (W.heap.size + 6) 111 [.pointer (some ⟨g, 0, none⟩)] := by rw [hV, ← sF]; exact Own.made F _ _
  have mA : ∀ {X Y : World} {o : Obj} {b : Nat} {t : TypeId} {l : List Value}, Y = X.alloc o → Own X b t l → Own Y b t l := fun e h => by rw [e]; exact h.more _
  refine ⟨V, by rw [hV, hF, hE, hD, hC, hB, hA], ?_, by rw [hV]; simp [sF], mA hV (mA hF (mA hE (mA hD (mA hC (mA hB oA))))), mA hV (mA hF (mA hE (mA hD (mA hC oB)))), mA hV (mA hF (mA hE (mA hD oC))), mA hV (mA hF (mA hE oD)), mA hV (mA hF oE), mA hV oF, oV⟩
  rw [hV, hF, hE, hD, hC, hB, hA]
  exact grown_none (grown_none (grown_none (grown_none (grown_none (grown_none (World.grownBy_alloc _ _ none) (World.grownBy_alloc _ _ none)) (World.grownBy_alloc _ _ none)) (World.grownBy_alloc _ _ none)) (World.grownBy_alloc _ _ none)) (World.grownBy_alloc _ _ none)) (World.grownBy_alloc _ _ none)
theorem WkB.begin {W V X : World} {base g : Nat} {s : Sp} {fuel : Int} (h : Wk W base g s) (gV : W.grownBy V none) (sV : V.heap.size = W.heap.size + 7)
    (o0 : Own V W.heap.size 111 [.pointer (some ⟨g, 0, none⟩)]) (o1 : Own V (W.heap.size + 1) 3 [.int .i64 fuel]) (o2 : Own V (W.heap.size + 2) 3 [.int .i64 0]) (o3 : Own V (W.heap.size + 3) 35 [.int .i64 0])
    (o4 : Own V (W.heap.size + 4) 3 [.int .i64 0]) (o5 : Own V (W.heap.size + 5) 121 [.slice none 0 0]) (o6 : Own V (W.heap.size + 6) 111 [.pointer (some ⟨g, 0, none⟩)]) (gX : V.grownBy X none) :
    WkB W base g s fuel X.heap.size s [] 0 none 0 X := by
  have bV := below_grown gV
  have bX := below_grown gX
  have bWX : Below W.heap.size W X := bV.trans (bX.mono bV.size)
  have hsz := bX.size
  have hA : ∀ k, Aw W X.heap.size none k → W.heap.size ≤ k := fun k e => by
    rcases e with e | e
    · exact e.1
    · cases e
  have past : ∀ {b : Nat} {t : TypeId} {l : List Value}, Own V b t l → Own X b t l := fun o => o.past bX o.inside
  exact ⟨h.past bWX, rfl, rfl, rfl, rfl, rfl, (times_in h.since).less hA, fun l hl => (lv_in (h.lev l hl)).less hA, past o0, past o1, past o2, past o3, past o4, past o5, past o6, World.ownsRow_nil _ _ _ _, fun d hd => (by cases hd), KeptK.of_below bWX (Nat.le_refl _) _, by omega, fun k hk => (h.lt k hk).2, Nat.le_refl _⟩
def WkEr (W : World) (g : Nat) (s : Sp) (X : World) : Prop := KeptK W X (SpS g s.lA) ∧ Own X (W.heap.size + 2) 3 [.int .i64 0] ∧ Own X (W.heap.size + 3) 35 [.int .i64 10]
theorem WkEr.turn {W X Y : World} {g : Nat} {s : Sp} {row : Option Nat} (h : WkEr W g s X) (hg : X.grownBy Y row) (hr : Bare X row) (hb : ∀ r, row = some r → W.heap.size ≤ r) : WkEr W g s Y := ⟨h.1.turn hg hb (Nat.le_refl _), h.2.1.turn hg hr, h.2.2.turn hg hr⟩
theorem work_ret {W w9 : World} {b2 b3 D g : Nat} {s : Sp} {x0 y0 : Value} (k2 : b2 = W.heap.size + 2) (k3 : b3 = W.heap.size + 3) (hD : W.heap.size + 7 ≤ D) (u2 : Own w9 (W.heap.size + 2) 3 [x0]) (u3 : Own w9 (W.heap.size + 3) 35 [y0])
    (uk : KeptK W w9 (SpS g s.lA)) (hd : w9.heap[D]? = some (.deferred (some []))) (x y : Value) :
    ((w9.setCell ⟨b2, 0, none⟩ x).setCell ⟨b3, 0, none⟩ y).heap[D]? = some (.deferred (some [])) ∧ (((w9.setCell ⟨b2, 0, none⟩ x).setCell ⟨b3, 0, none⟩ y).putObj D (.deferred none)).cell? ⟨b2, 0, none⟩ = some x ∧ (((w9.setCell ⟨b2, 0, none⟩ x).setCell ⟨b3, 0, none⟩ y).putObj D (.deferred none)).cell? ⟨b3, 0, none⟩ = some y ∧
      KeptK W (((w9.setCell ⟨b2, 0, none⟩ x).setCell ⟨b3, 0, none⟩ y).putObj D (.deferred none)) (SpS g s.lA) := by
  subst k2
  subst k3
  have hd2 : ((w9.setCell ⟨W.heap.size + 2, 0, none⟩ x).setCell ⟨W.heap.size + 3, 0, none⟩ y).heap[D]? = some (.deferred (some [])) :=
    (Below.heap_setCell _ ⟨W.heap.size + 3, 0, none⟩ y D (by show D ≠ W.heap.size + 3; omega)).trans ((Below.heap_setCell _ ⟨W.heap.size + 2, 0, none⟩ x D (by show D ≠ W.heap.size + 2; omega)).trans hd)
  have a2 := (u2.set_ 0 x).other (p := ⟨W.heap.size + 3, 0, none⟩) (by show W.heap.size + 3 ≠ W.heap.size + 2; omega) y
  have a3 := (u3.other (p := ⟨W.heap.size + 2, 0, none⟩) (by show W.heap.size + 2 ≠ W.heap.size + 3; omega) x).set_ 0 y
  have hg := grownBy_putObj' ((w9.setCell ⟨W.heap.size + 2, 0, none⟩ x).setCell ⟨W.heap.size + 3, 0, none⟩ y) D (.deferred none)
  have hr : Bare ((w9.setCell ⟨W.heap.size + 2, 0, none⟩ x).setCell ⟨W.heap.size + 3, 0, none⟩ y) (some D) := fun r e => by cases e; exact ⟨_, hd2, rfl⟩
  exact ⟨hd2, (a2.turn hg hr).at_ 0, (a3.turn hg hr).at_ 0, ((uk.set_ (.inr (by omega)) x).set_ (.inr (by omega)) y).turn hg (fun r e => by cases e; omega) (Nat.le_refl _)⟩
theorem WkB.fail {W X : World} {base g M : Nat} {s s1 : Sp} {fuel cv : Int} {D : List Bt} {dA : Option Addr} {dc b2 b3 B : Nat} (h : WkB W base g s fuel M s1 D cv dA dc X) (k2 : b2 = W.heap.size + 2) (k3 : b3 = W.heap.size + 3) (hB : B = W.heap.size + 7) :
    WkEr W g s ((X.setCell ⟨b2, 0, none⟩ (.int .i64 0)).setCell ⟨b3, 0, none⟩ (.int .i64 10)) ∧ Holds B M X ((X.setCell ⟨b2, 0, none⟩ (.int .i64 0)).setCell ⟨b3, 0, none⟩ (.int .i64 10)) := by
  subst k2
  subst k3
  subst hB
  refine ⟨⟨(h.kept.set_ (.inr (by omega)) _).set_ (.inr (by omega)) _, (h.w2.set_ 0 _).other (by show W.heap.size + 3 ≠ W.heap.size + 2; omega) _, (h.w3.other (by show W.heap.size + 2 ≠ W.heap.size + 3; omega) _).set_ 0 _⟩, (Holds.setc _ _ _ (.inl (by show W.heap.size + 2 < _; omega))).trans (Holds.setc _ _ _ (.inl (by show W.heap.size + 3 < _; omega)))⟩
theorem left_iff {m : Mg} (h : MOk m) : (m.i < (m.a.length : Int) ∨ m.j < (m.b.length : Int)) ↔ 0 < leftM m := by
  have h1 := h.da.lo
  have h2 := h.da.hi
  have h3 := h.db.lo
  have h4 := h.db.hi
  unfold leftM
  omega
theorem end_of {m : Mg} (h : MOk m) (h0 : leftM m = 0) : EndOk m := by
  have h1 := h.da.lo
  have h2 := h.da.hi
  have h3 := h.db.lo
  have h4 := h.db.hi
  unfold leftM at h0
  exact ⟨h, by omega, by omega⟩
structure WkP (W V : World) (base g : Nat) (s : Sp) (M : Nat) (D : List Bt) (c : Nat) (dA : Option Addr) (dc : Nat) (L1 : List Lv) (j : Nat) (sj : Sp) (X : World) : Prop where
  wk : Wk X base g sj
  e1 : sj.sA = s.sA
  e2 : sj.sc = s.sc
  e3 : sj.f = s.f
  lA : ∀ q, blkS sj.lA = some q → blkS s.lA = some q ∨ V.heap.size ≤ q
  st : PtSt s.f s.L D j L1 sj.L
  w0 : Own X W.heap.size 111 [.pointer (some ⟨g, 0, none⟩)]
  w2 : Own X (W.heap.size + 2) 3 [.int .i64 0]
  w3 : Own X (W.heap.size + 3) 35 [.int .i64 0]
  w4 : Own X (W.heap.size + 4) 3 [.int .i64 (c : Int)]
  row : X.ownsRow M 61 2 (.slice dA D.length dc) D.length (D.flatMap Bt.cells)
  rlt : ∀ q, blkS dA = some q → q < V.heap.size
  each : ∀ d ∈ D, BtIn X X.heap.size d ∧ BtOk d ∧ BtLo base d ∧ OfB (SpS g sj.lA) d
  kept : KeptK W X (SpS g s.lA)
  lo : W.heap.size + 7 ≤ M
  low : ∀ k, SpS g s.lA k → k < W.heap.size
  hi : M ≤ V.heap.size
  sz : V.heap.size ≤ X.heap.size
theorem WkB.toP {W X : World} {base g M p : Nat} {s s1 : Sp} {fuel : Int} {D : List Bt} {c : Nat} {dA : Option Addr} {dc : Nat} (h : WkB W base g s fuel M s1 D (c : Int) dA dc X) (st : WkSt s.f s.L fuel p s1.L D c) : WkP W X base g s M D c dA dc s1.L 0 s1 X :=
  ⟨h.wk, h.e1, h.e2, h.e3, fun q e => .inl (by rw [← h.e4]; exact e), st.puts, h.w0, h.w2, h.w3, h.w4, h.row, fun q e => (h.rowM q e).2, fun d hd => ⟨(h.each d hd).1, (h.each d hd).2.1, (h.each d hd).2.2.1, by rw [h.e4]; exact (h.each d hd).2.2.2.less (fun b e => .inl e)⟩, h.kept, h.lo, h.low, h.hi, Nat.le_refl _⟩
section
variable {W V X Y : World} {base g M : Nat} {s : Sp} {D : List Bt} {c : Nat} {dA : Option Addr} {dc : Nat} {L1 : List Lv} {j : Nat} {sj : Sp}
theorem WkP.past (h : WkP W V base g s M D c dA dc L1 j sj X) (hb : Below X.heap.size X Y) : WkP W V base g s M D c dA dc L1 j sj Y :=
  ⟨h.wk.past hb, h.e1, h.e2, h.e3, h.lA, h.st, h.w0.past hb h.w0.inside, h.w2.past hb h.w2.inside, h.w3.past hb h.w3.inside, h.w4.past hb h.w4.inside, own_below h.row hb, h.rlt, fun d hd => ⟨(h.each d hd).1.keep hb, (h.each d hd).2⟩, h.kept.trans (KeptK.of_below hb (Nat.le_refl _) (SpS g s.lA)) (fun _ _ e => e), h.lo, h.low, h.hi, Nat.le_trans h.sz hb.size⟩
theorem WkP.may (h : WkP W V base g s M D c dA dc L1 j sj X) (hw : wtS s.L ≤ 274877906944) (hst : ∀ b ∈ D, BatchOk b.f b.l ∧ LaterF s.f b.f) {b : Bt} (hb : D[j]? = some b) : PutIn base g sj b X := by
  have hm := List.mem_of_getElem? hb
  have he := h.each b hm
  have hlt := List.getElem?_eq_some_iff.1 hb
  have h1 := h.st.wt
  rw [List.drop_eq_getElem_cons hlt.1, hlt.2, partsD_cons, List.length_append] at h1
  exact ⟨h.wk, by rw [h.e3]; exact h.st.good, he.1, he.2.1, he.2.2.2, he.2.2.1, (hst b hm).1, by rw [h.e3]; exact (hst b hm).2, by omega⟩
theorem WkP.vars (h : WkP W V base g s M D c dA dc L1 j sj X) (k : KeptK X Y (SpS g sj.lA)) : Own Y W.heap.size 111 [.pointer (some ⟨g, 0, none⟩)] ∧ Own Y (W.heap.size + 2) 3 [.int .i64 0] ∧ Own Y (W.heap.size + 3) 35 [.int .i64 0] ∧ Own Y (W.heap.size + 4) 3 [.int .i64 (c : Int)] ∧ KeptK W Y (SpS g s.lA) ∧ ∀ q, SpS g sj.lA q → q < W.heap.size ∨ V.heap.size ≤ q := by
  have hsz := h.sz
  have hlo := h.lo
  have hhi := h.hi
  have nS : ∀ q, SpS g sj.lA q → SpS g s.lA q ∨ V.heap.size ≤ q := fun q e => by
    rcases e with e | e
    · exact .inl (.inl e)
    · rcases h.lA _ e with e | e
      · exact .inl (.inr e)
      · exact .inr e
  have nW : ∀ i, i < 7 → ¬ SpS g sj.lA (W.heap.size + i) := fun i hi e => by
    rcases nS _ e with e | e
    · have := h.low _ e; omega
    · omega
  exact ⟨k.own h.w0 (nW 0 (by decide)), k.own h.w2 (nW 2 (by decide)), k.own h.w3 (nW 3 (by decide)), k.own h.w4 (nW 4 (by decide)), h.kept.trans k (fun q hq e => by
    rcases nS q e with e | e
    · exact e
    · omega), fun q e => (nS q e).imp (h.low q) id⟩
theorem row_two {n : Nat} {d : Bt} (h : X.ownsRow M 61 2 (.slice dA D.length dc) D.length (D.flatMap Bt.cells)) (hd : D[j]? = some d) :
    ∃ G, dA = some ⟨G, 0, none⟩ ∧ X.cell? ⟨G, j * 2, none⟩ = some (.slice d.sA d.f.length d.sc) ∧ X.cell? ⟨G, j * 2 + 1, none⟩ = some (.slice d.uA d.l.length d.uc) := by
  have hp : 0 < D.length := by have := (List.getElem?_eq_some_iff.1 hd).1; omega
  rcases row_ownK h with ⟨_, h0, _⟩ | ⟨G, cur, e, _⟩
  · omega
  · obtain ⟨A', c', ev, _, _, hli⟩ := lies_of_own (size := 2) (cells := Bt.cells) (by decide) (fun _ => rfl) rfl h
    simp only [Value.slice.injEq] at ev
    obtain ⟨b, o, e2, _, hc⟩ := hli hp
    rw [← ev.1] at e2
    rw [e] at e2
    simp only [Option.some.injEq, Addr.mk.injEq, and_true] at e2
    obtain ⟨rfl, rfl⟩ := e2
    have h0 := hc j d hd 0 _ rfl
    have h1 := hc j d hd 1 _ rfl
    rw [Nat.zero_add] at h0 h1
    exact ⟨G, e, h0, h1⟩
theorem WkP.next (h : WkP W V base g s M D c dA dc L1 j sj X) {b : Bt} (hb : D[j]? = some b) {s2 : Sp} (k : KeptK X Y (SpS g sj.lA)) (o : PutOut base g sj b.l 1 b.l.length X Y s2) : WkP W V base g s M D c dA dc L1 (j + 1) s2 Y := by
  have hsz := h.sz
  have hlo := h.lo
  have hhi := h.hi
  have nW : ∀ i, i < 7 → ¬ SpS g sj.lA (W.heap.size + i) := fun i hi e => by
    rcases e with e | e
    · have := h.low g (.inl rfl); omega
    · rcases h.lA _ e with e | e
      · have := h.low _ (.inr e); omega
      · omega
  have nR : ∀ q, blkS dA = some q → ¬ SpS g sj.lA q := fun q hq e => by
    have h1 := (h.row.lt q (by rw [blkS_own]; exact hq)).1
    have h2 := h.rlt q hq
    rcases e with e | e
    · have := h.low g (.inl rfl); omega
    · rcases h.lA _ e with e | e
      · have := h.low _ (.inr e); omega
      · omega
  have hS2 : ∀ q, SpS g s2.lA q → SpS g sj.lA q ∨ X.heap.size ≤ q := fun q e => by
    rcases e with e | e
    · exact .inl (.inl e)
    · rcases o.lA with e2 | ⟨r, e2, hr⟩
      · exact .inl (.inr (by rw [← e2]; exact e))
      · rw [e2] at e; injection e with e; exact .inr (by omega)
  refine ⟨o.wk, o.h1.trans h.e1, o.h2.trans h.e2, o.h3.trans h.e3, fun q e => ?_, h.st.next hb (by rw [← h.e3]; exact o.put), k.own h.w0 (nW 0 (by decide)), k.own h.w2 (nW 2 (by decide)), k.own h.w3 (nW 3 (by decide)), k.own h.w4 (nW 4 (by decide)), k.row h.row (fun q e e2 => nR q (by rw [← blkS_own dA D.length dc]; exact e) e2), h.rlt,
    fun d hd => ⟨bt_kept (h.each d hd).1 (h.each d hd).2.2.2 k, (h.each d hd).2.1, (h.each d hd).2.2.1, ((h.each d hd).2.2.2.or (bt_in (h.each d hd).1)).less hS2⟩, h.kept.trans k (fun q hq e => ?_), h.lo, h.low, h.hi, Nat.le_trans h.sz k.size⟩
  · rcases o.lA with e2 | ⟨r, e2, hr⟩
    · exact h.lA q (by rw [← e2]; exact e)
    · rw [e2] at e; injection e with e; exact .inr (by omega)
  · rcases e with e | e
    · exact .inl e
    · rcases h.lA _ e with e | e
      · exact .inr e
      · omega
end
def Tiny (X : World) (S : Nat → Prop) : Prop := ∀ b, S b → ∃ t v, Own X b t [v]
section
variable {X : World} {S : Nat → Prop} {B : Nat} {A : Option Addr}
theorem Tiny.no {b i : Nat} {u : Value} (h : Tiny X S) (hs : S b) (hc : X.cell? ⟨b, i + 1, none⟩ = some u) : False := by
  obtain ⟨t, v, ho⟩ := h b hs
  rw [ho.at_] at hc
  have := (List.getElem?_eq_some_iff.1 hc).1
  simp at this
theorem tiny_times {l : List Tm} (hS : Tiny X S) (h : Times X B A l) : OfT S A l.length := fun hp b o e hs => by
  obtain ⟨b', o', e', _, hc⟩ := h hp
  have hb := at_block e e'
  subst hb
  exact hS.no hs (hc 0 l[0] (List.getElem?_eq_getElem hp)).2.1
theorem tiny_vals {l : List Vl} (hS : Tiny X S) (h : Vals X B A l) : OfT S A l.length := fun hp b o e hs => by
  obtain ⟨b', o', e', _, hc⟩ := h hp
  have hb := at_block e e'
  subst hb
  exact hS.no hs (hc 0 l[0] (List.getElem?_eq_getElem hp)).2.1
theorem tiny_lies {α : Type} {size : Nat} {cells : α → List Value} {l : List α} (hne : ∀ x, ∃ u, (cells x)[1]? = some u) (hS : Tiny X S) (h : Lies size cells X B A l) : OfT S A l.length := fun hp b o e hs => by
  obtain ⟨b', o', e', _, hc⟩ := h hp
  have hb := at_block e e'
  subst hb
  obtain ⟨u, hu⟩ := hne l[0]
  exact hS.no hs (hc 0 l[0] (List.getElem?_eq_getElem hp) 1 u hu)
theorem tiny_ups {l : List Up} (hS : Tiny X S) (h : Ups X B A l) : OfU S A l := ⟨tiny_lies (fun x => ⟨_, rfl⟩) hS h.head, fun u hu => ⟨tiny_vals hS (h.each_ u hu).key, tiny_vals hS (h.each_ u hu).row⟩⟩
theorem tiny_bt {b : Bt} (hS : Tiny X S) (h : BtIn X B b) : OfB S b := ⟨tiny_times hS h.since, tiny_ups hS h.ups⟩
theorem tiny_mg {m : Mg} (hS : Tiny X S) (h : MgIn X B m) : OfM S m := ⟨tiny_ups hS h.a, tiny_ups hS h.b, tiny_times hS h.f, tiny_ups hS h.o⟩
theorem tiny_lv {l : Lv} (hS : Tiny X S) (h : LvIn X B l) : OfL S l := ⟨tiny_bt hS h.b, tiny_mg hS h.m⟩
end
theorem WkP.end_ {W V X : World} {base g M j : Nat} {s sj : Sp} {D : List Bt} {c : Nat} {dA : Option Addr} {dc : Nat} {L1 : List Lv} (h : WkP W V base g s M D c dA dc L1 j sj X) {b2 b3 Q : Nat} (k2 : b2 = W.heap.size + 2) (k3 : b3 = W.heap.size + 3) (hQ : W.heap.size + 7 ≤ Q) (hd : X.heap[Q]? = some (.deferred (some []))) (x y : Value) :
    Wk (((X.setCell ⟨b2, 0, none⟩ x).setCell ⟨b3, 0, none⟩ y).putObj Q (.deferred none)) base g sj := by
  have hr := (work_ret (g := g) (s := s) k2 k3 hQ h.w2 h.w3 h.kept hd x y).1
  subst k2
  subst k3
  have hsz := h.sz
  have hhi := h.hi
  have hlo := h.lo
  have hT : Tiny X (fun k => k = W.heap.size + 2 ∨ k = W.heap.size + 3) := fun b hb => by
    rcases hb with rfl | rfl
    · exact ⟨_, _, h.w2⟩
    · exact ⟨_, _, h.w3⟩
  have k1 : KeptK X ((X.setCell ⟨W.heap.size + 2, 0, none⟩ x).setCell ⟨W.heap.size + 3, 0, none⟩ y) (fun k => k = W.heap.size + 2 ∨ k = W.heap.size + 3) := ((KeptK.refl X (fun k => k = W.heap.size + 2 ∨ k = W.heap.size + 3)).set_ (.inl (.inl rfl)) x).set_ (.inl (.inr rfl)) y
  have hw := h.wk.off k1 (fun e => by have := h.low g (.inl rfl); omega) (fun q e e2 => by
    rcases h.lA q e with e | e
    · have := h.low q (.inr e); omega
    · omega) (tiny_times hT h.wk.since) (fun l hl => tiny_lv hT (h.wk.lev l hl))
  exact hw.turn (grownBy_putObj' _ Q (.deferred none)) (fun r e => by cases e; exact ⟨_, hr, rfl⟩)
end Go.Proofs.YtenjlhlighkenaaGreat
namespace Go.Proofs.YtenjlhlighkenaaGreat
open Go Go.RowKit

theorem slice_of_row {w : World} {base n size : Nat} {e : TypeId} {v : Value} {xs : List Value} (h : w.ownsRow base e size v n xs) : ∃ A c, v = .slice A n c := by
  rcases h.2 with ⟨h0, h1⟩ | ⟨g, cap, cur, hv, _⟩
  · exact ⟨none, 0, by rw [h0, h1]⟩
  · exact ⟨_, _, hv⟩
theorem cell_keptK {w w' : World} {S : Nat → Prop} {a : Addr} {v : Value} (k : KeptK w w' S) (hS : ¬ S a.block) (hc : w.cell? a = some v) : w'.cell? a = some v := by
  rw [← hc]
  obtain ⟨o, ho, _⟩ := cells_of_cell hc
  exact World.cell?_of_block (k.block _ (Array.getElem?_eq_some_iff.1 ho).1 hS)
section
variable {W X Y : World} {base g M p : Nat} {s s1 : Sp} {fuel cv : Int} {D : List Bt} {dA : Option Addr} {dc : Nat} {l : Lv} {m' : Mg}
theorem WkB.drew (h : WkB W base g s fuel M s1 D cv dA dc X) : WkB W base g s fuel M s1 D cv dA dc X.drew := h.past (Below.drew (Below.refl _ _))
theorem WkB.went (h : WkB W base g s fuel M s1 D cv dA dc X) {G B0 : Nat} (hl : s1.L[p]? = some l) (hb : l.busy = true) (im : MgIn X X.heap.size m') (om : MgOk m') (cap : McOk m') (lm : MgLo B0 m') (hB0 : ∀ k, SpS g s.lA k ∨ Aw W M dA k → k < B0) (hbase : base ≤ B0) (hG : s1.lA = some ⟨G, 0, none⟩) :
    WkB W base g s fuel M ⟨s1.sA, s1.sc, s1.f, s1.lA, s1.lc, s1.L.set p ⟨l.cls, true, l.b, m'⟩⟩ D cv dA dc (setsAt X G (p * 10 + 4) m'.cells) ∧ KeptK X (setsAt X G (p * 10 + 4) m'.cells) (SpS g s.lA) := by
  have hml := List.mem_of_getElem? hl
  obtain ⟨a1, a2⟩ := h.wk.merger im (lm.of (fun k hk => hB0 k (.inl (by rw [← h.e4]; exact hk)))) om cap (lm.mono hbase) hl hG
  rw [hb] at a1
  rw [h.e4] at a2
  refine ⟨h.spine a2 a1 h.e1 h.e2 h.e3 h.e4 h.e5 (fun x hx => ?_), a2⟩
  rcases List.mem_or_eq_of_mem_set hx with hx | rfl
  · exact .inl hx
  · exact .inr ⟨(h.aw l hml).b, lm.of (fun k hk => hB0 k (.inr hk))⟩
theorem WkB.ended (h : WkB W base g s fuel M s1 D cv dA dc X) {x : Ending} (he : Ended X base g p s1 m' x Y) : ∃ b : Bt, x = .returned b.val ∧ WkB W base g s fuel M ⟨s1.sA, s1.sc, s1.f, s1.lA, s1.lc, s1.L.eraseIdx p⟩ D cv dA dc Y ∧ KeptK X Y (SpS g s.lA) ∧ b.f = m'.f ∧ b.l.map Up.p = m'.o.map Up.p ∧ BtIn Y Y.heap.size b ∧ BtOk b ∧ BtLo base b ∧ OfB (fun k => SpS g s.lA k ∨ Aw W M dA k) b := by
  obtain ⟨b, h1, h2, h3, h4, h5, h6, h7, h8⟩ := he
  rw [h.e4] at h3
  have hlo : ∀ k, SpS g s.lA k ∨ Aw W M dA k → k < X.heap.size := fun k hk => by
    have hW := h.kept.size
    have hM := h.hi
    rcases hk with hk | hk | hk
    · have := h.low k hk; omega
    · omega
    · exact (h.rowM k hk).2
  exact ⟨b, h1, h.spine h3 h2 h.e1 h.e2 h.e3 h.e4 h.e5 (fun x hx => .inl (List.mem_of_mem_eraseIdx hx)), h3, h4, h5, h6, h7, h8.mono h.wk.base_, h8.of hlo⟩
end
end Go.Proofs.YtenjlhlighkenaaGreat
namespace Go.Proofs.YtenjlhlighkenaaGreat
open Go Go.RowKit

theorem step_append_anyS {α : Type} {size : Nat} {cells : α → List Value} {B : Nat} {A : Option Addr} {l : List α} {P : Program} (w : World) {ops : Array Oper} {o : Oper} {a : Act} {K : Act → World → Prop} {Q : Exit → Act → World → Prop} {E : Prop} (hgd : o.guard = none) (s x : Operand) (t e : TypeId)
    (ho : o.op = .call { callee := .builtin .append, args := #[s, x], argTypes := #[t, t] })
    (i0 : TypeInfo) (z : Value) (bytes : Nat) (ht : P.underlying t = some (.slice e)) (hi : P.info? e = some i0) (hz0 : i0.zero = some z) (hz1 : i0.size = size) (hz2 : i0.bytes = bytes) (hzs : z.cells.size = size) (hpos : 0 < size) (hcl : ∀ x, (cells x).length = size) (hone : ∀ x, ∀ u ∈ cells x, u.oneCell' = true)
    (base : Nat) (v : Value) (n : Nat) (xs : List Value) (hs : a.eval s = v) (hown : w.ownsRow base e size v n xs)
    (c : Nat) (hx : a.eval x = .slice A l.length c) (hl : Lies size cells w B A l) (h63 : n + l.length ≤ maxLen) (hn : (n + l.length) * bytes ≤ 140737488355328) (hbase : base ≤ w.heap.size)
    (h : ∀ v' w', w'.ownsRow base e size v' (n + l.length) (xs ++ l.flatMap cells) → Below base w w' → (v'.ownBlock = v.ownBlock ∨ v'.ownBlock = some w.heap.size) → w.grownBy w' v.ownBlock → K (a.put o.dst v') w') :
    if Region.wanted o (yielded ops a.tmps) = true then Oper.wp P o a w K Q else E := by
  have hw : Region.wanted o (yielded ops a.tmps) = true := by simp [Region.wanted, hgd]
  rw [if_pos hw]
  obtain ⟨v', w', hrun, ho', hb, hob, hgr⟩ : ∃ v' w', (Builtin.append_ #[t, t] o.type #[v, .slice A l.length c]).run P w = .ok v' w' ∧ w'.ownsRow base e size v' (n + l.length) (xs ++ l.flatMap cells) ∧ Below base w w' ∧ (v'.ownBlock = v.ownBlock ∨ v'.ownBlock = some w.heap.size) ∧ w.grownBy w' v.ownBlock := by
    cases A with
    | none =>
      have h0 : l = [] := by
        cases l with
        | nil => rfl
        | cons x l => obtain ⟨_, _, e, _⟩ := hl (by simp); cases e
      subst h0
      exact ⟨v, w, run_append_none w base _ _ _ i0 size ht hi v n xs hown c, by simpa using hown, Below.refl _ _, .inl rfl, ⟨rfl, rfl, rfl, Nat.le_refl _, fun _ _ _ => rfl⟩⟩
    | some ad =>
      have hnews : ∀ j u, (l.flatMap cells)[j]? = some u → w.cell? (ad.add j) = some u := by
        intro j u hu
        obtain ⟨i, r, y, rfl, hi, hr⟩ := flat_back hpos hcl l j u hu
        have hp : 0 < l.length := by have := (List.getElem?_eq_some_iff.1 hi).1; omega
        obtain ⟨b, o, e, _, hc⟩ := hl hp
        obtain rfl : ad = ⟨b, o, none⟩ := by injection e
        have ea : (⟨b, o, none⟩ : Addr).add (i * size + r) = ⟨b, o + i * size + r, none⟩ := by unfold Addr.add; split <;> simp_all <;> omega
        rw [ea]
        exact hc i y hi r u hr
      obtain ⟨v', w', hr, h2, h3, _, h5⟩ := run_append_own_at (P := P) w base t o.type e i0 _ size bytes ht hi hz0 hz1 hz2 hzs hpos v n xs hown ad l.length c (l.flatMap cells) (flat_size hcl l) hnews
        (fun u hu => by obtain ⟨y, _, hy⟩ := List.mem_flatMap.1 hu; exact hone y u hy) h63 hn hbase
      exact ⟨v', w', hr, h2, (Below.refl base w).grown h3 hbase (fun k hk => (hown.lt k hk).1), h5, h3⟩
  unfold Oper.wp execOp
  simp only [ho, resolve, invoke, builtin, Sem.run_bind, Sem.run_pure, Result.andThen_ok, List.map_toArray, List.map_cons, List.map_nil, hs, hx, hrun]
  exact h v' w' ho' hb hob hgr
end Go.Proofs.YtenjlhlighkenaaGreat
