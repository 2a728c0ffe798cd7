/- A time advanced to a list of times. -/
import Derived.Test.YtdbdjojgccbfcaaBound
import Derived.Test.YtdbdjojgccbfcaaRefLub
import Derived.Test.YtdbdjojgccbfcaaRefGlb
import Derived.Deep.AppendLies
import Derived.Deep.DeepCutAuto
namespace Go.Proofs.Ytdbdjojgccbfcaa
open Go Go.RowKit
attribute [local go_sem ↓] Go.wp_at_zero Go.wp_at_succ

/-- t advanced to l -/
def adv (t : Tm) (l : List Tm) : Tm := match l with | [] => t | x :: l => l.foldl (fun a y => a.inf (t.sup y)) (t.sup x)
theorem adv_glb (t : Tm) (l : List Tm) (h : 0 < l.length) : adv t l = glb (l.map (t.sup ·)) := by
  cases l with
  | nil => simp at h
  | cons x l => simp [adv, glb, List.foldl_map]
/-- two times laid one behind the other in a block of their own -/
theorem times_two (w : World) (s t : Tm) : Times (w.alloc (.cells #[.int .u64 (s.e : Int), .int .u64 (s.a : Int), .int .u64 (s.b : Int), .int .u64 (t.e : Int), .int .u64 (t.a : Int), .int .u64 (t.b : Int)] 26)) (w.heap.size + 1) (some ⟨w.heap.size, 0, none⟩) [s, t] := by
  intro _
  refine ⟨_, _, rfl, by omega, fun i x hx => ?_⟩
  match i, hx with
  | 0, hx => obtain rfl : s = x := by simpa using hx
             exact ⟨by simp [go_sem], by simp [go_sem], by simp [go_sem]⟩
  | 1, hx => obtain rfl : t = x := by simpa using hx
             exact ⟨by simp [go_sem], by simp [go_sem], by simp [go_sem]⟩
theorem times_two' {w : World} {N : Nat} (s t : Tm) (hN : w.heap.size = N) : Times (w.alloc (.cells #[.int .u64 (s.e : Int), .int .u64 (s.a : Int), .int .u64 (s.b : Int), .int .u64 (t.e : Int), .int .u64 (t.a : Int), .int .u64 (t.b : Int)] 26)) (N + 1) (some ⟨N, 0, none⟩) [s, t] := hN ▸ times_two w s t
theorem fold_take2 {α β : Type} (f : β → α → β) (x : β) (s : α) (l : List α) (k : Nat) (h : l[k]? = some s) : (l.take (k + 1)).foldl f x = f ((l.take k).foldl f x) s := by
  rw [List.take_add_one, h, List.foldl_append]; rfl
theorem own_set3_other {w : World} {g h : Nat} {t : TypeId} {l : List Value} (o : Own w g t l) (hg : h ≠ g) (x y z : Value) : Own (((w.setCell ⟨h, 0, none⟩ x).setCell ⟨h, 1, none⟩ y).setCell ⟨h, 2, none⟩ z) g t l :=
  ((o.other (p := ⟨h, 0, none⟩) hg _).other (p := ⟨h, 1, none⟩) hg _).other (p := ⟨h, 2, none⟩) hg _
theorem own_drew {w : World} {g : Nat} {t : TypeId} {l : List Value} (o : Own w g t l) : Own w.drew g t l := o
theorem times_keep {a b : World} {A : Option Addr} {l : List Tm} (h : Times a a.heap.size A l) (hb : Below a.heap.size a b) : Times b b.heap.size A l := (h.past hb (Nat.le_refl _)).wide hb.size
theorem times_here {W : World} {B C : Nat} {A : Option Addr} {l : List Tm} (h : Times W B A l) (hB : B ≤ C) : Times W C A l := h.wide hB
theorem times_later {W : World} {o : Obj} {B C : Nat} {A : Option Addr} {l : List Tm} (h : Times W B A l) (hB : B ≤ C ∧ B ≤ W.heap.size) : Times (W.alloc o) C A l :=
  (h.past ((Below.refl _ _).alloc (Nat.le_refl _) _) hB.2).wide hB.1
theorem times_one (w : World) (s : Tm) : Times (w.alloc (.cells #[.int .u64 (s.e : Int), .int .u64 (s.a : Int), .int .u64 (s.b : Int)] 26)) (w.heap.size + 1) (some ⟨w.heap.size, 0, none⟩) [s] := by
  intro _
  refine ⟨_, _, rfl, by omega, fun i x hx => ?_⟩
  match i, hx with
  | 0, hx => obtain rfl : s = x := by simpa using hx
             exact ⟨by simp [go_sem], by simp [go_sem], by simp [go_sem]⟩

set_option maxRecDepth 100000 in
set_option maxHeartbeats 1600000 in
theorem advance_any (t : Tm) (A : Option Addr) (c : Nat) (l : List Tm) (w : World) (hl : Times w w.heap.size A l) (hc : l.length ≤ c) (hn : c ≤ maxLen) :
    Calls Try.prog 11 #[t.val, .slice A l.length c] w fun e w' => e = .returned (adv t l).val ∧ Below w.heap.size w w' := by
  cases l with
  | nil =>
    unfold Tm.val adv
    go_enter Try.func11, Try.ntmps11
    go_wp2_with fail
    refine bodyPost_ret (v := .agg #[.int .u64 (t.e : Int), .int .u64 (t.a : Int), .int .u64 (t.b : Int)]) (by simp [results, Try.results11, go_sem]) rfl ⟨rfl, ?_⟩
    exact ((Below.refl _ _).alloc (Nat.le_refl _) _).alloc (by simp) _
  | cons x l =>
    obtain ⟨b, o, rfl, hB, hl⟩ := hl (by simp)
    obtain ⟨x0, x1, x2⟩ := hl 0 x rfl
    rw [Nat.zero_mul, Nat.add_zero] at x0 x1 x2
    unfold maxLen at hn
    rw [List.length_cons] at hc ⊢
    have h10 : ((l.length : Int) + 1 == 0) = false := by simp; omega
    have hz : (0 : Int) < (l.length : Int) + 1 := by omega
    have Hl := Lib.hid hl
    clear hl
    have hglb := fun (s t : Tm) A W h => Lib.hid (glb_any A 2 [s, t] W h (by simp) (by unfold maxLen; omega))
    have hlub := fun (s t : Tm) A W h => Lib.hid (lub_any A 2 [s, t] W h (by simp) (by unfold maxLen; omega))
    unfold Tm.val at hlub hglb ⊢
    go_enter Try.func11, Try.ntmps11
    go_upto_region 3 with fail
    go_cut [5] (fun s5 wx => ∃ G : Nat, s5 = .pointer (some ⟨G, 0, none⟩) ∧ Below w.heap.size w wx ∧ Own wx w.heap.size 26 t.cells ∧ Own wx (w.heap.size + 1) 26 [.int .u64 0, .int .u64 0, .int .u64 0] ∧
        Own wx G 26 (t.sup x).cells ∧ w.heap.size + 1 < G)
    case first =>
      have f : Below w.heap.size w ((w.alloc (.cells #[.int .u64 (t.e : Int), .int .u64 (t.a : Int), .int .u64 (t.b : Int)] 26)).alloc (.cells #[.int .u64 0, .int .u64 0, .int .u64 0] 26)) ∧
          Own ((w.alloc (.cells #[.int .u64 (t.e : Int), .int .u64 (t.a : Int), .int .u64 (t.b : Int)] 26)).alloc (.cells #[.int .u64 0, .int .u64 0, .int .u64 0] 26)) w.heap.size 26 t.cells ∧
          Own ((w.alloc (.cells #[.int .u64 (t.e : Int), .int .u64 (t.a : Int), .int .u64 (t.b : Int)] 26)).alloc (.cells #[.int .u64 0, .int .u64 0, .int .u64 0] 26)) (w.heap.size + 1) 26 [.int .u64 0, .int .u64 0, .int .u64 0] :=
        ⟨((Below.refl _ _).alloc (Nat.le_refl _) _).alloc (by simp) _, by have := (Own.made w 26 t.cells).more (.cells #[.int .u64 0, .int .u64 0, .int .u64 0] 26); simpa [Tm.cells] using this, by
          have := Own.made (w.alloc (.cells #[.int .u64 (t.e : Int), .int .u64 (t.a : Int), .int .u64 (t.b : Int)] 26)) 26 [.int .u64 0, .int .u64 0, .int .u64 0]; simpa using this⟩
      generalize (w.alloc (.cells #[.int .u64 (t.e : Int), .int .u64 (t.a : Int), .int .u64 (t.b : Int)] 26)).alloc (.cells #[.int .u64 0, .int .u64 0, .int .u64 0] 26) = W at f ⊢
      obtain ⟨fb, ft, fr⟩ := f
      replace x0 := (fb.cell (p := ⟨b, o, none⟩) hB).trans x0
      replace x1 := (fb.cell (p := ⟨b, o + 1, none⟩) hB).trans x1
      replace x2 := (fb.cell (p := ⟨b, o + 2, none⟩) hB).trans x2
      have t0 := ft.at_ 0
      have t1 := ft.at_ 1
      have t2 := ft.at_ 2
      simp only [Tm.cells, List.getElem?_cons_zero, List.getElem?_cons_succ] at t0 t1 t2
      have hsz := fr.inside
      have ne1 := World.new_ne W _ x0
      have ne2 := World.new_ne W _ x1
      have ne3 := World.new_ne W _ x2
      have ne4 := World.new_ne W _ t0
      have ne5 := World.new_ne W _ t1
      have ne6 := World.new_ne W _ t2
      have HH := Lib.hid (And.intro fb (And.intro ft fr))
      have hB0 := hB
      have hBW : b < W.heap.size := by omega
      have hNW : w.heap.size < W.heap.size := by omega
      clear fb ft fr
      go_region_held3 (fun w' => w'.cell? ⟨w.heap.size, 0, none⟩ = some (.int .u64 (t.e : Int)) ∧ w'.cell? ⟨w.heap.size, 1, none⟩ = some (.int .u64 (t.a : Int)) ∧ w'.cell? ⟨w.heap.size, 2, none⟩ = some (.int .u64 (t.b : Int)) ∧
          w'.cell? ⟨b, o, none⟩ = some (.int .u64 (x.e : Int)) ∧ w'.cell? ⟨b, o + 1, none⟩ = some (.int .u64 (x.a : Int)) ∧ w'.cell? ⟨b, o + 2, none⟩ = some (.int .u64 (x.b : Int)))
        (first | go_keep | (((try dsimp only); (repeat' apply And.intro)) <;> (refine (Below.cell (w := W) (B := W.heap.size) ?_ (by first | exact hNW | exact hBW)).trans (by assumption); repeat (first | exact Below.refl _ _ | refine Below.drew ?_ | refine Below.alloc ?_ (by first | (simp; done) | (simp; omega) | (have hz := hb.size; simp at hz; simp; omega) | (have hz := hb.size; simp at hz; omega)) _ | refine Below.setCell ?_ (by first | (simp; done) | (simp; omega) | (have hz := hb.size; simp at hz; simp; omega) | (have hz := hb.size; simp at hz; omega)) _ | refine below_then ?_ (by first | (simp; done) | (simp; omega) | (have hz := hb.size; simp at hz; simp; omega) | (have hz := hb.size; simp at hz; omega)) hb))))
        (first | (go_at_call 20; refine (hlub t x _ _ ?_).out.mono ?_; (first | exact times_here (times_two' _ _ (by simp)) (by simp) | exact times_later (times_two' _ _ (by simp)) (by simp)); rintro e w1 ⟨rfl, hb⟩; obtain ⟨hcc, hff⟩ := olds hb))
      all_goals
        go_wp2_with fail
        go_meet
        have h1 : Below W.heap.size W w1 := by
          refine below_then ?_ (by simp) hb
          repeat (first | exact Below.refl _ _ | refine Below.drew ?_ | refine Below.alloc ?_ (by first | (simp; done) | (simp; omega)) _)
        obtain ⟨fb, ft, fr⟩ := HH.out
        have hbW : Below w.heap.size w w1 := fb.trans (h1.mono (by omega))
        have ft' := ft.past h1 hNW
        have fr' := fr.past h1 hsz
        have hz1 := h1.size
      · exact ⟨_, rfl, hbW.alloc hbW.size _, ft'.more _, fr'.more _, Own.made w1 _ (t.sup x).cells, by omega⟩
      · have hg : Own w1 (W.heap.size + 1) 26 [.int .u64 0, .int .u64 0, .int .u64 0] := by
          refine Own.past ?_ hb (by simp)
          have := (Own.made (W.alloc (.cells #[.int .u64 (t.e : Int), .int .u64 (t.a : Int), .int .u64 (t.b : Int), .int .u64 (x.e : Int), .int .u64 (x.a : Int), .int .u64 (x.b : Int)] 26)) 26 [.int .u64 0, .int .u64 0, .int .u64 0])
          simp only [World.size_alloc] at this
          exact this.draws 1
        exact ⟨_, rfl, below_set3 hbW (by omega) _ _ _, own_set3_other ft' (by omega) _ _ _, own_set3_other fr' (by omega) _ _ _, ((hg.set_ 0 _).set_ 1 _).set_ 2 _, by omega⟩
      · have hg : Own w1 W.heap.size 26 [.int .u64 0, .int .u64 0, .int .u64 0] := by
          refine Own.past ?_ hb (by simp; omega)
          exact ((Own.made W 26 [.int .u64 0, .int .u64 0, .int .u64 0]).more _).draws 1
        exact ⟨_, rfl, below_set3 hbW (by omega) _ _ _, own_set3_other ft' (by omega) _ _ _, own_set3_other fr' (by omega) _ _ _, ((hg.set_ 0 _).set_ 1 _).set_ 2 _, by omega⟩
    case rest =>
      obtain ⟨G, rfl, fb, ft, fr, fg, hG⟩ := hcut
      by_cases hc1 : c = 1
      · have hl0 : l = [] := List.eq_nil_of_length_eq_zero (by omega)
        subst hl0 hc1
        have f0 := fg.at_ 0
        have f1 := fg.at_ 1
        have f2 := fg.at_ 2
        have g0 := fr.open_ 0
        have g1 := fr.open_ 1
        have g2 := fr.open_ 2
        have e0 := fr.at_ 0
        have e1 := fr.at_ 1
        have e2 := fr.at_ 2
        generalize hg : t.sup x = g at *
        obtain ⟨d0, d1, d2⟩ := fr.stored3 (.int .u64 (g.e : Int)) (.int .u64 (g.a : Int)) (.int .u64 (g.b : Int))
        have H1 := Lib.hid (And.intro hg (And.intro fb (And.intro d0 (And.intro d1 d2))))
        simp only [Tm.cells, List.getElem?_cons_zero, List.getElem?_cons_succ] at f0 f1 f2 e0 e1 e2
        clear ft fr fg fb d0 d1 d2 hg
        go_wp2_with fail
        go_rounds 1
        obtain ⟨hg, hb, d0, d1, d2⟩ := H1.out
        refine bodyPost_ret (v := g.val) (by simp [results, Try.results11, go_sem, d0, d1, d2, Tm.val]) rfl ⟨congrArg (fun g : Tm => Ending.returned g.val) hg.symm, below_set3 hb (by omega) _ _ _⟩
      · have HH := Lib.hid (And.intro fb (And.intro ft (And.intro fr fg)))
        clear fb ft fr fg
        go_wp2_with fail
        go_loopw [21] (fun i wr => ∃ k : Nat, i = .int .i64 (k : Int) ∧ k ≤ l.length ∧ Below w.heap.size w wr ∧ Own wr w.heap.size 26 t.cells ∧ Own wr (w.heap.size + 1) 26 [.int .u64 0, .int .u64 0, .int .u64 0] ∧
            Own wr G 26 ((l.take k).foldl (fun a y => a.inf (t.sup y)) (t.sup x)).cells)
          (fun i _ => l.length - (intOf i).toNat)
        case atStart =>
          obtain ⟨fb, ft, fr, fg⟩ := HH.out
          exact ⟨0, rfl, by omega, fb, ft, fr, fg⟩
        case round =>
          obtain ⟨k, rfl, hk, fb, ft, fr, fg⟩ := hrel
          have hsz := fg.inside
          by_cases hlt : k < l.length
          · have hx : l[k]? = some l[k] := List.getElem?_eq_getElem hlt
            obtain ⟨c0, c1, c2⟩ := (Hl.out (k + 1) l[k] (by rw [List.getElem?_cons_succ]; exact hx)).past fb hB
            rw [show o + (k + 1) * 3 = o + 3 + k * 3 by omega] at c0 c1 c2
            have hsn := fold_take2 (fun a y => Tm.inf a (t.sup y)) (t.sup x) _ l k hx
            generalize l[k] = y at *
            generalize hg : (l.take k).foldl (fun a y => Tm.inf a (t.sup y)) (t.sup x) = g at *
            have t0 := ft.at_ 0
            have t1 := ft.at_ 1
            have t2 := ft.at_ 2
            have f0 := fg.at_ 0
            have f1 := fg.at_ 1
            have f2 := fg.at_ 2
            have g0 := fg.open_ 0
            have g1 := fg.open_ 1
            have g2 := fg.open_ 2
            simp only [Tm.cells, List.getElem?_cons_zero, List.getElem?_cons_succ] at t0 t1 t2 f0 f1 f2
            have HR := Lib.hid (And.intro fb (And.intro ft (And.intro fr (And.intro fg (And.intro hsn (And.intro hx hg))))))
            have hB2 : b < wr.heap.size := by have := fb.size; omega
            have hN2 : w.heap.size < wr.heap.size := by omega
            clear fb ft fr fg hsn hx hg
            go_wp2_with fail
            go_region_with (first | (go_at_call 20; refine (hlub t y _ _ ?_).out.mono ?_; (exact times_here (times_two' _ _ (by simp)) (by simp)); rintro e w1 ⟨rfl, hb⟩; have hz1 := hb.size; simp only [World.size_alloc, World.size_drew] at hz1; obtain ⟨hcc, hff⟩ := olds hb; have hf1 : Own w1 G 26 g.cells := (by refine Own.past ?_ hb (by simp; omega); repeat (first | exact HR.out.2.2.2.1 | refine own_drew ?_ | refine Own.more ?_ _)); have r0 := hf1.at_ 0; have r1 := hf1.at_ 1; have r2 := hf1.at_ 2; simp only [Tm.cells, List.getElem?_cons_zero, List.getElem?_cons_succ] at r0 r1 r2; have hf1 := Lib.hid hf1) | (go_at_call 21; refine (hglb g (lub [t, y]) _ _ ?_).out.mono ?_; (exact times_here (times_two' _ _ (by simp)) (by simp)); rintro e w2 ⟨rfl, hb2⟩; have hf2 : Own w2 G 26 g.cells := (by refine Own.past ?_ hb2 (by simp; omega); repeat (first | exact hf1.out | refine own_drew ?_ | refine Own.more ?_ _)); have s0 := hf2.open_ 0; have s1 := hf2.open_ 1; have s2 := hf2.open_ 2; have r0 := hf2.at_ 0; have r1 := hf2.at_ 1; have r2 := hf2.at_ 2; simp only [Tm.cells, List.getElem?_cons_zero, List.getElem?_cons_succ] at r0 r1 r2; have hf2 := Lib.hid hf2))
            all_goals
              go_wp2_with fail
              obtain ⟨fb, ft, fr, fg, hsn, hx, hg⟩ := HR.out
              have h1 : Below wr.heap.size wr w1 := by
                refine below_then ?_ (by simp) hb
                repeat (first | exact Below.refl _ _ | refine Below.drew ?_ | refine Below.alloc ?_ (by first | (simp; done) | (simp; omega)) _)
              have h2 : Below wr.heap.size wr w2 := by
                refine below_then ?_ (by simp) hb2
                repeat (first | exact h1 | refine Below.drew ?_ | refine Below.alloc ?_ (by first | exact h1.size | (simp; done) | (simp; omega)) _)
              go_roundw
              case rel => exact ⟨k + 1, by go_num, by omega, below_set3 (fb.trans (h2.mono fb.size)) (by omega) _ _ _, own_set3_other (ft.past h2 (by omega)) (by omega) _ _ _, own_set3_other (fr.past h2 (by omega)) (by omega) _ _ _, by rw [hsn]; exact ((hf2.out.set_ 0 _).set_ 1 _).set_ 2 _⟩
              case measure => simp [intOf]; omega
          · have hk2 : k = l.length := by omega
            have f0 := fg.at_ 0
            have f1 := fg.at_ 1
            have f2 := fg.at_ 2
            have g0 := fr.open_ 0
            have g1 := fr.open_ 1
            have g2 := fr.open_ 2
            have e0 := fr.at_ 0
            have e1 := fr.at_ 1
            have e2 := fr.at_ 2
            subst hk2
            rw [List.take_length] at *
            generalize hg : l.foldl (fun a y => Tm.inf a (t.sup y)) (t.sup x) = g at *
            obtain ⟨d0, d1, d2⟩ := fr.stored3 (.int .u64 (g.e : Int)) (.int .u64 (g.a : Int)) (.int .u64 (g.b : Int))
            have H1 := Lib.hid (And.intro hg (And.intro fb (And.intro d0 (And.intro d1 d2))))
            simp only [Tm.cells, List.getElem?_cons_zero, List.getElem?_cons_succ] at f0 f1 f2 e0 e1 e2
            clear ft fr fg fb d0 d1 d2 hg
            go_wp2_with fail
            obtain ⟨hg, hb, d0, d1, d2⟩ := H1.out
            refine bodyPost_ret (v := g.val) (by simp [results, Try.results11, go_sem, d0, d1, d2, Tm.val]) rfl ⟨congrArg (fun g : Tm => Ending.returned g.val) hg.symm, below_set3 hb (by omega) _ _ _⟩
end Go.Proofs.Ytdbdjojgccbfcaa
