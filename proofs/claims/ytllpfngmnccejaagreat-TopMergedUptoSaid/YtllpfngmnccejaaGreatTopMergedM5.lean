/- Part 5 of the texts on which TopMerged rests: facts and contracts. -/
import Derived.Test.YtllpfngmnccejaaGreatTopMergedM4
import Derived.Deep.AppendLies
import Derived.Deep.DeepCutAuto
import Derived.Handy
import Derived.Deep.DeepAppendRoom
import Derived.ArgAppend
import Derived.Shelf.SlSortCmp.NoneTotal
import Derived.BigQuiet
namespace Go.Proofs.YtllpfngmnccejaaGreat
open Go Go.RowKit
attribute [local go_sem ↓] Go.wp_at_zero Go.wp_at_succ

/-- t advanced to l -/
def adv (t : Tm) (l : List Tm) : Tm := match l with | [] => t | x :: l => l.foldl (fun a y => a.inf (t.sup y)) (t.sup x)
theorem adv_glb (t : Tm) (l : List Tm) (h : 0 < l.length) : adv t l = glb (l.map (t.sup ·)) := by
  cases l with
  | nil => simp at h
  | cons x l => simp [adv, glb, List.foldl_map]
/-- two times laid one behind the other in a block of their own -/
theorem times_two (w : World) (s t : Tm) : Times (w.alloc (.cells #[.int .u64 (s.e : Int), .int .u64 (s.a : Int), .int .u64 (s.b : Int), .int .u64 (t.e : Int), .int .u64 (t.a : Int), .int .u64 (t.b : Int)] 46)) (w.heap.size + 1) (some ⟨w.heap.size, 0, none⟩) [s, t] := by
  intro _
  refine ⟨_, _, rfl, by omega, fun i x hx => ?_⟩
  match i, hx with
  | 0, hx => obtain rfl : s = x := by simpa using hx
             exact ⟨by simp [go_sem], by simp [go_sem], by simp [go_sem]⟩
  | 1, hx => obtain rfl : t = x := by simpa using hx
             exact ⟨by simp [go_sem], by simp [go_sem], by simp [go_sem]⟩
theorem times_two' {w : World} {N : Nat} (s t : Tm) (hN : w.heap.size = N) : Times (w.alloc (.cells #[.int .u64 (s.e : Int), .int .u64 (s.a : Int), .int .u64 (s.b : Int), .int .u64 (t.e : Int), .int .u64 (t.a : Int), .int .u64 (t.b : Int)] 46)) (N + 1) (some ⟨N, 0, none⟩) [s, t] := hN ▸ times_two w s t
theorem fold_take2 {α β : Type} (f : β → α → β) (x : β) (s : α) (l : List α) (k : Nat) (h : l[k]? = some s) : (l.take (k + 1)).foldl f x = f ((l.take k).foldl f x) s := by
  rw [List.take_add_one, h, List.foldl_append]; rfl
theorem own_set3_other {w : World} {g h : Nat} {t : TypeId} {l : List Value} (o : Own w g t l) (hg : h ≠ g) (x y z : Value) : Own (((w.setCell ⟨h, 0, none⟩ x).setCell ⟨h, 1, none⟩ y).setCell ⟨h, 2, none⟩ z) g t l :=
  ((o.other (p := ⟨h, 0, none⟩) hg _).other (p := ⟨h, 1, none⟩) hg _).other (p := ⟨h, 2, none⟩) hg _
theorem own_drew {w : World} {g : Nat} {t : TypeId} {l : List Value} (o : Own w g t l) : Own w.drew g t l := o
theorem times_keep {a b : World} {A : Option Addr} {l : List Tm} (h : Times a a.heap.size A l) (hb : Below a.heap.size a b) : Times b b.heap.size A l := (h.past hb (Nat.le_refl _)).wide hb.size
theorem times_here {W : World} {B C : Nat} {A : Option Addr} {l : List Tm} (h : Times W B A l) (hB : B ≤ C) : Times W C A l := h.wide hB
theorem times_later {W : World} {o : Obj} {B C : Nat} {A : Option Addr} {l : List Tm} (h : Times W B A l) (hB : B ≤ C ∧ B ≤ W.heap.size) : Times (W.alloc o) C A l :=
  (h.past ((Below.refl _ _).alloc (Nat.le_refl _) _) hB.2).wide hB.1
theorem times_one (w : World) (s : Tm) : Times (w.alloc (.cells #[.int .u64 (s.e : Int), .int .u64 (s.a : Int), .int .u64 (s.b : Int)] 46)) (w.heap.size + 1) (some ⟨w.heap.size, 0, none⟩) [s] := by
  intro _
  refine ⟨_, _, rfl, by omega, fun i x hx => ?_⟩
  match i, hx with
  | 0, hx => obtain rfl : s = x := by simpa using hx
             exact ⟨by simp [go_sem], by simp [go_sem], by simp [go_sem]⟩

set_option maxRecDepth 100000 in
set_option maxHeartbeats 1600000 in
theorem advance_any (t : Tm) (A : Option Addr) (c : Nat) (l : List Tm) (w : World) (hl : Times w w.heap.size A l) (hc : l.length ≤ c) (hn : c ≤ maxLen) :
    Calls Tryz.prog 92 #[t.val, .slice A l.length c] w fun e w' => e = .returned (adv t l).val ∧ Below w.heap.size w w' := by
  cases l with
  | nil =>
    unfold Tm.val adv
    go_enter Tryz.func92, Tryz.ntmps92
    go_wp2_with fail
    refine bodyPost_ret (v := .agg #[.int .u64 (t.e : Int), .int .u64 (t.a : Int), .int .u64 (t.b : Int)]) (by simp [results, Tryz.results92, go_sem]) rfl ⟨rfl, ?_⟩
    exact ((Below.refl _ _).alloc (Nat.le_refl _) _).alloc (by simp) _
  | cons x l =>
    obtain ⟨b, o, rfl, hB, hl⟩ := hl (by simp)
    obtain ⟨x0, x1, x2⟩ := hl 0 x rfl
    rw [Nat.zero_mul, Nat.add_zero] at x0 x1 x2
    unfold maxLen at hn
    rw [List.length_cons] at hc ⊢
    have h10 : ((l.length : Int) + 1 == 0) = false := by simp; omega
    have hz : (0 : Int) < (l.length : Int) + 1 := by omega
    have Hl := Lib.hid hl
    clear hl
    have hglb := fun (s t : Tm) A W h => Lib.hid (glb_any A 2 [s, t] W h (by simp) (by unfold maxLen; omega))
    have hlub := fun (s t : Tm) A W h => Lib.hid (lub_any A 2 [s, t] W h (by simp) (by unfold maxLen; omega))
    unfold Tm.val at hlub hglb ⊢
    go_enter Tryz.func92, Tryz.ntmps92
    go_upto_region 3 with fail
    go_cut [5] (fun s5 wx => ∃ G : Nat, s5 = .pointer (some ⟨G, 0, none⟩) ∧ Below w.heap.size w wx ∧ Own wx w.heap.size 46 t.cells ∧ Own wx (w.heap.size + 1) 46 [.int .u64 0, .int .u64 0, .int .u64 0] ∧
        Own wx G 46 (t.sup x).cells ∧ w.heap.size + 1 < G)
    case first =>
      have f : Below w.heap.size w ((w.alloc (.cells #[.int .u64 (t.e : Int), .int .u64 (t.a : Int), .int .u64 (t.b : Int)] 46)).alloc (.cells #[.int .u64 0, .int .u64 0, .int .u64 0] 46)) ∧
          Own ((w.alloc (.cells #[.int .u64 (t.e : Int), .int .u64 (t.a : Int), .int .u64 (t.b : Int)] 46)).alloc (.cells #[.int .u64 0, .int .u64 0, .int .u64 0] 46)) w.heap.size 46 t.cells ∧
          Own ((w.alloc (.cells #[.int .u64 (t.e : Int), .int .u64 (t.a : Int), .int .u64 (t.b : Int)] 46)).alloc (.cells #[.int .u64 0, .int .u64 0, .int .u64 0] 46)) (w.heap.size + 1) 46 [.int .u64 0, .int .u64 0, .int .u64 0] :=
        ⟨((Below.refl _ _).alloc (Nat.le_refl _) _).alloc (by simp) _, by have := (Own.made w 46 t.cells).more (.cells #[.int .u64 0, .int .u64 0, .int .u64 0] 46); simpa [Tm.cells] using this, by
          have := Own.made (w.alloc (.cells #[.int .u64 (t.e : Int), .int .u64 (t.a : Int), .int .u64 (t.b : Int)] 46)) 46 [.int .u64 0, .int .u64 0, .int .u64 0]; simpa using this⟩
      generalize (w.alloc (.cells #[.int .u64 (t.e : Int), .int .u64 (t.a : Int), .int .u64 (t.b : Int)] 46)).alloc (.cells #[.int .u64 0, .int .u64 0, .int .u64 0] 46) = W at f ⊢
      obtain ⟨fb, ft, fr⟩ := f
      replace x0 := (fb.cell (p := ⟨b, o, none⟩) hB).trans x0
      replace x1 := (fb.cell (p := ⟨b, o + 1, none⟩) hB).trans x1
      replace x2 := (fb.cell (p := ⟨b, o + 2, none⟩) hB).trans x2
      have t0 := ft.at_ 0
      have t1 := ft.at_ 1
      have t2 := ft.at_ 2
      simp only [Tm.cells, List.getElem?_cons_zero, List.getElem?_cons_succ] at t0 t1 t2
      have hsz := fr.inside
      have ne1 := World.new_ne W _ x0
      have ne2 := World.new_ne W _ x1
      have ne3 := World.new_ne W _ x2
      have ne4 := World.new_ne W _ t0
      have ne5 := World.new_ne W _ t1
      have ne6 := World.new_ne W _ t2
      have HH := Lib.hid (And.intro fb (And.intro ft fr))
      have hB0 := hB
      have hBW : b < W.heap.size := by omega
      have hNW : w.heap.size < W.heap.size := by omega
      clear fb ft fr
      go_region_held3 (fun w' => w'.cell? ⟨w.heap.size, 0, none⟩ = some (.int .u64 (t.e : Int)) ∧ w'.cell? ⟨w.heap.size, 1, none⟩ = some (.int .u64 (t.a : Int)) ∧ w'.cell? ⟨w.heap.size, 2, none⟩ = some (.int .u64 (t.b : Int)) ∧
          w'.cell? ⟨b, o, none⟩ = some (.int .u64 (x.e : Int)) ∧ w'.cell? ⟨b, o + 1, none⟩ = some (.int .u64 (x.a : Int)) ∧ w'.cell? ⟨b, o + 2, none⟩ = some (.int .u64 (x.b : Int)))
        (first | go_keep | (((try dsimp only); (repeat' apply And.intro)) <;> (refine (Below.cell (w := W) (B := W.heap.size) ?_ (by first | exact hNW | exact hBW)).trans (by assumption); repeat (first | exact Below.refl _ _ | refine Below.drew ?_ | refine Below.alloc ?_ (by first | (simp; done) | (simp; omega) | (have hz := hb.size; simp at hz; simp; omega) | (have hz := hb.size; simp at hz; omega)) _ | refine Below.setCell ?_ (by first | (simp; done) | (simp; omega) | (have hz := hb.size; simp at hz; simp; omega) | (have hz := hb.size; simp at hz; omega)) _ | refine below_then ?_ (by first | (simp; done) | (simp; omega) | (have hz := hb.size; simp at hz; simp; omega) | (have hz := hb.size; simp at hz; omega)) hb))))
        (first | (go_at_call 136; refine (hlub t x _ _ ?_).out.mono ?_; (first | exact times_here (times_two' _ _ (by simp)) (by simp) | exact times_later (times_two' _ _ (by simp)) (by simp)); rintro e w1 ⟨rfl, hb⟩; obtain ⟨hcc, hff⟩ := olds hb))
      all_goals
        go_wp2_with fail
        go_meet
        have h1 : Below W.heap.size W w1 := by
          refine below_then ?_ (by simp) hb
          repeat (first | exact Below.refl _ _ | refine Below.drew ?_ | refine Below.alloc ?_ (by first | (simp; done) | (simp; omega)) _)
        obtain ⟨fb, ft, fr⟩ := HH.out
        have hbW : Below w.heap.size w w1 := fb.trans (h1.mono (by omega))
        have ft' := ft.past h1 hNW
        have fr' := fr.past h1 hsz
        have hz1 := h1.size
      · exact ⟨_, rfl, hbW.alloc hbW.size _, ft'.more _, fr'.more _, Own.made w1 _ (t.sup x).cells, by omega⟩
      · have hg : Own w1 (W.heap.size + 1) 46 [.int .u64 0, .int .u64 0, .int .u64 0] := by
          refine Own.past ?_ hb (by simp)
          have := (Own.made (W.alloc (.cells #[.int .u64 (t.e : Int), .int .u64 (t.a : Int), .int .u64 (t.b : Int), .int .u64 (x.e : Int), .int .u64 (x.a : Int), .int .u64 (x.b : Int)] 46)) 46 [.int .u64 0, .int .u64 0, .int .u64 0])
          simp only [World.size_alloc] at this
          exact this.draws 1
        exact ⟨_, rfl, below_set3 hbW (by omega) _ _ _, own_set3_other ft' (by omega) _ _ _, own_set3_other fr' (by omega) _ _ _, ((hg.set_ 0 _).set_ 1 _).set_ 2 _, by omega⟩
      · have hg : Own w1 W.heap.size 46 [.int .u64 0, .int .u64 0, .int .u64 0] := by
          refine Own.past ?_ hb (by simp; omega)
          exact ((Own.made W 46 [.int .u64 0, .int .u64 0, .int .u64 0]).more _).draws 1
        exact ⟨_, rfl, below_set3 hbW (by omega) _ _ _, own_set3_other ft' (by omega) _ _ _, own_set3_other fr' (by omega) _ _ _, ((hg.set_ 0 _).set_ 1 _).set_ 2 _, by omega⟩
    case rest =>
      obtain ⟨G, rfl, fb, ft, fr, fg, hG⟩ := hcut
      by_cases hc1 : c = 1
      · have hl0 : l = [] := List.eq_nil_of_length_eq_zero (by omega)
        subst hl0 hc1
        have f0 := fg.at_ 0
        have f1 := fg.at_ 1
        have f2 := fg.at_ 2
        have g0 := fr.open_ 0
        have g1 := fr.open_ 1
        have g2 := fr.open_ 2
        have e0 := fr.at_ 0
        have e1 := fr.at_ 1
        have e2 := fr.at_ 2
        generalize hg : t.sup x = g at *
        obtain ⟨d0, d1, d2⟩ := fr.stored3 (.int .u64 (g.e : Int)) (.int .u64 (g.a : Int)) (.int .u64 (g.b : Int))
        have H1 := Lib.hid (And.intro hg (And.intro fb (And.intro d0 (And.intro d1 d2))))
        simp only [Tm.cells, List.getElem?_cons_zero, List.getElem?_cons_succ] at f0 f1 f2 e0 e1 e2
        clear ft fr fg fb d0 d1 d2 hg
        go_wp2_with fail
        go_rounds 1
        obtain ⟨hg, hb, d0, d1, d2⟩ := H1.out
        refine bodyPost_ret (v := g.val) (by simp [results, Tryz.results92, go_sem, d0, d1, d2, Tm.val]) rfl ⟨congrArg (fun g : Tm => Ending.returned g.val) hg.symm, below_set3 hb (by omega) _ _ _⟩
      · have HH := Lib.hid (And.intro fb (And.intro ft (And.intro fr fg)))
        clear fb ft fr fg
        go_wp2_with fail
        go_loopw [21] (fun i wr => ∃ k : Nat, i = .int .i64 (k : Int) ∧ k ≤ l.length ∧ Below w.heap.size w wr ∧ Own wr w.heap.size 46 t.cells ∧ Own wr (w.heap.size + 1) 46 [.int .u64 0, .int .u64 0, .int .u64 0] ∧
            Own wr G 46 ((l.take k).foldl (fun a y => a.inf (t.sup y)) (t.sup x)).cells)
          (fun i _ => l.length - (intOf i).toNat)
        case atStart =>
          obtain ⟨fb, ft, fr, fg⟩ := HH.out
          exact ⟨0, rfl, by omega, fb, ft, fr, fg⟩
        case round =>
          obtain ⟨k, rfl, hk, fb, ft, fr, fg⟩ := hrel
          have hsz := fg.inside
          by_cases hlt : k < l.length
          · have hx : l[k]? = some l[k] := List.getElem?_eq_getElem hlt
            obtain ⟨c0, c1, c2⟩ := (Hl.out (k + 1) l[k] (by rw [List.getElem?_cons_succ]; exact hx)).past fb hB
            rw [show o + (k + 1) * 3 = o + 3 + k * 3 by omega] at c0 c1 c2
            have hsn := fold_take2 (fun a y => Tm.inf a (t.sup y)) (t.sup x) _ l k hx
            generalize l[k] = y at *
            generalize hg : (l.take k).foldl (fun a y => Tm.inf a (t.sup y)) (t.sup x) = g at *
            have t0 := ft.at_ 0
            have t1 := ft.at_ 1
            have t2 := ft.at_ 2
            have f0 := fg.at_ 0
            have f1 := fg.at_ 1
            have f2 := fg.at_ 2
            have g0 := fg.open_ 0
            have g1 := fg.open_ 1
            have g2 := fg.open_ 2
            simp only [Tm.cells, List.getElem?_cons_zero, List.getElem?_cons_succ] at t0 t1 t2 f0 f1 f2
            have HR := Lib.hid (And.intro fb (And.intro ft (And.intro fr (And.intro fg (And.intro hsn (And.intro hx hg))))))
            have hB2 : b < wr.heap.size := by have := fb.size; omega
            have hN2 : w.heap.size < wr.heap.size := by omega
            clear fb ft fr fg hsn hx hg
            go_wp2_with fail
            go_region_with (first | (go_at_call 136; refine (hlub t y _ _ ?_).out.mono ?_; (exact times_here (times_two' _ _ (by simp)) (by simp)); rintro e w1 ⟨rfl, hb⟩; have hz1 := hb.size; simp only [World.size_alloc, World.size_drew] at hz1; obtain ⟨hcc, hff⟩ := olds hb; have hf1 : Own w1 G 46 g.cells := (by refine Own.past ?_ hb (by simp; omega); repeat (first | exact HR.out.2.2.2.1 | refine own_drew ?_ | refine Own.more ?_ _)); have r0 := hf1.at_ 0; have r1 := hf1.at_ 1; have r2 := hf1.at_ 2; simp only [Tm.cells, List.getElem?_cons_zero, List.getElem?_cons_succ] at r0 r1 r2; have hf1 := Lib.hid hf1) | (go_at_call 137; refine (hglb g (lub [t, y]) _ _ ?_).out.mono ?_; (exact times_here (times_two' _ _ (by simp)) (by simp)); rintro e w2 ⟨rfl, hb2⟩; have hf2 : Own w2 G 46 g.cells := (by refine Own.past ?_ hb2 (by simp; omega); repeat (first | exact hf1.out | refine own_drew ?_ | refine Own.more ?_ _)); have s0 := hf2.open_ 0; have s1 := hf2.open_ 1; have s2 := hf2.open_ 2; have r0 := hf2.at_ 0; have r1 := hf2.at_ 1; have r2 := hf2.at_ 2; simp only [Tm.cells, List.getElem?_cons_zero, List.getElem?_cons_succ] at r0 r1 r2; have hf2 := Lib.hid hf2))
            all_goals
              go_wp2_with fail
              obtain ⟨fb, ft, fr, fg, hsn, hx, hg⟩ := HR.out
              have h1 : Below wr.heap.size wr w1 := by
                refine below_then ?_ (by simp) hb
                repeat (first | exact Below.refl _ _ | refine Below.drew ?_ | refine Below.alloc ?_ (by first | (simp; done) | (simp; omega)) _)
              have h2 : Below wr.heap.size wr w2 := by
                refine below_then ?_ (by simp) hb2
                repeat (first | exact h1 | refine Below.drew ?_ | refine Below.alloc ?_ (by first | exact h1.size | (simp; done) | (simp; omega)) _)
              go_roundw
              case rel => exact ⟨k + 1, by go_num, by omega, below_set3 (fb.trans (h2.mono fb.size)) (by omega) _ _ _, own_set3_other (ft.past h2 (by omega)) (by omega) _ _ _, own_set3_other (fr.past h2 (by omega)) (by omega) _ _ _, by rw [hsn]; exact ((hf2.out.set_ 0 _).set_ 1 _).set_ 2 _⟩
              case measure => simp [intOf]; omega
          · have hk2 : k = l.length := by omega
            have f0 := fg.at_ 0
            have f1 := fg.at_ 1
            have f2 := fg.at_ 2
            have g0 := fr.open_ 0
            have g1 := fr.open_ 1
            have g2 := fr.open_ 2
            have e0 := fr.at_ 0
            have e1 := fr.at_ 1
            have e2 := fr.at_ 2
            subst hk2
            rw [List.take_length] at *
            generalize hg : l.foldl (fun a y => Tm.inf a (t.sup y)) (t.sup x) = g at *
            obtain ⟨d0, d1, d2⟩ := fr.stored3 (.int .u64 (g.e : Int)) (.int .u64 (g.a : Int)) (.int .u64 (g.b : Int))
            have H1 := Lib.hid (And.intro hg (And.intro fb (And.intro d0 (And.intro d1 d2))))
            simp only [Tm.cells, List.getElem?_cons_zero, List.getElem?_cons_succ] at f0 f1 f2 e0 e1 e2
            clear ft fr fg fb d0 d1 d2 hg
            go_wp2_with fail
            obtain ⟨hg, hb, d0, d1, d2⟩ := H1.out
            refine bodyPost_ret (v := g.val) (by simp [results, Tryz.results92, go_sem, d0, d1, d2, Tm.val]) rfl ⟨congrArg (fun g : Tm => Ending.returned g.val) hg.symm, below_set3 hb (by omega) _ _ _⟩
end Go.Proofs.YtllpfngmnccejaaGreat
namespace Go.Proofs.YtllpfngmnccejaaGreat
open Go Go.RowKit

theorem infoTm : (Tryz.prog.info? 46).map (fun i => (i.zero, i.size, i.bytes)) = some (some (Tm.mk 0 0 0).val, 3, 24) := by kernel_rfl
theorem flat_at : ∀ (l : List Tm) (i : Nat) (t : Tm), l[i]? = some t → (l.flatMap Tm.cells)[i * 3]? = some (.int .u64 (t.e : Int)) ∧ (l.flatMap Tm.cells)[i * 3 + 1]? = some (.int .u64 (t.a : Int)) ∧ (l.flatMap Tm.cells)[i * 3 + 2]? = some (.int .u64 (t.b : Int))
  | [], i, t, h => by simp at h
  | x :: l, 0, t, h => by
    obtain rfl : x = t := by simpa using h
    simp [Tm.cells]
  | x :: l, i + 1, t, h => by
    have ih := flat_at l i t (by simpa using h)
    simp only [List.flatMap_cons, Tm.cells, show (i + 1) * 3 = i * 3 + 3 by omega, show i * 3 + 3 + 1 = i * 3 + 1 + 3 by omega, show i * 3 + 3 + 2 = i * 3 + 2 + 3 by omega]
    simpa using ih
theorem flat_len (l : List Tm) : (l.flatMap Tm.cells).length = l.length * 3 := by
  induction l with
  | nil => rfl
  | cons x l ih => rw [List.flatMap_cons, List.length_append, ih, List.length_cons]; simp [Tm.cells]; omega
theorem flatT_snoc (l : List Tm) (t : Tm) : l.flatMap Tm.cells ++ #[Value.int .u64 (t.e : Int), .int .u64 (t.a : Int), .int .u64 (t.b : Int)].toList = (l ++ [t]).flatMap Tm.cells := by
  simp [Tm.cells]
theorem times_of_own {w : World} {base : Nat} {v : Value} {l : List Tm} {n : Nat} (hn : n = l.length) (h : w.ownsRow base 46 3 v n (l.flatMap Tm.cells)) :
    ∃ A c, v = .slice A l.length c ∧ l.length ≤ c ∧ c ≤ maxLen ∧ Times w w.heap.size A l := by
  subst hn
  rcases h.2 with ⟨rfl, h0⟩ | ⟨g, cap, cur, rfl, hb, hg, h1, h2, h3, h4⟩
  · exact ⟨none, 0, by rw [h0], by omega, by omega, fun h => by omega⟩
  · refine ⟨_, cap, rfl, h1, h2, fun _ => ⟨g, 0, rfl, (Array.getElem?_eq_some_iff.1 hg).1, fun i t hi => ?_⟩⟩
    have hil : i < l.length := (List.getElem?_eq_some_iff.1 hi).1
    obtain ⟨a0, a1, a2⟩ := flat_at l i t hi
    have hc : ∀ j, j < l.length * 3 → w.cell? ⟨g, 0 + j, none⟩ = (l.flatMap Tm.cells)[j]? := fun j hj => by rw [Nat.zero_add]; exact h.cellAt j hj
    exact ⟨(hc _ (by omega)).trans a0, by rw [Nat.add_assoc]; exact (hc _ (by omega)).trans a1, by rw [Nat.add_assoc]; exact (hc _ (by omega)).trans a2⟩
end Go.Proofs.YtllpfngmnccejaaGreat
namespace Go.Proofs.YtllpfngmnccejaaGreat
open Go Go.RowKit

theorem tcells_one (t : Tm) : ∀ v ∈ t.cells, v.oneCell' = true := by
  intro v hv
  simp only [Tm.cells, List.mem_cons, List.not_mem_nil, or_false] at hv
  rcases hv with rfl | rfl | rfl <;> rfl
theorem lies_times {w : World} {B : Nat} {A : Option Addr} {l : List Tm} (h : Times w B A l) : Lies 3 Tm.cells w B A l := fun hp => by
  obtain ⟨b, o, e, hb, hc⟩ := h hp
  refine ⟨b, o, e, hb, fun i t hi j u hj => ?_⟩
  obtain ⟨a0, a1, a2⟩ := hc i t hi
  match j, hj with
  | 0, hj => rw [← hj]; exact a0
  | 1, hj => rw [← hj]; exact a1
  | 2, hj => rw [← hj]; exact a2
theorem times_lies {w : World} {B : Nat} {A : Option Addr} {l : List Tm} (h : Lies 3 Tm.cells w B A l) : Times w B A l := fun hp => by
  obtain ⟨b, o, e, hb, hc⟩ := h hp
  exact ⟨b, o, e, hb, fun i t hi => ⟨hc i t hi 0 _ rfl, hc i t hi 1 _ rfl, hc i t hi 2 _ rfl⟩⟩
/-- a block known whole reads as its list -/
theorem lies_owned {α : Type} {size : Nat} {cells : α → List Value} {w : World} {g : Nat} {t : TypeId} {l : List α} (hcl : ∀ x, (cells x).length = size) (h : Own w g t (l.flatMap cells)) : Lies size cells w w.heap.size (some ⟨g, 0, none⟩) l := fun _ =>
  ⟨g, 0, rfl, h.inside, fun i x hi j u hj => by rw [Nat.zero_add, h.at_]; exact flat_of hcl l i j x u hi hj⟩

set_option maxRecDepth 100000 in
set_option maxHeartbeats 3200000 in
theorem listU_any (A : Option Addr) (c : Nat) (l : List Up) (w : World) (hl : Lies 6 Up.cells w w.heap.size A l) (hn : l.length * 80 ≤ 140737488355328) :
    Calls Tryz.prog 86 #[.slice A l.length c] w fun x w' => ∃ A', x = .returned (.slice A' l.length l.length) ∧ (l = [] → A' = none ∧ w' = w) ∧ (0 < l.length → A' = some ⟨w.heap.size, 0, none⟩ ∧ Own w' w.heap.size 48 (l.flatMap Up.cells)) ∧ Below w.heap.size w w' := by
  obtain ⟨i0, hi, hz0, hz1, hz2⟩ := info_parts infoUp
  have hU := Tryz.underlying22
  have hsz1 : (Tryz.prog.info? 48).map (·.size) = some 6 := by rw [hi]; simp [hz1]
  cases l with
  | nil =>
    clear hl hn hi hz0 hz1 hz2 hU hsz1
    go_enter Tryz.func86, Tryz.ntmps86
    go_wp2_with fail
    go_ret
    exact ⟨none, rfl, fun _ => ⟨rfl, rfl⟩, fun h => absurd h (by simp), Below.refl _ _⟩
  | cons t l =>
    obtain ⟨b, o, rfl, hB, hc⟩ := hl (by simp)
    obtain ⟨m, hm⟩ : ∃ m, m = t :: l := ⟨_, rfl⟩
    have hpos : 0 < m.length := by rw [hm]; simp
    have hne : m ≠ [] := by rw [hm]; simp
    rw [← hm] at hc hn ⊢
    have t1 : ((m.length : Int) == 0) = false := beq_eq_false_iff_ne.2 (by omega)
    have HC := Lib.hid hc
    have HNE := Lib.hid hne
    clear hc hm hl hne
    go_enter Tryz.func86, Tryz.ntmps86
    go_wp2_with (refine wpList_make_full _ rfl (.tmp 8) (.tmp 8) 22 rfl w.heap.size 48 i0 _ 6 hU hi hz0 hz1 .i64 .i64 _ _ m.length rfl rfl rfl rfl ?c1 ?c2 ?c3 ?_)
    case c1 => rw [hz2]; omega
    case c2 => unfold maxLen; omega
    case c3 => exact Nat.le_refl _
    intro w1 ho1 hg1
    obtain ⟨cur, ho1⟩ : ∃ cur, w1.ownsRow w.heap.size 48 6 (.slice (some ⟨w.heap.size, 0, none⟩) m.length m.length) m.length cur := ⟨_, ho1⟩
    have hm1 := own_made ho1
    have hb1 : Below w.heap.size w w1 := (Below.refl _ _).grown hg1 (Nat.le_refl _) (fun k h => by cases h)
    have hlen1 : cur.length = m.length * 6 := ho1.1
    have hcl : (m.flatMap Up.cells).length = m.length * 6 := flat_size (size := 6) (cells := Up.cells) (fun _ => rfl) m
    have hsrc : ∀ j v, (m.flatMap Up.cells)[j]? = some v → w1.cell? ((⟨b, o, none⟩ : Addr).add j) = some v := fun j v hv => by
      obtain ⟨i, r, x, rfl, hx, hr⟩ := flat_back (size := 6) (cells := Up.cells) (by decide) (fun _ => rfl) m j v hv
      have ea : (⟨b, o, none⟩ : Addr).add (i * 6 + r) = ⟨b, o + i * 6 + r, none⟩ := by unfold Addr.add; split <;> simp_all <;> omega
      rw [ea, hb1.cell (p := ⟨b, o + i * 6 + r, none⟩) hB]
      exact HC.out i x hx r v hr
    have hrun := fun ty => run_copy_all (P := Tryz.prog) w1 22 22 ty 48 w.heap.size m.length m.length c 6 ⟨b, o, none⟩ cur (m.flatMap Up.cells) 48 hU hsz1 hm1 hcl hsrc (by rw [hcl, hlen1]) (fun v hv => by
      obtain ⟨x, _, hx⟩ := List.mem_flatMap.1 hv
      exact ucells_one x v hx)
    have ho2 : Own (w1.setRow w.heap.size (m.flatMap Up.cells).toArray) w.heap.size 48 (m.flatMap Up.cells) := own_setRow hm1
    have hb2 : Below w.heap.size w (w1.setRow w.heap.size (m.flatMap Up.cells).toArray) := below_setRow hb1 (Nat.le_refl _) _
    have HR := Lib.hid hrun
    obtain ⟨w2, hw2⟩ : ∃ w2, w2 = w1.setRow w.heap.size (m.flatMap Up.cells).toArray := ⟨_, rfl⟩
    rw [← hw2] at HR ho2 hb2
    have H2 := Lib.hid (And.intro ho2 hb2)
    clear hw2 hrun ho2 hb2 hsrc hcl hm1 hb1 hlen1 ho1 hg1 hU hsz1 hi hz0 hz1 hz2
    go_wp2_with (refine Lib.wpList_copy_run _ rfl _ _ 22 22 rfl _ _ rfl rfl (HR.out _) ?_)
    go_wp2_with fail
    go_ret
    exact ⟨_, rfl, fun h => absurd h HNE.out, fun _ => ⟨rfl, H2.out.1⟩, H2.out.2⟩

set_option maxRecDepth 100000 in
set_option maxHeartbeats 3200000 in
theorem listT_any (A : Option Addr) (c : Nat) (l : List Tm) (w : World) (hl : Lies 3 Tm.cells w w.heap.size A l) (hn : l.length * 24 ≤ 140737488355328) :
    Calls Tryz.prog 39 #[.slice A l.length c] w fun x w' => ∃ A', x = .returned (.slice A' l.length l.length) ∧ (l = [] → A' = none ∧ w' = w) ∧ (0 < l.length → A' = some ⟨w.heap.size, 0, none⟩ ∧ Own w' w.heap.size 46 (l.flatMap Tm.cells)) ∧ Below w.heap.size w w' := by
  obtain ⟨i0, hi, hz0, hz1, hz2⟩ := info_parts infoTm
  have hU := Tryz.underlying23
  have hsz1 : (Tryz.prog.info? 46).map (·.size) = some 3 := by rw [hi]; simp [hz1]
  cases l with
  | nil =>
    clear hl hn hi hz0 hz1 hz2 hU hsz1
    go_enter Tryz.func39, Tryz.ntmps39
    go_wp2_with fail
    go_ret
    exact ⟨none, rfl, fun _ => ⟨rfl, rfl⟩, fun h => absurd h (by simp), Below.refl _ _⟩
  | cons t l =>
    obtain ⟨b, o, rfl, hB, hc⟩ := hl (by simp)
    obtain ⟨m, hm⟩ : ∃ m, m = t :: l := ⟨_, rfl⟩
    have hpos : 0 < m.length := by rw [hm]; simp
    have hne : m ≠ [] := by rw [hm]; simp
    rw [← hm] at hc hn ⊢
    have t1 : ((m.length : Int) == 0) = false := beq_eq_false_iff_ne.2 (by omega)
    have HC := Lib.hid hc
    have HNE := Lib.hid hne
    clear hc hm hl hne
    go_enter Tryz.func39, Tryz.ntmps39
    go_wp2_with (refine wpList_make_full _ rfl (.tmp 8) (.tmp 8) 23 rfl w.heap.size 46 i0 _ 3 hU hi hz0 hz1 .i64 .i64 _ _ m.length rfl rfl rfl rfl ?c1 ?c2 ?c3 ?_)
    case c1 => rw [hz2]; omega
    case c2 => unfold maxLen; omega
    case c3 => exact Nat.le_refl _
    intro w1 ho1 hg1
    obtain ⟨cur, ho1⟩ : ∃ cur, w1.ownsRow w.heap.size 46 3 (.slice (some ⟨w.heap.size, 0, none⟩) m.length m.length) m.length cur := ⟨_, ho1⟩
    have hm1 := own_made ho1
    have hb1 : Below w.heap.size w w1 := (Below.refl _ _).grown hg1 (Nat.le_refl _) (fun k h => by cases h)
    have hlen1 : cur.length = m.length * 3 := ho1.1
    have hcl : (m.flatMap Tm.cells).length = m.length * 3 := flat_size (size := 3) (cells := Tm.cells) (fun _ => rfl) m
    have hsrc : ∀ j v, (m.flatMap Tm.cells)[j]? = some v → w1.cell? ((⟨b, o, none⟩ : Addr).add j) = some v := fun j v hv => by
      obtain ⟨i, r, x, rfl, hx, hr⟩ := flat_back (size := 3) (cells := Tm.cells) (by decide) (fun _ => rfl) m j v hv
      have ea : (⟨b, o, none⟩ : Addr).add (i * 3 + r) = ⟨b, o + i * 3 + r, none⟩ := by unfold Addr.add; split <;> simp_all <;> omega
      rw [ea, hb1.cell (p := ⟨b, o + i * 3 + r, none⟩) hB]
      exact HC.out i x hx r v hr
    have hrun := fun ty => run_copy_all (P := Tryz.prog) w1 23 23 ty 46 w.heap.size m.length m.length c 3 ⟨b, o, none⟩ cur (m.flatMap Tm.cells) 46 hU hsz1 hm1 hcl hsrc (by rw [hcl, hlen1]) (fun v hv => by
      obtain ⟨x, _, hx⟩ := List.mem_flatMap.1 hv
      exact tcells_one x v hx)
    have ho2 : Own (w1.setRow w.heap.size (m.flatMap Tm.cells).toArray) w.heap.size 46 (m.flatMap Tm.cells) := own_setRow hm1
    have hb2 : Below w.heap.size w (w1.setRow w.heap.size (m.flatMap Tm.cells).toArray) := below_setRow hb1 (Nat.le_refl _) _
    have HR := Lib.hid hrun
    obtain ⟨w2, hw2⟩ : ∃ w2, w2 = w1.setRow w.heap.size (m.flatMap Tm.cells).toArray := ⟨_, rfl⟩
    rw [← hw2] at HR ho2 hb2
    have H2 := Lib.hid (And.intro ho2 hb2)
    clear hw2 hrun ho2 hb2 hsrc hcl hm1 hb1 hlen1 ho1 hg1 hU hsz1 hi hz0 hz1 hz2
    go_wp2_with (refine Lib.wpList_copy_run _ rfl _ _ 23 23 rfl _ _ rfl rfl (HR.out _) ?_)
    go_wp2_with fail
    go_ret
    exact ⟨_, rfl, fun h => absurd h HNE.out, fun _ => ⟨rfl, H2.out.1⟩, H2.out.2⟩
/-- a copy of times reads as them -/
theorem listT_times (A : Option Addr) (c : Nat) (l : List Tm) (w : World) (hl : Times w w.heap.size A l) (hn : l.length * 24 ≤ 140737488355328) :
    Calls Tryz.prog 39 #[.slice A l.length c] w fun x w' => ∃ A', x = .returned (.slice A' l.length l.length) ∧ Times w' w'.heap.size A' l ∧ (∀ b o, A' = some ⟨b, o, none⟩ → w.heap.size ≤ b ∧ b < w'.heap.size) ∧ Below w.heap.size w w' :=
  (listT_any A c l w (lies_times hl) hn).mono fun x w' ⟨A', h1, h2, h3, h4⟩ => by
    refine ⟨A', h1, ?_, ?_, h4⟩
    · intro hp
      obtain ⟨rfl, ho⟩ := h3 hp
      exact times_lies (lies_owned (fun _ => rfl) ho) hp
    · intro b o e
      by_cases hp : 0 < l.length
      · obtain ⟨rfl, ho⟩ := h3 hp
        simp only [Option.some.injEq, Addr.mk.injEq, and_true] at e
        have := ho.inside
        omega
      · obtain ⟨rfl, _⟩ := h2 (List.eq_nil_of_length_eq_zero (by omega))
        cases e
end Go.Proofs.YtllpfngmnccejaaGreat
namespace Go.Proofs.YtllpfngmnccejaaGreat
open Go Go.RowKit

/-- the cells of a list that lies, one by one -/
theorem lies_cells {α : Type} {size : Nat} {cells : α → List Value} {w : World} {B b o : Nat} {l : List α} (hpos : 0 < size) (hcl : ∀ x, (cells x).length = size) (h : Lies size cells w B (some ⟨b, o, none⟩) l) : ∀ j u, (l.flatMap cells)[j]? = some u → w.cell? ((⟨b, o, none⟩ : Addr).add j) = some u := fun j u hu => by
  obtain ⟨i, r, y, rfl, hi, hr⟩ := flat_back hpos hcl l j u hu
  obtain ⟨b', o', e, _, hc⟩ := h (by have := (List.getElem?_eq_some_iff.1 hi).1; omega)
  simp only [Option.some.injEq, Addr.mk.injEq, and_true] at e
  obtain ⟨rfl, rfl⟩ := e
  have ea : (⟨b, o, none⟩ : Addr).add (i * size + r) = ⟨b, o + i * size + r, none⟩ := by unfold Addr.add; split <;> simp_all <;> omega
  rw [ea]
  exact hc i y hi r u hr
/-- the second type is asked for its kind alone -/
theorem append_types {P : Program} (w : World) {t tx ty e e' : TypeId} {i : TypeInfo} (ht : P.underlying t = some (.slice e)) (htx : P.underlying tx = some (.slice e')) (hi : P.info? e = some i) (ad : Option Addr) (n cap : Nat) (x : Value) : (Builtin.append_ #[t, tx] ty #[.slice ad n cap, x]).run P w = (Builtin.append_ #[t, t] ty #[.slice ad n cap, x]).run P w := by
  simp [Builtin.append_, run_underlying ht, run_underlying htx, sizeOf, typeInfo, hi]
/-- 'append(v, s...)' where there is room -/
theorem wpList_append_room {P : Program} (w : World) {ops : Array Oper} {rest : List Oper} {o : Oper} {a : Act} {Q : Exit → Act → World → Prop} (hgd : o.guard = none) (s x : Operand) (t tx e e' : TypeId)
    (ho : o.op = .call { callee := .builtin .append, args := #[s, x], argTypes := #[t, tx] }) (i0 : TypeInfo) (size : Nat) (ht : P.underlying t = some (.slice e)) (htx : P.underlying tx = some (.slice e')) (hi : P.info? e = some i0) (hsz : i0.size = size)
    (base g n cap m c b off : Nat) (xs cs : List Value) (hown : w.ownsRow base e size (.slice (some ⟨g, 0, none⟩) n cap) n xs) (hs : a.eval s = .slice (some ⟨g, 0, none⟩) n cap) (hx : a.eval x = .slice (some ⟨b, off, none⟩) m c) (hcs : cs.length = m * size) (hroom : n + m ≤ cap)
    (hsrc : ∀ j v, cs[j]? = some v → w.cell? ((⟨b, off, none⟩ : Addr).add j) = some v) (h1 : ∀ v ∈ cs, v.oneCell' = true)
    (h : ∀ w', w'.ownsRow base e size (.slice (some ⟨g, 0, none⟩) (n + m) cap) (n + m) (xs ++ cs) → w.grownBy w' (some g) → wpList P ops Q rest (a.put o.dst (.slice (some ⟨g, 0, none⟩) (n + m) cap)) w') :
    wpList P ops Q (o :: rest) a w := by
  obtain ⟨X, hrun, hB, hG⟩ := run_append_own_spare (P := P) w base t o.type e i0 size ht hi hsz g n cap xs hown ⟨b, off, none⟩ m c cs hcs hsrc h1 hroom
  refine wpList_plain hgd fun K hK => ?_
  unfold Oper.wp execOp
  simp only [ho, resolve, invoke, builtin, Sem.run_bind, Sem.run_pure, Result.andThen_ok, List.map_toArray, List.map_cons, List.map_nil, hs, hx, append_types w ht htx hi, hrun]
  exact hK _ _ (h X hB hG)
/-- 'append(v, s...)', v without room and not the call's own: a new row -/
theorem wpList_append_over {P : Program} (w : World) {ops : Array Oper} {rest : List Oper} {o : Oper} {a : Act} {Q : Exit → Act → World → Prop} (hgd : o.guard = none) (s x : Operand) (t e : TypeId)
    (ho : o.op = .call { callee := .builtin .append, args := #[s, x], argTypes := #[t, t] }) (i0 : TypeInfo) (z : Value) (size bytes : Nat) (ht : P.underlying t = some (.slice e)) (hi : P.info? e = some i0) (hz0 : i0.zero = some z) (hsz : i0.size = size) (hby : i0.bytes = bytes) (hzs : z.cells.size = size) (hpos : 0 < size)
    (b off n cap b' off' m c : Nat) (xs cs : List Value) (hs : a.eval s = .slice (some ⟨b, off, none⟩) n cap) (hx : a.eval x = .slice (some ⟨b', off', none⟩) m c) (hxl : xs.length = n * size) (hxs : ∀ j v, xs[j]? = some v → w.cell? ((⟨b, off, none⟩ : Addr).add j) = some v)
    (hcs : cs.length = m * size) (hsrc : ∀ j v, cs[j]? = some v → w.cell? ((⟨b', off', none⟩ : Addr).add j) = some v) (hroom : cap < n + m) (h63 : n + m ≤ maxLen) (hbytes : (n + m) * bytes ≤ 140737488355328)
    (h : ∀ v' w', w'.ownsRow w.heap.size e size v' (n + m) (xs ++ cs) → Below w.heap.size w w' → wpList P ops Q rest (a.put o.dst v') w') :
    wpList P ops Q (o :: rest) a w := by
  obtain ⟨v', X, hrun, hB, hG⟩ := run_append_arg_grows (P := P) w t o.type e i0 z size bytes ht hi hz0 hsz hby hzs hpos ⟨b, off, none⟩ n cap xs hxl hxs ⟨b', off', none⟩ m c cs hcs hsrc hroom h63 hbytes
  refine wpList_plain hgd fun K hK => ?_
  unfold Oper.wp execOp
  simp only [ho, resolve, invoke, builtin, Sem.run_bind, Sem.run_pure, Result.andThen_ok, List.map_toArray, List.map_cons, List.map_nil, hs, hx, hrun]
  exact hK _ _ (h v' X hB ((Below.refl _ _).grown hG (Nat.le_refl _) (fun k h => by cases h)))
end Go.Proofs.YtllpfngmnccejaaGreat
namespace Go.Proofs.YtllpfngmnccejaaGreat
open Go Go.RowKit Go.Sort Go.Lib

theorem ltT (x y : Tm) : ltOf Tm.cmp x y = decide (x.e < y.e ∨ x.e = y.e ∧ (x.a < y.a ∨ x.a = y.a ∧ x.b < y.b)) := by
  unfold ltOf Tm.cmp Tm.cmpN
  rw [decide_eq_decide]
  repeat' split
  all_goals omega
theorem swoT : SWO (ltOf Tm.cmp) where
  irrefl x := by rw [ltT]; simp
  trans x y z h1 h2 := by rw [ltT] at *; simp at *; omega
  ntrans x y z h1 h2 := by rw [ltT] at *; simp at *; omega
theorem totT (x y : Tm) (h1 : ltOf Tm.cmp x y = false) (h2 : ltOf Tm.cmp y x = false) : x = y := by
  rw [ltT] at *
  simp at *
  obtain ⟨a, b, c⟩ := x
  obtain ⟨d, e, f⟩ := y
  simp at *
  omega
/-- sorted in the line of times -/
def sortT (l : List Tm) : List Tm := l.mergeSort fun x y => !(ltOf Tm.cmp) y x
theorem sortT_len (l : List Tm) : (sortT l).length = l.length := List.length_mergeSort _
theorem mem_sortT {l : List Tm} {t : Tm} : t ∈ sortT l ↔ t ∈ l := List.mem_mergeSort
theorem sortT_sorted (l : List Tm) : (sortT l).Pairwise fun x y => ltOf Tm.cmp y x = false := by
  have h := List.pairwise_mergeSort (le := fun x y => !(ltOf Tm.cmp) y x) (fun a b c h1 h2 => by
    simp only [Bool.not_eq_true'] at *; exact swoT.ntrans _ _ _ h2 h1) (fun a b => by
    simp only [Bool.or_eq_true, Bool.not_eq_true', ltT]; simp; omega) l
  exact h.imp fun h => by simpa using h
end Go.Proofs.YtllpfngmnccejaaGreat
namespace Go.Proofs.YtllpfngmnccejaaGreat
open Go Go.RowKit

set_option maxRecDepth 100000 in
set_option maxHeartbeats 800000 in
theorem refAhead_any (s t : Tm) (w : World) :
    Calls Tryz.prog 135 #[s.val, t.val] w fun e w' => e = .returned (.bool (s.le t)) ∧ Below w.heap.size w w' := by
  obtain ⟨a, b, c⟩ := s
  obtain ⟨x, y, z⟩ := t
  unfold Tm.val Tm.le
  dsimp only
  have i0 : ∀ w, (Instr.index 44 (.agg #[.int .u64 (b : Int), .int .u64 (c : Int)]) (.int .i64 0)).run Tryz.prog w = .ok (.int .u64 (b : Int)) w := fun _ => by kernel_rfl
  have i1 : ∀ w, (Instr.index 44 (.agg #[.int .u64 (b : Int), .int .u64 (c : Int)]) (.int .i64 1)).run Tryz.prog w = .ok (.int .u64 (c : Int)) w := fun _ => by kernel_rfl
  have hB := fun (o1 o2 : Obj) => (((Below.refl w.heap.size w).alloc (Nat.le_refl _) o1).alloc (by simp) o2)
  have HB := Lib.hid hB
  clear hB
  go_enter Tryz.func135, Tryz.ntmps135
  go_wp2_with fail
  go_rounds 3
  all_goals
    go_ret
    refine ⟨ret_bool ?_, HB.out _ _⟩
    rw [Bool.eq_iff_iff]; simp only [Bool.and_eq_true, decide_eq_true_eq, Bool.false_eq_true, true_iff, false_iff, iff_true, iff_false]; omega
end Go.Proofs.YtllpfngmnccejaaGreat
namespace Go.Proofs.YtllpfngmnccejaaGreat
open Go Go.RowKit

/-- one of l is ahead of t -/
def beyond (l : List Tm) (t : Tm) : Bool := l.any (·.le t)
theorem beyond_snoc {l : List Tm} {t s : Tm} {k : Nat} (h : l[k]? = some s) : beyond (l.take (k + 1)) t = (beyond (l.take k) t || s.le t) := by
  unfold beyond
  rw [List.take_add_one, h]
  simp
theorem beyond_hit {l : List Tm} {t s : Tm} {k : Nat} (h : l[k]? = some s) (hs : s.le t = true) : beyond l t = true := by
  unfold beyond
  rw [List.any_eq_true]
  exact ⟨s, List.mem_of_getElem? h, hs⟩

set_option maxRecDepth 100000 in
set_option maxHeartbeats 800000 in
theorem beyond_any (A : Option Addr) (c : Nat) (l : List Tm) (t : Tm) (w : World) (hl : Times w w.heap.size A l) (hn : l.length ≤ maxLen) :
    Calls Tryz.prog 84 #[.slice A l.length c, t.val] w fun e w' => e = .returned (.bool (beyond l t)) ∧ Below w.heap.size w w' := by
  unfold maxLen at hn
  have hcall := fun (s : Tm) (W : World) => Lib.hid (ahead_any s t W)
  unfold Tm.val at hcall ⊢
  have Hl := Lib.hid hl
  clear hl
  go_enter Tryz.func84, Tryz.ntmps84
  go_wp2_with fail
  go_loopw [9] (fun i wr => ∃ k : Nat, i = .int .i64 (k : Int) ∧ k ≤ l.length ∧ beyond (l.take k) t = false ∧ Below w.heap.size w wr ∧ w.heap.size < wr.heap.size ∧ TmAt wr w.heap.size 0 t)
    (fun i _ => l.length - (intOf i).toNat)
  case atStart =>
    exact ⟨0, rfl, by omega, rfl, (Below.refl _ _).alloc (Nat.le_refl _) _, by simp, by simp [TmAt, go_sem]⟩
  case round =>
    obtain ⟨k, rfl, hk, hno, hb, hs, ht⟩ := hrel
    obtain ⟨t0, t1, t2⟩ := ht
    by_cases hlt : k < l.length
    · have hx : l[k]? = some l[k] := List.getElem?_eq_getElem hlt
      obtain ⟨b, o, rfl, hB, hc⟩ := Hl.out (by omega)
      obtain ⟨c0, c1, c2⟩ := (hc k _ hx).past hb hB
      have hsn := beyond_snoc (t := t) hx
      have hhit := fun h => beyond_hit (t := t) hx h
      generalize l[k] = s at *
      have hbs : b < w.heap.size := hB
      have HH := Lib.hid (And.intro hno (And.intro hsn (And.intro hhit (And.intro hx (And.intro hb (And.intro t0 (And.intro t1 t2)))))))
      clear hno hsn hhit hx hc hB hb
      by_cases hle : s.le t = true
      · have hcall := fun W => hcall s W
        simp only [hle] at hcall
        have HL := Lib.hid hle
        clear hle
        go_wp2_with fail
        refine (hcall _).out.mono ?_
        rintro e w1 ⟨rfl, h1⟩
        go_wp2_with fail
        go_ret
        obtain ⟨hno, hsn, hhit, hx, hb, t0, t1, t2⟩ := HH.out
        exact ⟨ret_bool (hhit HL.out).symm, hb.trans (((Below.refl _ _).alloc (by omega) _).trans (h1.mono (by simp; omega)))⟩
      · have hle : s.le t = false := by simpa using hle
        have hcall := fun W => hcall s W
        simp only [hle] at hcall
        have HL := Lib.hid hle
        clear hle
        go_wp2_with fail
        refine (hcall _).out.mono ?_
        rintro e w1 ⟨rfl, h1⟩
        go_wp2_with fail
        obtain ⟨hno, hsn, hhit, hx, hb, t0, t1, t2⟩ := HH.out
        have h2 : Below w.heap.size w w1 := hb.trans (((Below.refl _ _).alloc (by omega) _).trans (h1.mono (by simp; omega)))
        have h3 : Below wr.heap.size wr w1 := ((Below.refl _ _).alloc (Nat.le_refl _) _).trans (h1.mono (by simp))
        go_roundw
        case rel => exact ⟨k + 1, by go_num, by omega, by rw [hsn, hno, HL.out]; rfl, h2, by have := h3.size; omega, (TmAt.past ⟨t0, t1, t2⟩ h3 hs)⟩
        case measure => simp [intOf]; omega
    · have hk2 : k = l.length := by omega
      have HH := Lib.hid (And.intro hno (And.intro hb hk2))
      clear hno hb hk2
      go_wp2_with fail
      go_ret
      obtain ⟨hno, hb, rfl⟩ := HH.out
      exact ⟨ret_bool (by rw [← hno]; simp), hb⟩

set_option maxRecDepth 100000 in
set_option maxHeartbeats 800000 in
theorem refBeyond_any (A : Option Addr) (c : Nat) (l : List Tm) (t : Tm) (w : World) (hl : Times w w.heap.size A l) (hn : l.length ≤ maxLen) :
    Calls Tryz.prog 90 #[.slice A l.length c, t.val] w fun e w' => e = .returned (.bool (beyond l t)) ∧ Below w.heap.size w w' := by
  unfold maxLen at hn
  have hcall := fun (s : Tm) (W : World) => Lib.hid (refAhead_any s t W)
  unfold Tm.val at hcall ⊢
  have Hl := Lib.hid hl
  clear hl
  go_enter Tryz.func90, Tryz.ntmps90
  go_wp2_with fail
  go_loopw [9] (fun i wr => ∃ k : Nat, i = .int .i64 (k : Int) ∧ k ≤ l.length ∧ beyond (l.take k) t = false ∧ Below w.heap.size w wr ∧ w.heap.size < wr.heap.size ∧ TmAt wr w.heap.size 0 t)
    (fun i _ => l.length - (intOf i).toNat)
  case atStart =>
    exact ⟨0, rfl, by omega, rfl, (Below.refl _ _).alloc (Nat.le_refl _) _, by simp, by simp [TmAt, go_sem]⟩
  case round =>
    obtain ⟨k, rfl, hk, hno, hb, hs, ht⟩ := hrel
    obtain ⟨t0, t1, t2⟩ := ht
    by_cases hlt : k < l.length
    · have hx : l[k]? = some l[k] := List.getElem?_eq_getElem hlt
      obtain ⟨b, o, rfl, hB, hc⟩ := Hl.out (by omega)
      obtain ⟨c0, c1, c2⟩ := (hc k _ hx).past hb hB
      have hsn := beyond_snoc (t := t) hx
      have hhit := fun h => beyond_hit (t := t) hx h
      generalize l[k] = s at *
      have hbs : b < w.heap.size := hB
      have HH := Lib.hid (And.intro hno (And.intro hsn (And.intro hhit (And.intro hx (And.intro hb (And.intro t0 (And.intro t1 t2)))))))
      clear hno hsn hhit hx hc hB hb
      by_cases hle : s.le t = true
      · have hcall := fun W => hcall s W
        simp only [hle] at hcall
        have HL := Lib.hid hle
        clear hle
        go_wp2_with fail
        refine (hcall _).out.mono ?_
        rintro e w1 ⟨rfl, h1⟩
        go_wp2_with fail
        go_ret
        obtain ⟨hno, hsn, hhit, hx, hb, t0, t1, t2⟩ := HH.out
        exact ⟨ret_bool (hhit HL.out).symm, hb.trans (((Below.refl _ _).alloc (by omega) _).trans (h1.mono (by simp; omega)))⟩
      · have hle : s.le t = false := by simpa using hle
        have hcall := fun W => hcall s W
        simp only [hle] at hcall
        have HL := Lib.hid hle
        clear hle
        go_wp2_with fail
        refine (hcall _).out.mono ?_
        rintro e w1 ⟨rfl, h1⟩
        go_wp2_with fail
        obtain ⟨hno, hsn, hhit, hx, hb, t0, t1, t2⟩ := HH.out
        have h2 : Below w.heap.size w w1 := hb.trans (((Below.refl _ _).alloc (by omega) _).trans (h1.mono (by simp; omega)))
        have h3 : Below wr.heap.size wr w1 := ((Below.refl _ _).alloc (Nat.le_refl _) _).trans (h1.mono (by simp))
        go_roundw
        case rel => exact ⟨k + 1, by go_num, by omega, by rw [hsn, hno, HL.out]; rfl, h2, by have := h3.size; omega, (TmAt.past ⟨t0, t1, t2⟩ h3 hs)⟩
        case measure => simp [intOf]; omega
    · have hk2 : k = l.length := by omega
      have HH := Lib.hid (And.intro hno (And.intro hb hk2))
      clear hno hb hk2
      go_wp2_with fail
      go_ret
      obtain ⟨hno, hb, rfl⟩ := HH.out
      exact ⟨ret_bool (by rw [← hno]; simp), hb⟩
end Go.Proofs.YtllpfngmnccejaaGreat
namespace Go.Proofs.YtllpfngmnccejaaGreat
open Go Go.RowKit Go.Sort Go.Lib

/-- what is kept of the first k -/
def keepStep (f : List Tm) (t : Tm) : List Tm := if beyond f t = true then f else f ++ [t]
def frontTo (s : List Tm) (k : Nat) : List Tm := (s.take k).foldl keepStep []
def frontL (l : List Tm) : List Tm := frontTo (sortT l) (sortT l).length
theorem frontTo_snoc {s : List Tm} {t : Tm} {k : Nat} (h : s[k]? = some t) : frontTo s (k + 1) = keepStep (frontTo s k) t := by
  unfold frontTo; rw [List.take_add_one, h, List.foldl_append]; rfl
theorem frontTo_len (s : List Tm) : ∀ k, k ≤ s.length → (frontTo s k).length ≤ k
  | 0, _ => by simp [frontTo]
  | k + 1, h => by
    have := frontTo_len s k (by omega)
    rw [frontTo_snoc (List.getElem?_eq_getElem (by omega))]
    unfold keepStep
    split
    · omega
    · rw [List.length_append]; simp; omega

end Go.Proofs.YtllpfngmnccejaaGreat
namespace Go.Proofs.YtllpfngmnccejaaGreat
open Go Go.RowKit
attribute [local go_sem ↓] Go.wp_at_zero Go.wp_at_succ

end Go.Proofs.YtllpfngmnccejaaGreat
namespace Go.Proofs.YtllpfngmnccejaaGreat
open Go Go.RowKit

theorem foldl_inf (t : Tm) : ∀ (l : List Tm) (a s : Tm), s.le (l.foldl (fun a y => a.inf (t.sup y)) a) = (s.le a && l.all fun y => s.le (t.sup y))
  | [], a, s => by simp
  | x :: l, a, s => by
    rw [List.foldl_cons, foldl_inf t l, List.all_cons]
    have : s.le (a.inf (t.sup x)) = (s.le a && s.le (t.sup x)) := by
      rw [Bool.eq_iff_iff, Bool.and_eq_true, Tm.le_iff, Tm.le_iff, Tm.le_iff]
      simp only [Tm.inf]
      omega
    rw [this, Bool.and_assoc]
/-- what is ahead of an advanced time -/
theorem le_adv (s t : Tm) (l : List Tm) (h : l ≠ []) : s.le (adv t l) = l.all fun y => s.le (t.sup y) := by
  cases l with
  | nil => exact absurd rfl h
  | cons x l => simp [adv, foldl_inf]
theorem le_refl' (t : Tm) : t.le t = true := Tm.le_iff.2 ⟨Nat.le_refl _, Nat.le_refl _, Nat.le_refl _⟩
theorem le_anti {s t : Tm} (h : s.le t = true) (k : t.le s = true) : s = t := by
  rw [Tm.le_iff] at h k
  obtain ⟨a, b, c⟩ := s
  obtain ⟨d, e, f⟩ := t
  simp at *
  omega
theorem le_trans' {a b c : Tm} (h : a.le b = true) (k : b.le c = true) : a.le c = true := by
  rw [Tm.le_iff] at *; omega
/-- a time advanced to a list, then to a later one, is advanced to the later one -/
theorem adv_later (t : Tm) (f g : List Tm) (hg : g ≠ []) (h : ∀ x ∈ g, beyond f x = true) : adv (adv t f) g = adv t g := by
  have key : ∀ s : Tm, s.le (adv (adv t f) g) = s.le (adv t g) := by
    intro s
    rw [le_adv _ _ _ hg, le_adv _ _ _ hg, Bool.eq_iff_iff, List.all_eq_true, List.all_eq_true]
    have hsup : ∀ y ∈ g, (adv t f).sup y = t.sup y := by
      intro y hy
      by_cases hf : f = []
      · subst hf; simp [beyond] at h; exact absurd hy (by intro hy; exact (h y hy))
      obtain ⟨x, hx, hxy⟩ := List.any_eq_true.1 (h y hy)
      have h1 : t.le (adv t f) = true := by
        rw [le_adv _ _ _ hf, List.all_eq_true]; intro z _; rw [Tm.le_iff]; simp only [Tm.sup]; omega
      have h2 : (adv t f).le (t.sup x) = true := by
        have := le_refl' (adv t f)
        rw [le_adv _ _ _ hf, List.all_eq_true] at this
        exact this x hx
      rw [Tm.le_iff] at h1 h2 hxy
      simp only [Tm.sup] at h2 ⊢
      simp only [Tm.mk.injEq]
      omega
    constructor
    · intro k y hy; rw [← hsup y hy]; exact k y hy
    · intro k y hy; rw [hsup y hy]; exact k y hy
  exact le_anti (by rw [← key]; exact le_refl' _) (by rw [key]; exact le_refl' _)

attribute [local go_sem ↓] Go.wp_at_zero Go.wp_at_succ
theorem beyond_all {f g : List Tm} (h : ∀ (k : Nat) (x : Tm), g[k]? = some x → beyond f x = true) : ∀ x ∈ g, beyond f x = true := fun x hx => by
  obtain ⟨k, hk⟩ := List.mem_iff_getElem?.1 hx
  exact h k x hk

end Go.Proofs.YtllpfngmnccejaaGreat
namespace Go.Proofs.YtllpfngmnccejaaGreat
open Go Go.RowKit Go.Sort Go.Lib

/-- two of a frontier, the earlier one first -/
def Apart (x y : Tm) : Prop := ltOf Tm.cmp x y = true ∧ x.le y = false ∧ y.le x = false
theorem le_not_lt {x y : Tm} (h : x.le y = true) : ltOf Tm.cmp y x = false := by
  rw [Tm.le_iff] at h; rw [ltT]; simp; omega
theorem beyond_iff {l : List Tm} {t : Tm} : beyond l t = true ↔ ∃ x ∈ l, x.le t = true := by unfold beyond; rw [List.any_eq_true]
theorem sorted_unique' {R : Tm → Tm → Prop} (hi : ∀ x, ¬ R x x) (ha : ∀ x y, R x y → ¬ R y x) : ∀ l m : List Tm, l.Pairwise R → m.Pairwise R → (∀ x, x ∈ l ↔ x ∈ m) → l = m
  | [], [], _, _, _ => rfl
  | [], y :: m, _, _, h => absurd ((h y).2 List.mem_cons_self) (by simp)
  | x :: l, [], _, _, h => absurd ((h x).1 List.mem_cons_self) (by simp)
  | x :: l, y :: m, hl, hm, h => by
    rw [List.pairwise_cons] at hl hm
    have hxy : x = y := by
      rcases List.mem_cons.1 ((h x).1 List.mem_cons_self) with e | e
      · exact e
      · rcases List.mem_cons.1 ((h y).2 List.mem_cons_self) with e' | e'
        · exact e'.symm
        · exact absurd (hl.1 y e') (ha _ _ (hm.1 x e))
    subst hxy
    congr 1
    refine sorted_unique' hi ha l m hl.2 hm.2 fun z => ?_
    constructor
    · intro hz
      rcases List.mem_cons.1 ((h z).1 (List.mem_cons_of_mem _ hz)) with e | e
      · subst e; exact absurd (hl.1 z hz) (hi z)
      · exact e
    · intro hz
      rcases List.mem_cons.1 ((h z).2 (List.mem_cons_of_mem _ hz)) with e | e
      · subst e; exact absurd (hm.1 z hz) (hi z)
      · exact e
theorem frontTo_facts (s : List Tm) (hs : s.Pairwise fun x y => ltOf Tm.cmp y x = false) : ∀ k, k ≤ s.length →
    (frontTo s k).Pairwise Apart ∧ (∀ x ∈ frontTo s k, x ∈ s.take k) ∧ ∀ t, beyond (frontTo s k) t = beyond (s.take k) t
  | 0, _ => ⟨by simp [frontTo], by simp [frontTo], by simp [frontTo]⟩
  | k + 1, h => by
    obtain ⟨h1, h2, h3⟩ := frontTo_facts s hs k (by omega)
    have hx : s[k]? = some s[k] := List.getElem?_eq_getElem (by omega)
    have htk : s.take (k + 1) = s.take k ++ [s[k]] := by rw [List.take_add_one, hx]; rfl
    have hpw : ∀ x ∈ s.take k, ltOf Tm.cmp s[k] x = false := by
      have := hs.sublist (List.take_sublist (k + 1) s)
      rw [htk, List.pairwise_append] at this
      exact fun x hxk => this.2.2 x hxk _ (by simp)
    rw [frontTo_snoc hx, htk]
    generalize s[k] = t at *
    generalize frontTo s k = f at *
    unfold keepStep
    have hbs : ∀ u, beyond (s.take k ++ [t]) u = (beyond (s.take k) u || t.le u) := fun u => by simp [beyond]
    by_cases hb : beyond f t = true
    · rw [if_pos hb]
      refine ⟨h1, fun x hxf => List.mem_append_left _ (h2 x hxf), fun u => ?_⟩
      rw [hbs, h3]
      cases htu : t.le u with
      | false => simp
      | true =>
        obtain ⟨x, hxf, hxt⟩ := beyond_iff.1 hb
        rw [← h3, beyond_iff.2 ⟨x, hxf, le_trans' hxt htu⟩]; rfl
    · rw [if_neg hb]
      refine ⟨?_, fun x hxf => ?_, fun u => ?_⟩
      · rw [List.pairwise_append]
        refine ⟨h1, by simp, fun x hxf y hy => ?_⟩
        obtain rfl : y = t := by simpa using hy
        have hxt : x.le y = false := by
          cases hq : x.le y with
          | false => rfl
          | true => exact absurd (beyond_iff.2 ⟨x, hxf, hq⟩) hb
        have hlt : ltOf Tm.cmp x y = true := by
          cases hq : ltOf Tm.cmp x y with
          | true => rfl
          | false =>
            have := totT x y hq (hpw x (h2 x hxf))
            subst this
            rw [le_refl'] at hxt; cases hxt
        refine ⟨hlt, hxt, ?_⟩
        cases hq : y.le x with
        | false => rfl
        | true => have := le_not_lt hq; rw [hlt] at this; cases this
      · rcases List.mem_append.1 hxf with h | h
        · exact List.mem_append_left _ (h2 x h)
        · exact List.mem_append_right _ h
      · rw [hbs, ← h3]; simp [beyond]
theorem frontL_facts (l : List Tm) : (frontL l).Pairwise Apart ∧ (∀ x ∈ frontL l, x ∈ l) ∧ ∀ t, beyond (frontL l) t = beyond l t := by
  obtain ⟨h1, h2, h3⟩ := frontTo_facts (sortT l) (sortT_sorted l) (sortT l).length (Nat.le_refl _)
  rw [List.take_length] at h2 h3
  refine ⟨h1, fun x hx => mem_sortT.1 (h2 x hx), fun t => (h3 t).trans ?_⟩
  rw [Bool.eq_iff_iff, beyond_iff, beyond_iff]
  simp only [mem_sortT]
theorem apart_irrefl (x : Tm) : ¬ Apart x x := fun h => by have := h.2.1; rw [le_refl'] at this; cases this
theorem apart_asymm (x y : Tm) (h : Apart x y) : ¬ Apart y x := fun k => by
  have := swoT.trans _ _ _ h.1 k.1
  rw [swoT.irrefl] at this; cases this
/-- of two apart each is beyond itself alone -/
theorem mem_apart {f : List Tm} (hf : f.Pairwise Apart) {x y : Tm} (hx : x ∈ f) (hy : y ∈ f) (h : x.le y = true) : x = y := by
  by_cases e : x = y
  · exact e
  · have hs : ∀ (l : List Tm), l.Pairwise Apart → x ∈ l → y ∈ l → Apart x y ∨ Apart y x := by
      intro l
      induction l with
      | nil => intro _ h; simp at h
      | cons z l ih =>
        intro hp hx hy
        rw [List.pairwise_cons] at hp
        rcases List.mem_cons.1 hx with ex | hx'
        · rcases List.mem_cons.1 hy with ey | hy'
          · exact absurd (ex.trans ey.symm) e
          · exact .inl (ex ▸ hp.1 y hy')
        · rcases List.mem_cons.1 hy with ey | hy'
          · exact .inr (ey ▸ hp.1 x hx')
          · exact ih hp.2 hx' hy'
    rcases hs f hf hx hy with h' | h'
    · rw [h'.2.1] at h; cases h
    · rw [h'.2.2] at h; cases h
theorem apart_unique {f g : List Tm} (hf : f.Pairwise Apart) (hg : g.Pairwise Apart) (h : ∀ t, beyond f t = beyond g t) : f = g := by
  have key : ∀ {f g : List Tm}, f.Pairwise Apart → g.Pairwise Apart → (∀ t, beyond f t = beyond g t) → ∀ x, x ∈ f → x ∈ g := by
    intro f g hf hg h x hx
    obtain ⟨y, hy, hyx⟩ := beyond_iff.1 ((h x).symm.trans (beyond_iff.2 ⟨x, hx, le_refl' x⟩))
    obtain ⟨z, hz, hzy⟩ := beyond_iff.1 ((h y).trans (beyond_iff.2 ⟨y, hy, le_refl' y⟩))
    have := mem_apart hf hz hx (le_trans' hzy hyx)
    subst this
    rw [← le_anti hyx hzy]
    exact hy
  exact sorted_unique' apart_irrefl apart_asymm f g hf hg fun x => ⟨key hf hg h x, key hg hf (fun t => (h t).symm) x⟩
theorem front_congr {l m : List Tm} (h : ∀ t, beyond l t = beyond m t) : frontL l = frontL m :=
  apart_unique (frontL_facts l).1 (frontL_facts m).1 fun t => by rw [(frontL_facts l).2.2, (frontL_facts m).2.2, h]
theorem front_front (l : List Tm) : frontL (frontL l) = frontL l := front_congr (frontL_facts l).2.2
theorem front_nil {l : List Tm} (h : frontL l = []) : l = [] := by
  cases l with
  | nil => rfl
  | cons x l =>
    have := (frontL_facts (x :: l)).2.2 x
    rw [h, beyond_iff.2 ⟨x, List.mem_cons_self, le_refl' x⟩] at this
    simp [beyond] at this
theorem le_adv_t (t : Tm) (l : List Tm) : t.le (adv t l) = true := by
  by_cases h : l = []
  · subst h; exact le_refl' t
  · rw [le_adv _ _ _ h, List.all_eq_true]; intro z _; rw [Tm.le_iff]; simp only [Tm.sup]; omega
theorem sup_le {t x s : Tm} (h : t.le s = true) (k : x.le s = true) : (t.sup x).le s = true := by
  rw [Tm.le_iff] at *; simp only [Tm.sup]; omega
theorem adv_le {t x : Tm} {l : List Tm} (h : x ∈ l) : (adv t l).le (t.sup x) = true := by
  have := le_refl' (adv t l)
  rw [le_adv _ _ _ (by intro e; rw [e] at h; simp at h), List.all_eq_true] at this
  exact this x h
theorem adv_same (t s : Tm) (l : List Tm) (h : beyond l s = true) : t.le s = (adv t l).le s := by
  obtain ⟨x, hx, hxs⟩ := beyond_iff.1 h
  rw [Bool.eq_iff_iff]
  exact ⟨fun hts => le_trans' (adv_le hx) (sup_le hts hxs), fun h => le_trans' (le_adv_t t l) h⟩
theorem adv_again (t : Tm) (l : List Tm) : adv (adv t l) l = adv t l := by
  by_cases h : l = []
  · subst h; rfl
  · exact adv_later t l l h fun x hx => beyond_iff.2 ⟨x, hx, le_refl' x⟩
theorem adv_front (t : Tm) (l : List Tm) : adv t (frontL l) = adv t l := by
  by_cases h : l = []
  · subst h
    have : frontL [] = [] := by
      cases hq : frontL [] with
      | nil => rfl
      | cons x r => have := (frontL_facts []).2.1 x (by rw [hq]; exact List.mem_cons_self); simp at this
    rw [this]
  have h' : frontL l ≠ [] := fun e => h (front_nil e)
  have key : ∀ s : Tm, s.le (adv t (frontL l)) = s.le (adv t l) := by
    intro s
    rw [le_adv _ _ _ h', le_adv _ _ _ h, Bool.eq_iff_iff, List.all_eq_true, List.all_eq_true]
    constructor
    · intro k y hy
      obtain ⟨x, hx, hxy⟩ := beyond_iff.1 (((frontL_facts l).2.2 y).trans (beyond_iff.2 ⟨y, hy, le_refl' y⟩))
      refine le_trans' (k x hx) ?_
      rw [Tm.le_iff] at *; simp only [Tm.sup]; omega
    · intro k y hy; exact k y ((frontL_facts l).2.1 y hy)
  exact le_anti (by rw [← key]; exact le_refl' _) (by rw [key]; exact le_refl' _)
end Go.Proofs.YtllpfngmnccejaaGreat
namespace Go.Proofs.YtllpfngmnccejaaGreat
open Go Go.RowKit

/-- an update advanced -/
def Up.advd (f : List Tm) (u : Up) : Up := { u with t := adv u.t f }
def advL (f : List Tm) (l : List Up) : List Up := l.map (Up.advd f)
theorem right_down {s t : Tm} (h : s.le t = true) (ht : t.right = true) : s.right = true := by
  rw [Tm.le_iff] at h
  unfold Tm.right at *
  simp only [Bool.and_eq_true, decide_eq_true_eq] at *
  omega
theorem chk_one {t : Tm} : chk [t] = 0 ↔ t.right = true := by
  unfold chk
  cases h : t.right <;> simp [h]
theorem adv_right {t : Tm} {f : List Tm} (ht : t.right = true) (hf : ∀ x ∈ f, x.right = true) : (adv t f).right = true := by
  cases f with
  | nil => exact ht
  | cons x f =>
    have hx := hf x List.mem_cons_self
    refine right_down (adv_le (x := x) List.mem_cons_self) ?_
    unfold Tm.right at ht hx ⊢
    rw [Bool.and_eq_true, decide_eq_true_eq, decide_eq_true_eq] at ht hx ⊢
    show max t.e x.e ≤ _ ∧ max (max t.a x.a) (max t.b x.b) ≤ _
    omega
theorem chk_adv {f : List Tm} (hf : ∀ x ∈ f, x.right = true) (t : Tm) : chk [adv t f] = chk [t] := by
  cases h : t.right with
  | true => rw [chk_one.2 h, chk_one.2 (adv_right h hf)]
  | false =>
    have h2 : (adv t f).right = false := by
      cases h3 : (adv t f).right with
      | false => rfl
      | true => rw [right_down (le_adv_t t f) h3] at h; cases h
    unfold chk
    simp [h, h2]
theorem chkU_adv {f : List Tm} (hf : ∀ x ∈ f, x.right = true) (u : Up) : chkU (u.advd f) = chkU u := by
  unfold chkU chkK
  show orI (chkRow u.key) (orI (chkRow u.row) (chk [adv u.t f])) = _
  rw [chk_adv hf]
  rfl
theorem chkUs_adv {f : List Tm} (hf : ∀ x ∈ f, x.right = true) : ∀ l : List Up, chkUs (advL f l) = chkUs l
  | [] => rfl
  | u :: l => by
    have ih := chkUs_adv hf l
    unfold advL at *
    rw [List.map_cons]
    unfold chkUs
    rw [chkU_adv hf, ih]
theorem atP_adv {f : List Tm} {t : Tm} (hb : f = [] ∨ beyond f t = true) : ∀ l : List Up, atP (advL f l) t = atP l t
  | [] => rfl
  | u :: l => by
    have ih := atP_adv hb l
    have hu : (u.advd f).t.le t = u.t.le t := by
      rcases hb with rfl | hb
      · rfl
      · exact (adv_same u.t t f hb).symm
    unfold atP advL at *
    rw [List.map_cons, List.filter_cons, List.filter_cons, hu]
    split
    · rw [List.map_cons, List.map_cons, ih]; rfl
    · exact ih
theorem at_advL {f : List Tm} {t : Tm} (hf : ∀ x ∈ f, x.right = true) (hb : f = [] ∨ beyond f t = true) (l : List Up) : atL (advL f l) t = atL l t ∧ atE (advL f l) t = atE l t := by
  have hc : chkAt (advL f l) t = chkAt l t := by unfold chkAt; rw [chkUs_adv hf]
  unfold atL atE
  rw [hc, atP_adv hb]
  exact ⟨rfl, rfl⟩
/-- of updates, and of their batch -/
theorem at_batch {f : List Tm} {t : Tm} {l e : List Up} (hf : ∀ x ∈ f, x.right = true) (hb : f = [] ∨ beyond f t = true) (h : consE [advL f l] = 0) (he : e.map Up.p = consL [advL f l]) : atL l t = atL e t ∧ atE l t = atE e t := by
  obtain ⟨h1, h2⟩ := at_same t h he
  obtain ⟨h3, h4⟩ := at_advL hf hb l
  exact ⟨h3.symm.trans h1, h4.symm.trans h2⟩
/-- the updates of a batch are advanced -/
theorem batch_advd {f : List Tm} {l e : List Up} (h : consE [advL f l] = 0) (he : e.map Up.p = consL [advL f l]) : ∀ u ∈ e, adv u.t f = u.t := fun u hu => by
  obtain ⟨_, h2, h3⟩ := cons_chk h
  simp only [List.flatten_cons, List.flatten_nil, List.append_nil] at h2 h3
  have hm : u.p ∈ nz Uk.cmp ((advL f l).map Up.p) := by
    rw [← (resE_zero h2).1, ← h3, ← he]
    exact List.mem_map_of_mem hu
  have := nz_right (R := fun k : Uk => adv k.t f = k.t) (fun p hp => by
    obtain ⟨v, hv, rfl⟩ := List.mem_map.1 hp
    obtain ⟨v0, _, rfl⟩ := List.mem_map.1 hv
    exact adv_again v0.t f) _ hm
  exact this
/-- a frontier of right times -/
def FrontOk (f : List Tm) : Prop := chk f = 0 ∧ frontL f = f
theorem FrontOk.right {f : List Tm} (h : FrontOk f) : ∀ x ∈ f, x.right = true := by
  have := h.1
  unfold chk at this
  split at this
  · rename_i h1; exact fun x hx => List.all_eq_true.1 h1 x hx
  · omega
/-- a batch that is right -/
def BatchOk (f : List Tm) (l : List Up) : Prop := FrontOk f ∧ EvenP l ∧ ∀ u ∈ l, adv u.t f = u.t
theorem batch_ok {f : List Tm} {l e : List Up} (hf : FrontOk f) (h : consE [advL f l] = 0) (he : e.map Up.p = consL [advL f l]) : BatchOk f e := ⟨hf, cons_even h he, batch_advd h he⟩
theorem advL_id {f : List Tm} {l : List Up} (h : ∀ u ∈ l, adv u.t f = u.t) : advL f l = l := by
  unfold advL
  conv => rhs; rw [← List.map_id l]
  refine List.map_congr_left fun u hu => ?_
  unfold Up.advd
  rw [h u hu]
  rfl
theorem advL_nil (l : List Up) : advL [] l = l := advL_id fun _ _ => rfl
/-- a batch built of a batch's updates is that batch -/
theorem batch_twice {f : List Tm} {l e : List Up} (h : consE [advL f l] = 0) (he : e.map Up.p = consL [advL f l]) : (consE [advL f e] = 0 ∧ consL [advL f e] = e.map Up.p) ∧ consE [advL [] e] = 0 ∧ consL [advL [] e] = e.map Up.p := by
  rw [advL_id (batch_advd h he), advL_nil]
  obtain ⟨h1, h2⟩ := cons_again h he
  exact ⟨⟨h2, h1.trans he.symm⟩, h2, h1.trans he.symm⟩
end Go.Proofs.YtllpfngmnccejaaGreat
namespace Go.Proofs.YtllpfngmnccejaaGreat
open Go Go.RowKit

def KeysUp (l : List Up) : Prop := l.Pairwise fun x y => cmpRows x.key y.key ≤ 0
theorem even_keys {l : List Up} (h : EvenP l) : KeysUp l := by
  have h1 := h.2.1
  unfold Srt at h1
  rw [List.pairwise_map] at h1
  refine h1.imp fun {x y} hxy => ?_
  have hxy : Uk.cmp x.k y.k < 0 := hxy
  unfold Uk.cmp at hxy
  split at hxy
  · rename_i h0; exact Int.le_of_eq h0
  · exact Int.le_of_lt hxy
theorem keys_le {l : List Up} (h : KeysUp l) {i j : Nat} {x y : Up} (hi : l[i]? = some x) (hj : l[j]? = some y) (hij : i ≤ j) : cmpRows x.key y.key ≤ 0 := by
  obtain ⟨hil, rfl⟩ := List.getElem?_eq_some_iff.1 hi
  obtain ⟨hjl, rfl⟩ := List.getElem?_eq_some_iff.1 hj
  by_cases e : i = j
  · subst e; rw [row_lin.self]; exact Int.le_refl _
  · exact List.pairwise_iff_getElem.1 h i j hil hjl (by omega)
/-- where a key is sought -/
def seekB (l : List Up) (k : List Vl) : Nat := (l.takeWhile fun u => decide (cmpRows u.key k < 0)).length
/-- a key's group -/
def groupB (l : List Up) (k : List Vl) : List Up := (l.drop (seekB l k)).takeWhile fun u => decide (cmpRows u.key k = 0)
theorem seek_len (l : List Up) (k : List Vl) : seekB l k ≤ l.length := (List.takeWhile_sublist _).length_le
theorem group_len (l : List Up) (k : List Vl) : seekB l k + (groupB l k).length ≤ l.length := by
  have h1 := (List.takeWhile_sublist (fun u : Up => decide (cmpRows u.key k = 0)) (l := l.drop (seekB l k))).length_le
  have h2 := seek_len l k
  rw [List.length_drop] at h1
  unfold groupB
  omega
theorem seek_cons_lt {l : List Up} {u : Up} {k : List Vl} (h : cmpRows u.key k < 0) : seekB (u :: l) k = seekB l k + 1 := by
  unfold seekB
  rw [List.takeWhile_cons_of_pos (by simpa using h)]
  rfl
theorem seek_cons_ge {l : List Up} {u : Up} {k : List Vl} (h : ¬ cmpRows u.key k < 0) : seekB (u :: l) k = 0 := by
  unfold seekB
  rw [List.takeWhile_cons_of_neg (by simpa using h)]
  rfl
/-- all ahead of it have lesser keys -/
theorem seek_lt : ∀ (l : List Up) (k : List Vl) (i : Nat) (u : Up), i < seekB l k → l[i]? = some u → cmpRows u.key k < 0
  | [], _, _, _, h, _ => by simp [seekB] at h
  | x :: l, k, i, u, h, hu => by
    by_cases hx : cmpRows x.key k < 0
    · rw [seek_cons_lt hx] at h
      cases i with
      | zero => rw [List.getElem?_cons_zero] at hu; cases hu; exact hx
      | succ i => rw [List.getElem?_cons_succ] at hu; exact seek_lt l k i u (by omega) hu
    · rw [seek_cons_ge hx] at h; omega
/-- the one there has not -/
theorem seek_at : ∀ (l : List Up) (k : List Vl) (u : Up), l[seekB l k]? = some u → ¬ cmpRows u.key k < 0
  | [], _, _, h => by simp at h
  | x :: l, k, u, h => by
    by_cases hx : cmpRows x.key k < 0
    · rw [seek_cons_lt hx, List.getElem?_cons_succ] at h; exact seek_at l k u h
    · rw [seek_cons_ge hx, List.getElem?_cons_zero] at h; cases h; exact hx
/-- nor has one behind it -/
theorem seek_ge {l : List Up} {k : List Vl} (hl : KeysUp l) {i : Nat} {u : Up} (h : seekB l k ≤ i) (hu : l[i]? = some u) : ¬ cmpRows u.key k < 0 := by
  have hi := (List.getElem?_eq_some_iff.1 hu).1
  have hs : seekB l k < l.length := by omega
  have h1 := seek_at l k _ (List.getElem?_eq_getElem hs)
  have h2 := keys_le hl (List.getElem?_eq_getElem hs) hu h
  intro h3
  exact h1 (row_lin.le_lt h2 h3)
/-- it is the one place with both -/
theorem seek_only {l : List Up} {k : List Vl} {n : Nat} (hn : n ≤ l.length) (h1 : ∀ i u, i < n → l[i]? = some u → cmpRows u.key k < 0) (h2 : ∀ u, l[n]? = some u → ¬ cmpRows u.key k < 0) : seekB l k = n := by
  rcases Nat.lt_trichotomy (seekB l k) n with h | h | h
  · have hs : seekB l k < l.length := by omega
    exact absurd (h1 _ _ h (List.getElem?_eq_getElem hs)) (seek_at l k _ (List.getElem?_eq_getElem hs))
  · exact h
  · have hs : n < l.length := Nat.lt_of_lt_of_le h (seek_len l k)
    exact absurd (seek_lt l k n _ h (List.getElem?_eq_getElem hs)) (h2 _ (List.getElem?_eq_getElem hs))
theorem take_filter {k : List Vl} : ∀ {l : List Up}, KeysUp l → (∀ v ∈ l, ¬ cmpRows v.key k < 0) → l.takeWhile (fun u => decide (cmpRows u.key k = 0)) = l.filter fun u => decide (cmpRows u.key k = 0)
  | [], _, _ => rfl
  | v :: l, h, hv => by
    have hl := (List.pairwise_cons.1 h)
    by_cases h0 : cmpRows v.key k = 0
    · rw [List.takeWhile_cons_of_pos (by simpa using h0), List.filter_cons_of_pos (by simpa using h0), take_filter hl.2 fun x hx => hv x (List.mem_cons_of_mem _ hx)]
    · rw [List.takeWhile_cons_of_neg (by simpa using h0), List.filter_cons_of_neg (by simpa using h0), eq_comm, List.filter_eq_nil_iff]
      intro x hx
      have h1 := hl.1 x hx
      have h2 := hv v List.mem_cons_self
      have h3 : cmpRows k v.key < 0 := by have := row_lin.swap v.key k; omega
      have h4 := row_lin.lt_le h3 h1
      have h5 := row_lin.swap k x.key
      simp only [decide_eq_true_eq]
      omega
/-- a group is all updates of its key -/
theorem group_filter {k : List Vl} : ∀ {l : List Up}, KeysUp l → groupB l k = l.filter fun u => decide (cmpRows u.key k = 0)
  | [], _ => by simp [groupB]
  | v :: l, h => by
    have hl := (List.pairwise_cons.1 h)
    by_cases h0 : cmpRows v.key k < 0
    · have ih := group_filter (k := k) hl.2
      rw [List.filter_cons_of_neg (by simp only [decide_eq_true_eq]; omega), ← ih]
      unfold groupB
      rw [seek_cons_lt h0, List.drop_succ_cons]
    · unfold groupB
      rw [seek_cons_ge h0, List.drop_zero]
      refine take_filter h fun x hx => ?_
      rcases List.mem_cons.1 hx with rfl | hx
      · exact h0
      · intro h3
        exact h0 (row_lin.le_lt (hl.1 x hx) h3)
theorem cnt_split {α : Type} {p q r : α → Bool} : ∀ {l : List α}, (∀ x ∈ l, p x = (q x || r x)) → (∀ x ∈ l, (q x && r x) = false) → (l.filter p).length = (l.filter q).length + (l.filter r).length
  | [], _, _ => rfl
  | x :: l, h1, h2 => by
    have ih := cnt_split (l := l) (fun y hy => h1 y (List.mem_cons_of_mem _ hy)) fun y hy => h2 y (List.mem_cons_of_mem _ hy)
    have e1 := h1 x List.mem_cons_self
    have e2 := h2 x List.mem_cons_self
    rw [List.filter_cons, List.filter_cons, List.filter_cons, e1]
    cases hq : q x <;> cases hr : r x <;> simp_all <;> omega
/-- the updates up to a key -/
def leB (l : List Up) (k : List Vl) : List Up := l.filter fun u => decide (cmpRows u.key k ≤ 0)
theorem heads_same {l : List Up} {a b : List Vl} (h : cmpRows a b = 0) : leB l b = leB l a := by
  unfold leB
  refine List.filter_congr fun x _ => ?_
  have h1 : cmpRows b a = 0 := by have := row_lin.swap a b; omega
  rw [decide_eq_decide]
  exact ⟨fun k => (row_lin.le x.key b a k (by omega)).1, fun k => (row_lin.le x.key a b k (by omega)).1⟩
theorem heads_step {l : List Up} (hl : KeysUp l) {j : Nat} {u v : Up} (hu : l[j]? = some u) (hv : l[j + 1]? = some v) (hne : cmpRows u.key v.key ≠ 0) : (leB l v.key).length = (leB l u.key).length + (groupB l v.key).length := by
  rw [group_filter hl]
  unfold leB
  have huv : cmpRows u.key v.key < 0 := by have := keys_le hl hu hv (by omega); omega
  refine cnt_split (fun x hx => ?_) fun x hx => ?_
  · obtain ⟨i, hi⟩ := List.mem_iff_getElem?.1 hx
    rw [Bool.eq_iff_iff, Bool.or_eq_true, decide_eq_true_eq, decide_eq_true_eq, decide_eq_true_eq]
    by_cases hij : i ≤ j
    · have h1 := keys_le hl hi hu hij
      have h2 := row_lin.le_lt h1 huv
      exact ⟨fun _ => .inl h1, fun _ => by omega⟩
    · have h1 := keys_le hl hv hi (by omega)
      have h2 := row_lin.swap v.key x.key
      have h3 := row_lin.lt_le huv h1
      have h4 := row_lin.swap u.key x.key
      exact ⟨fun _ => .inr (by omega), fun h => by omega⟩
  · cases h1 : decide (cmpRows x.key u.key ≤ 0) with
    | false => rfl
    | true =>
      have h2 := row_lin.le_lt (of_decide_eq_true h1) huv
      rw [Bool.true_and]
      exact decide_eq_false (by omega)
theorem heads_first {l : List Up} (hl : KeysUp l) {u : Up} (hu : l[0]? = some u) : (leB l u.key).length = (groupB l u.key).length := by
  rw [group_filter hl]
  unfold leB
  rw [List.filter_congr fun x hx => ?_]
  obtain ⟨i, hi⟩ := List.mem_iff_getElem?.1 hx
  have h1 := keys_le hl hu hi (Nat.zero_le _)
  have h2 := row_lin.swap u.key x.key
  rw [decide_eq_decide]
  omega
theorem heads_last {l : List Up} (hl : KeysUp l) {j : Nat} {u : Up} (hu : l[j]? = some u) (hj : j + 1 = l.length) : (leB l u.key).length = l.length := by
  unfold leB
  rw [List.filter_eq_self.2 fun x hx => ?_]
  obtain ⟨i, hi⟩ := List.mem_iff_getElem?.1 hx
  have := (List.getElem?_eq_some_iff.1 hi).1
  exact decide_eq_true (keys_le hl hi hu (by omega))
end Go.Proofs.YtllpfngmnccejaaGreat
namespace Go.Proofs.YtllpfngmnccejaaGreat
open Go Go.RowKit

/-- the order of keys and rows -/
def plc (a b : Up) : Int := if cmpRows a.key b.key = 0 then cmpRows a.row b.row else cmpRows a.key b.key
theorem plc_lin : Lin plc (fun _ => False) where
  swap a b := by
    unfold plc
    rw [cmpRows_swap a.key b.key, cmpRows_swap a.row b.row]
    by_cases h1 : cmpRows a.key b.key = 0
    · rw [if_pos (by omega), if_pos h1]
    · rw [if_neg (by omega), if_neg h1]
  le a b c h k := by
    unfold plc at *
    exact lex_le h k (cmpRows_le a.key b.key c.key) rows_zero (cmpRows_le a.row b.row c.row)
  eq _ _ h _ := h.elim
theorem plc_cmp {a b : Up} {s t : Tm} (h : plc a b < 0) : Uk.cmp ⟨a.key, a.row, s⟩ ⟨b.key, b.row, t⟩ < 0 := by
  unfold plc at h
  unfold Uk.cmp
  dsimp only
  split at h
  · rename_i h0; rw [if_pos h0, if_neg (by omega)]; exact h
  · rename_i h0; rw [if_neg h0]; exact h
def PlUp (l : List Up) : Prop := l.Pairwise fun x y => plc x y ≤ 0
theorem even_plc {l : List Up} (h : EvenP l) : PlUp l := by
  have h1 := h.2.1
  unfold Srt at h1
  rw [List.pairwise_map] at h1
  refine h1.imp fun {x y} hxy => ?_
  have hxy : Uk.cmp x.k y.k < 0 := hxy
  unfold Uk.cmp at hxy
  unfold plc
  split at hxy
  · rename_i h0
    have h0 : cmpRows x.key y.key = 0 := h0
    rw [if_pos h0]
    split at hxy
    · rename_i h2; exact Int.le_of_eq h2
    · exact Int.le_of_lt hxy
  · rename_i h0
    have h0 : ¬ cmpRows x.key y.key = 0 := h0
    rw [if_neg h0]
    exact Int.le_of_lt hxy
/-- those of r of the place of u, as far as they stand in front -/
def grp (u : Up) (r : List Up) : List Up := r.takeWhile fun x => decide (plc x u = 0)
theorem tw_mem {p : Up → Bool} {x : Up} : ∀ {l : List Up}, x ∈ l.takeWhile p → p x = true
  | [], h => by simp at h
  | y :: l, h => by
    by_cases hy : p y = true
    · rw [List.takeWhile_cons_of_pos hy] at h
      rcases List.mem_cons.1 h with rfl | h
      · exact hy
      · exact tw_mem h
    · rw [List.takeWhile_cons_of_neg hy] at h; simp at h
theorem grp_mem {u x : Up} {r : List Up} (h : x ∈ grp u r) : plc x u = 0 ∧ x ∈ r := ⟨of_decide_eq_true (tw_mem h), (List.takeWhile_sublist _).subset h⟩
theorem grp_split (u : Up) (r : List Up) : r = grp u r ++ r.drop (grp u r).length := by
  unfold grp
  induction r with
  | nil => rfl
  | cons x r ih =>
    by_cases h : plc x u = 0
    · rw [List.takeWhile_cons_of_pos (by simpa using h), List.length_cons, List.drop_succ_cons, List.cons_append, ← ih]
    · rw [List.takeWhile_cons_of_neg (by simpa using h)]; rfl
theorem past_grp {u : Up} : ∀ {r : List Up}, PlUp r → (∀ y ∈ r, plc u y ≤ 0) → ∀ y ∈ r.drop (grp u r).length, plc u y < 0
  | [], _, _, y, h => by simp at h
  | v :: r, hr, hu, y, h => by
    have hc := List.pairwise_cons.1 hr
    unfold grp at h
    by_cases h0 : plc v u = 0
    · rw [List.takeWhile_cons_of_pos (by simpa using h0), List.length_cons, List.drop_succ_cons] at h
      exact past_grp hc.2 (fun y hy => hu y (List.mem_cons_of_mem _ hy)) y h
    · rw [List.takeWhile_cons_of_neg (by simpa using h0), List.length_nil, List.drop_zero] at h
      have h1 := hu v List.mem_cons_self
      have h2 := plc_lin.swap v u
      have h3 : plc u v < 0 := by omega
      rcases List.mem_cons.1 h with rfl | h
      · exact h3
      · exact plc_lin.lt_le h3 (hc.1 y h)
/-- the merger, somewhere on its way: ta, tb are taken, ra, rb are left -/
structure MInv (f : List Tm) (ta ra tb rb : List Up) (out : List (Uk × Int)) : Prop where
  sep : ∀ x ∈ ta ++ tb, ∀ y ∈ ra ++ rb, plc x y < 0
  fit : resE Uk.cmp ((advL f (ta ++ tb)).map Up.p) = 0
  out_ : out = nz Uk.cmp ((advL f (ta ++ tb)).map Up.p)
theorem merge_start (f : List Tm) (a b : List Up) : MInv f [] a [] b [] := ⟨fun x hx => (by simp at hx), rfl, rfl⟩
theorem keys_apart {f : List Tm} {X Y : List Up} (h : ∀ x ∈ X, ∀ y ∈ Y, plc x y < 0) : ∀ x ∈ (advL f X).map Up.p, ∀ y ∈ (advL f Y).map Up.p, Uk.cmp x.1 y.1 < 0 := fun x hx y hy => by
  obtain ⟨x', hx', rfl⟩ := List.mem_map.1 hx
  obtain ⟨x0, hx0, rfl⟩ := List.mem_map.1 hx'
  obtain ⟨y', hy', rfl⟩ := List.mem_map.1 hy
  obtain ⟨y0, hy0, rfl⟩ := List.mem_map.1 hy'
  exact plc_cmp (h x0 hx0 y0 hy0)
theorem res_apart {X Y : List (Uk × Int)} (h : ∀ x ∈ X, ∀ y ∈ Y, Uk.cmp x.1 y.1 < 0) : nz Uk.cmp (X ++ Y) = nz Uk.cmp X ++ nz Uk.cmp Y ∧ (resE Uk.cmp (X ++ Y) = 0 ↔ resE Uk.cmp X = 0 ∧ resE Uk.cmp Y = 0) := by
  unfold nz resE
  rw [asm_append h, List.filter_append, List.all_append]
  refine ⟨rfl, ?_⟩
  cases ((asm Uk.cmp X).all fun x => fits x.2) <;> cases ((asm Uk.cmp Y).all fun x => fits x.2) <;> simp
theorem advL_append (f : List Tm) (X Y : List Up) : advL f (X ++ Y) = advL f X ++ advL f Y := List.map_append
theorem adv_keys {f : List Tm} (hf : ∀ x ∈ f, x.right = true) {X : List Up} (h : chkUs X = 0) : ∀ x ∈ (advL f X).map Up.p, UkR x.1 := keys_right (chkUs_all.1 ((chkUs_adv hf X).trans h))
theorem taken_same {f : List Tm} (hf : ∀ x ∈ f, x.right = true) {ta ga tb gb : List Up} (h : chkUs (ta ++ ga ++ (tb ++ gb)) = 0) :
    nz Uk.cmp ((advL f (ta ++ ga ++ (tb ++ gb))).map Up.p) = nz Uk.cmp ((advL f (ta ++ tb)).map Up.p ++ (advL f (ga ++ gb)).map Up.p) ∧ resE Uk.cmp ((advL f (ta ++ ga ++ (tb ++ gb))).map Up.p) = resE Uk.cmp ((advL f (ta ++ tb)).map Up.p ++ (advL f (ga ++ gb)).map Up.p) := by
  have hl := adv_keys hf h
  have hm : ∀ x ∈ (advL f (ta ++ tb)).map Up.p ++ (advL f (ga ++ gb)).map Up.p, UkR x.1 := by
    rw [← List.map_append, ← advL_append]
    refine adv_keys hf (chkUs_all.2 fun u hu => chkUs_all.1 h u ?_)
    simp only [List.mem_append] at hu ⊢
    rcases hu with (hu | hu) | (hu | hu)
    · exact .inl (.inl hu)
    · exact .inr (.inl hu)
    · exact .inl (.inr hu)
    · exact .inr (.inr hu)
  have hs : ∀ k, sumOf Uk.cmp ((advL f (ta ++ ga ++ (tb ++ gb))).map Up.p) k = sumOf Uk.cmp ((advL f (ta ++ tb)).map Up.p ++ (advL f (ga ++ gb)).map Up.p) k := fun k => by
    simp only [advL_append, List.map_append, sumOf_append]
    omega
  exact ⟨nz_ext uk_lin hl hm hs, (resL_ext uk_lin hl hm hs).2⟩
/-- one step -/
theorem merge_step {f : List Tm} {ta ra tb rb : List Up} {out : List (Uk × Int)} (hm : MInv f ta ra tb rb out) (hf : ∀ x ∈ f, x.right = true) (hc : chkUs (ta ++ ra ++ (tb ++ rb)) = 0) (hra : PlUp ra) (hrb : PlUp rb) {u : Up} (hu : ∀ y ∈ ra ++ rb, plc u y ≤ 0)
    (hE : consE [advL f (grp u ra ++ grp u rb)] = 0) :
    MInv f (ta ++ grp u ra) (ra.drop (grp u ra).length) (tb ++ grp u rb) (rb.drop (grp u rb).length) (out ++ consL [advL f (grp u ra ++ grp u rb)]) := by
  have hg : ∀ y ∈ grp u ra ++ grp u rb, plc y u = 0 ∧ y ∈ ra ++ rb := fun y hy => by
    rcases List.mem_append.1 hy with hy | hy
    · exact ⟨(grp_mem hy).1, List.mem_append_left _ (grp_mem hy).2⟩
    · exact ⟨(grp_mem hy).1, List.mem_append_right _ (grp_mem hy).2⟩
  have hc' : chkUs (ta ++ grp u ra ++ (tb ++ grp u rb)) = 0 := chkUs_all.2 fun v hv => chkUs_all.1 hc v (by
    simp only [List.mem_append] at hv ⊢
    rcases hv with (hv | hv) | (hv | hv)
    · exact .inl (.inl hv)
    · exact .inl (.inr (grp_mem hv).2)
    · exact .inr (.inl hv)
    · exact .inr (.inr (grp_mem hv).2))
  obtain ⟨e1, e2⟩ := taken_same hf hc'
  obtain ⟨a1, a2⟩ := res_apart (keys_apart (f := f) (X := ta ++ tb) (Y := grp u ra ++ grp u rb) fun x hx y hy => hm.sep x hx y (hg y hy).2)
  obtain ⟨_, c2, c3⟩ := cons_chk hE
  simp only [List.flatten_cons, List.flatten_nil, List.append_nil] at c2 c3
  refine ⟨fun x hx y hy => ?_, ?_, ?_⟩
  · have hy' : y ∈ ra ++ rb ∧ plc u y < 0 := by
      rcases List.mem_append.1 hy with hy | hy
      · exact ⟨List.mem_append_left _ (List.mem_of_mem_drop hy), past_grp hra (fun z hz => hu z (List.mem_append_left _ hz)) y hy⟩
      · exact ⟨List.mem_append_right _ (List.mem_of_mem_drop hy), past_grp hrb (fun z hz => hu z (List.mem_append_right _ hz)) y hy⟩
    have hx' : x ∈ ta ++ tb ∨ x ∈ grp u ra ++ grp u rb := by
      simp only [List.mem_append] at hx ⊢
      rcases hx with (hx | hx) | (hx | hx)
      · exact .inl (.inl hx)
      · exact .inr (.inl hx)
      · exact .inl (.inr hx)
      · exact .inr (.inr hx)
    rcases hx' with hx | hx
    · exact hm.sep x hx y hy'.1
    · exact plc_lin.le_lt (by have := (hg x hx).1; omega) hy'.2
  · rw [e2, a2]; exact ⟨hm.fit, c2⟩
  · rw [e1, a1, hm.out_, c3, (resE_zero c2).1]
theorem res_ten {l : List (Uk × Int)} (h : resE Uk.cmp l ≠ 0) : resE Uk.cmp l = 10 := by
  unfold resE at *
  split at h
  · exact absurd rfl h
  · rename_i h1; rw [if_neg h1]
/-- a step that fails: then both together fail -/
theorem merge_fail {f : List Tm} {ta ra tb rb : List Up} {out : List (Uk × Int)} (hm : MInv f ta ra tb rb out) (hf : ∀ x ∈ f, x.right = true) (hc : chkUs (ta ++ ra ++ (tb ++ rb)) = 0) (hra : PlUp ra) (hrb : PlUp rb) {u : Up} (hu : ∀ y ∈ ra ++ rb, plc u y ≤ 0)
    (hE : consE [advL f (grp u ra ++ grp u rb)] ≠ 0) : consE [advL f (grp u ra ++ grp u rb)] = 10 ∧ consE [advL f (ta ++ ra ++ (tb ++ rb))] = 10 := by
  have hcg : chkUs (grp u ra ++ grp u rb) = 0 := chkUs_all.2 fun v hv => chkUs_all.1 hc v (by
    simp only [List.mem_append] at hv ⊢
    rcases hv with hv | hv
    · exact .inl (.inr (grp_mem hv).2)
    · exact .inr (.inr (grp_mem hv).2))
  have hone : ∀ {l : List Up}, chkUs l = 0 → consE [advL f l] = resE Uk.cmp ((advL f l).map Up.p) := fun {l} h => by
    unfold consE
    rw [if_pos (chkLs_all.2 fun m hm => by obtain rfl : m = advL f l := (by simpa using hm); exact (chkUs_adv hf l).trans h)]
    simp
  rw [hone hcg] at hE ⊢
  rw [hone hc]
  refine ⟨res_ten hE, res_ten fun h => hE ?_⟩
  rw [(taken_same hf hc).2] at h
  have h1 := ((res_apart (keys_apart (f := f) (X := ta ++ tb) (Y := ra ++ rb) hm.sep)).2.1 h).2
  have hsp : ra ++ rb = grp u ra ++ ra.drop (grp u ra).length ++ (grp u rb ++ rb.drop (grp u rb).length) := by rw [← grp_split, ← grp_split]
  have hcr : chkUs (grp u ra ++ ra.drop (grp u ra).length ++ (grp u rb ++ rb.drop (grp u rb).length)) = 0 := by
    rw [← hsp]
    exact chkUs_all.2 fun v hv => chkUs_all.1 hc v (by
      simp only [List.mem_append] at hv ⊢
      rcases hv with hv | hv
      · exact .inl (.inr hv)
      · exact .inr (.inr hv))
  rw [hsp, (taken_same hf hcr).2] at h1
  refine ((res_apart (keys_apart (f := f) (X := grp u ra ++ grp u rb) (Y := ra.drop (grp u ra).length ++ rb.drop (grp u rb).length) fun x hx y hy => ?_)).2.1 h1).1
  have hx0 : plc x u = 0 := by
    rcases List.mem_append.1 hx with hx | hx
    · exact (grp_mem hx).1
    · exact (grp_mem hx).1
  refine plc_lin.le_lt (b := u) (by omega) ?_
  rcases List.mem_append.1 hy with hy | hy
  · exact past_grp hra (fun z hz => hu z (List.mem_append_left _ hz)) y hy
  · exact past_grp hrb (fun z hz => hu z (List.mem_append_right _ hz)) y hy
/-- at the end: what both together make -/
theorem merge_end {f : List Tm} {a b : List Up} {out : List (Uk × Int)} (hm : MInv f a [] b [] out) (hf : ∀ x ∈ f, x.right = true) (hc : chkUs (a ++ b) = 0) : consE [advL f (a ++ b)] = 0 ∧ consL [advL f (a ++ b)] = out := by
  have h1 : chkLs [advL f (a ++ b)] = 0 := chkLs_all.2 fun m hm => by obtain rfl : m = advL f (a ++ b) := (by simpa using hm); exact (chkUs_adv hf _).trans hc
  unfold consE consL
  rw [if_pos h1, if_pos h1]
  simp only [List.flatten_cons, List.flatten_nil, List.append_nil]
  exact ⟨hm.fit, by rw [(resE_zero hm.fit).1, hm.out_]⟩
end Go.Proofs.YtllpfngmnccejaaGreat
namespace Go.Proofs.YtllpfngmnccejaaGreat
open Go Go.RowKit

/-- an update with the key and row of the next step -/
def nextM : List Up → List Up → Option Up
  | [], [] => none
  | x :: _, [] => some x
  | [], y :: _ => some y
  | x :: _, y :: _ => if plc x y ≤ 0 then some x else some y
theorem next_none {ra rb : List Up} : nextM ra rb = none ↔ ra = [] ∧ rb = [] := by
  cases ra <;> cases rb <;> simp [nextM]
  split <;> simp
theorem plc_self (u : Up) : plc u u = 0 := plc_lin.self u
theorem head_le {x : Up} {r : List Up} (h : PlUp (x :: r)) : ∀ y ∈ x :: r, plc x y ≤ 0 := fun y hy => by
  rcases List.mem_cons.1 hy with rfl | hy
  · exact Int.le_of_eq (plc_self _)
  · exact (List.pairwise_cons.1 h).1 y hy
theorem next_min {ra rb : List Up} {u : Up} (h : nextM ra rb = some u) (hra : PlUp ra) (hrb : PlUp rb) : ∀ y ∈ ra ++ rb, plc u y ≤ 0 := by
  cases ra with
  | nil =>
    cases rb with
    | nil => cases h
    | cons y rb =>
      obtain rfl : y = u := by simpa [nextM] using h
      simpa using head_le hrb
  | cons x ra =>
    cases rb with
    | nil =>
      obtain rfl : x = u := by simpa [nextM] using h
      simpa using head_le hra
    | cons y rb =>
      have h : (if plc x y ≤ 0 then some x else some y) = some u := h
      split at h
      · rename_i h0
        obtain rfl : x = u := by simpa using h
        intro z hz
        rcases List.mem_append.1 hz with hz | hz
        · exact head_le hra z hz
        · exact (plc_lin.le x y z h0 (head_le hrb z hz)).1
      · rename_i h0
        obtain rfl : y = u := by simpa using h
        have h1 : plc y x < 0 := by have := plc_lin.swap x y; omega
        intro z hz
        rcases List.mem_append.1 hz with hz | hz
        · exact Int.le_of_lt (plc_lin.lt_le h1 (head_le hra z hz))
        · exact head_le hrb z hz
theorem grp_head (u : Up) (r : List Up) : 0 < (grp u (u :: r)).length := by
  unfold grp
  rw [List.takeWhile_cons_of_pos (by simpa using plc_self u)]
  exact Nat.succ_pos _
/-- a step takes some -/
theorem grp_pos {ra rb : List Up} {u : Up} (h : nextM ra rb = some u) : 0 < (grp u ra).length + (grp u rb).length := by
  cases ra with
  | nil =>
    cases rb with
    | nil => cases h
    | cons y rb =>
      obtain rfl : y = u := by simpa [nextM] using h
      have := grp_head y rb; omega
  | cons x ra =>
    cases rb with
    | nil =>
      obtain rfl : x = u := by simpa [nextM] using h
      have := grp_head x ra; omega
    | cons y rb =>
      have h : (if plc x y ≤ 0 then some x else some y) = some u := h
      split at h
      · obtain rfl : x = u := by simpa using h
        have := grp_head x ra; omega
      · obtain rfl : y = u := by simpa using h
        have := grp_head y rb; omega
theorem plup_drop {r : List Up} (h : PlUp r) (n : Nat) : PlUp (r.drop n) := List.Pairwise.sublist (List.drop_sublist _ _) h
section
variable {f : List Tm} {ta ra tb rb : List Up} {out : List (Uk × Int)} {O : List Up}
theorem minv_key (hm : MInv f ta ra tb rb out) (hO : O.map Up.p = out) {z : Up} (hz : z ∈ O) : ∃ x ∈ ta ++ tb, x.key = z.key ∧ x.row = z.row ∧ adv x.t f = z.t := by
  have h : z.p ∈ nz Uk.cmp ((advL f (ta ++ tb)).map Up.p) := by rw [← hm.out_, ← hO]; exact List.mem_map_of_mem hz
  obtain ⟨p, hp, e⟩ := nz_keys h
  obtain ⟨v, hv, rfl⟩ := List.mem_map.1 hp
  obtain ⟨x, hx, rfl⟩ := List.mem_map.1 hv
  have e : (⟨x.key, x.row, adv x.t f⟩ : Uk) = ⟨z.key, z.row, z.t⟩ := e
  injection e with e1 e2 e3
  exact ⟨x, hx, e1, e2, e3⟩
theorem minv_advd (hm : MInv f ta ra tb rb out) (hO : O.map Up.p = out) : ∀ z ∈ O, adv z.t f = z.t := fun z hz => by
  obtain ⟨x, _, _, _, e⟩ := minv_key hm hO hz
  rw [← e]
  exact adv_again x.t f
theorem minv_ahead (hm : MInv f ta ra tb rb out) (hO : O.map Up.p = out) : ∀ z ∈ O, ∀ y ∈ ra ++ rb, plc z y < 0 := fun z hz y hy => by
  obtain ⟨x, hx, e1, e2, _⟩ := minv_key hm hO hz
  have := hm.sep x hx y hy
  unfold plc at *
  rwa [e1, e2] at this
theorem minv_even (hm : MInv f ta ra tb rb out) (hf : ∀ x ∈ f, x.right = true) (hc : chkUs (ta ++ tb) = 0) (hO : O.map Up.p = out) : EvenP O := by
  have hR := adv_keys hf hc
  have hn : O.map Up.p = nz Uk.cmp ((advL f (ta ++ tb)).map Up.p) := hO.trans hm.out_
  refine ⟨fun z hz => ?_, by rw [hn]; exact nz_srt uk_lin _, chkUs_all.2 fun z hz => ?_⟩
  · have h : z.p ∈ nz Uk.cmp ((advL f (ta ++ tb)).map Up.p) := by rw [← hn]; exact List.mem_map_of_mem hz
    exact ((nz_mem uk_lin hR z.p).1 h).2.2
  · have h : z.p ∈ nz Uk.cmp ((advL f (ta ++ tb)).map Up.p) := by rw [← hn]; exact List.mem_map_of_mem hz
    exact nz_right (R := UkR) hR _ h
end
end Go.Proofs.YtllpfngmnccejaaGreat
namespace Go.Proofs.YtllpfngmnccejaaGreat
open Go Go.RowKit

/-- a merger at work: of both lists what is taken and what is left, what came of it, the cost, the error -/
structure MS where
  ta : List Up
  ra : List Up
  tb : List Up
  rb : List Up
  out : List (Uk × Int)
  cost : Nat
  E : Int
def MS.left (s : MS) : Nat := s.ra.length + s.rb.length
def MS.step (f : List Tm) (s : MS) (u : Up) : MS :=
  { ta := s.ta ++ grp u s.ra, ra := s.ra.drop (grp u s.ra).length, tb := s.tb ++ grp u s.rb, rb := s.rb.drop (grp u s.rb).length, out := s.out ++ consL [advL f (grp u s.ra ++ grp u s.rb)], cost := s.cost + ((grp u s.ra).length + (grp u s.rb).length), E := 0 }
def workM (f : List Tm) (fuel : Int) : Nat → MS → MS
  | 0, s => s
  | n + 1, s => if (s.cost : Int) < fuel then
      match nextM s.ra s.rb with
      | none => s
      | some u => if consE [advL f (grp u s.ra ++ grp u s.rb)] = 0 then workM f fuel n (s.step f u) else { s with E := consE [advL f (grp u s.ra ++ grp u s.rb)] }
    else s
theorem grp_le (u : Up) (r : List Up) : (grp u r).length ≤ r.length := (List.takeWhile_sublist _).length_le
theorem step_left {f : List Tm} {s : MS} {u : Up} (h : nextM s.ra s.rb = some u) : (s.step f u).left < s.left ∧ (s.step f u).cost + (s.step f u).left = s.cost + s.left ∧ s.cost < (s.step f u).cost := by
  have h1 := grp_pos h
  have h2 := grp_le u s.ra
  have h3 := grp_le u s.rb
  unfold MS.left MS.step
  dsimp only
  rw [List.length_drop, List.length_drop]
  omega
/-- what stays right on the way -/
structure MS.Fine (f : List Tm) (a b : List Up) (s : MS) : Prop where
  inv : MInv f s.ta s.ra s.tb s.rb s.out
  a_ : s.ta ++ s.ra = a
  b_ : s.tb ++ s.rb = b
theorem fine_step {f : List Tm} {a b : List Up} {s : MS} {u : Up} (h : s.Fine f a b) (hf : ∀ x ∈ f, x.right = true) (hc : chkUs (a ++ b) = 0) (ha : PlUp a) (hb : PlUp b) (hu : nextM s.ra s.rb = some u) (hE : consE [advL f (grp u s.ra ++ grp u s.rb)] = 0) : (s.step f u).Fine f a b := by
  have hra : PlUp s.ra := by have := h.a_ ▸ ha; exact (List.pairwise_append.1 this).2.1
  have hrb : PlUp s.rb := by have := h.b_ ▸ hb; exact (List.pairwise_append.1 this).2.1
  refine ⟨merge_step h.inv hf (by rw [h.a_, h.b_]; exact hc) hra hrb (next_min hu hra hrb) hE, ?_, ?_⟩
  · show s.ta ++ grp u s.ra ++ s.ra.drop (grp u s.ra).length = a
    rw [List.append_assoc, ← grp_split, h.a_]
  · show s.tb ++ grp u s.rb ++ s.rb.drop (grp u s.rb).length = b
    rw [List.append_assoc, ← grp_split, h.b_]
/-- all that work does -/
theorem work_fine {f : List Tm} {a b : List Up} (hf : ∀ x ∈ f, x.right = true) (hc : chkUs (a ++ b) = 0) (ha : PlUp a) (hb : PlUp b) (fuel : Int) : ∀ (n : Nat) (s : MS), s.E = 0 → s.left ≤ n → s.Fine f a b →
    (workM f fuel n s).Fine f a b ∧ (workM f fuel n s).cost + (workM f fuel n s).left = s.cost + s.left ∧ s.cost ≤ (workM f fuel n s).cost ∧
    ((workM f fuel n s).E = 0 ∧ ((workM f fuel n s).left = 0 ∨ fuel ≤ (workM f fuel n s).cost) ∧ ((s.cost : Int) < fuel → 0 < s.left → s.cost < (workM f fuel n s).cost) ∨ (workM f fuel n s).E = 10 ∧ consE [advL f (a ++ b)] = 10) ∧
    ((s.left = 0 ∨ fuel ≤ s.cost) → workM f fuel n s = s)
  | 0, s, h0, hl, hs => ⟨hs, rfl, Nat.le_refl _, .inl ⟨h0, .inl (by show s.left = 0; omega), fun _ h => by omega⟩, fun _ => rfl⟩
  | n + 1, s, h0, hl, hs => by
    by_cases hlt : (s.cost : Int) < fuel
    case neg =>
      have e : workM f fuel (n + 1) s = s := by unfold workM; rw [if_neg hlt]
      rw [e]
      exact ⟨hs, rfl, Nat.le_refl _, .inl ⟨h0, .inr (by omega), fun h => absurd h hlt⟩, fun _ => rfl⟩
    cases hu : nextM s.ra s.rb with
    | none =>
      have e : workM f fuel (n + 1) s = s := by unfold workM; rw [if_pos hlt, hu]
      have h1 := next_none.1 hu
      have hz : s.left = 0 := by unfold MS.left; rw [h1.1, h1.2]; rfl
      rw [e]
      exact ⟨hs, rfl, Nat.le_refl _, .inl ⟨h0, .inl hz, fun _ h => by omega⟩, fun _ => rfl⟩
    | some u =>
      obtain ⟨l1, l2, l3⟩ := step_left (f := f) hu
      have hpos : ¬ (s.left = 0 ∨ fuel ≤ s.cost) := by omega
      by_cases hE : consE [advL f (grp u s.ra ++ grp u s.rb)] = 0
      · have e : workM f fuel (n + 1) s = workM f fuel n (s.step f u) := by rw [workM, if_pos hlt, hu]; exact if_pos hE
        obtain ⟨i1, i2, i3, i4, i5⟩ := work_fine hf hc ha hb fuel n (s.step f u) rfl (by omega) (fine_step hs hf hc ha hb hu hE)
        rw [e]
        refine ⟨i1, by omega, by omega, ?_, fun h => absurd h hpos⟩
        rcases i4 with ⟨j1, j2, _⟩ | j
        · exact .inl ⟨j1, j2, fun _ _ => by omega⟩
        · exact .inr j
      · have e : workM f fuel (n + 1) s = { s with E := consE [advL f (grp u s.ra ++ grp u s.rb)] } := by rw [workM, if_pos hlt, hu]; exact if_neg hE
        have hra : PlUp s.ra := by have := hs.a_ ▸ ha; exact (List.pairwise_append.1 this).2.1
        have hrb : PlUp s.rb := by have := hs.b_ ▸ hb; exact (List.pairwise_append.1 this).2.1
        have hfail := merge_fail hs.inv hf (by rw [hs.a_, hs.b_]; exact hc) hra hrb (next_min hu hra hrb) hE
        rw [hs.a_, hs.b_] at hfail
        rw [e]
        exact ⟨⟨hs.inv, hs.a_, hs.b_⟩, rfl, Nat.le_refl _, .inr ⟨hfail.1, hfail.2⟩, fun h => absurd h hpos⟩
end Go.Proofs.YtllpfngmnccejaaGreat
namespace Go.Proofs.YtllpfngmnccejaaGreat
open Go Go.RowKit

/-- i divides l: no key and row on both sides, and those from i on behind all of o -/
structure DivB (l : List Up) (i : Int) (o : List Up) : Prop where
  lo : 0 ≤ i
  hi : i ≤ l.length
  side : ∀ x y, 0 < i → l[i.toNat - 1]? = some x → l[i.toNat]? = some y → plc x y < 0
  past : ∀ z y, o[o.length - 1]? = some z → l[i.toNat]? = some y → plc z y < 0
structure MergOk (f : List Tm) (a b o : List Up) (i j : Int) : Prop where
  even : EvenP a ∧ EvenP b ∧ EvenP o
  front : FrontOk f
  advd : ∀ u ∈ o, adv u.t f = u.t
  da : DivB a i o
  db : DivB b j o
theorem even_two {a b : List Up} (ha : EvenP a) (hb : EvenP b) : chkUs (a ++ b) = 0 := chkUs_all.2 fun u hu => by
  rcases List.mem_append.1 hu with hu | hu
  · exact chkUs_all.1 ha.2.2 u hu
  · exact chkUs_all.1 hb.2.2 u hu
theorem div_of {t r o : List Up} (h1 : ∀ x ∈ t, ∀ y ∈ r, plc x y < 0) (h2 : ∀ z ∈ o, ∀ y ∈ r, plc z y < 0) : DivB (t ++ r) t.length o := by
  have hr : ∀ y, (t ++ r)[(t.length : Int).toNat]? = some y → y ∈ r := fun y hy => by
    rw [Int.toNat_natCast, List.getElem?_append_right (Nat.le_refl _)] at hy
    exact List.mem_of_getElem? hy
  refine ⟨by omega, by rw [List.length_append]; omega, fun x y hi hx hy => ?_, fun z y hz hy => h2 z (List.mem_of_getElem? hz) y (hr y hy)⟩
  rw [Int.toNat_natCast, List.getElem?_append_left (by omega)] at hx
  exact h1 x (List.mem_of_getElem? hx) y (hr y hy)
/-- a merger at work is right -/
theorem fine_ok {f : List Tm} {a b o : List Up} {s : MS} (h : s.Fine f a b) (hf : FrontOk f) (ha : EvenP a) (hb : EvenP b) (ho : o.map Up.p = s.out) : MergOk f a b o s.ta.length s.tb.length := by
  have hc := even_two ha hb
  have hct : chkUs (s.ta ++ s.tb) = 0 := chkUs_all.2 fun u hu => chkUs_all.1 hc u (by
    rw [← h.a_, ← h.b_]
    simp only [List.mem_append] at hu ⊢
    rcases hu with hu | hu
    · exact .inl (.inl hu)
    · exact .inr (.inl hu))
  have hah := minv_ahead h.inv ho
  refine ⟨⟨ha, hb, minv_even h.inv hf.right hct ho⟩, hf, minv_advd h.inv ho, ?_, ?_⟩
  · rw [← h.a_]
    exact div_of (fun x hx y hy => h.inv.sep x (List.mem_append_left _ hx) y (List.mem_append_left _ hy)) fun z hz y hy => hah z hz y (List.mem_append_left _ hy)
  · rw [← h.b_]
    exact div_of (fun x hx y hy => h.inv.sep x (List.mem_append_right _ hx) y (List.mem_append_right _ hy)) fun z hz y hy => hah z hz y (List.mem_append_right _ hy)
theorem fine_start (f : List Tm) (a b : List Up) : MS.Fine f a b ⟨[], a, [], b, [], 0, 0⟩ := ⟨merge_start f a b, rfl, rfl⟩
/-- a merger that has nothing left: what it ends with -/
theorem fine_end {f : List Tm} {a b : List Up} {s : MS} (h : s.Fine f a b) (hf : ∀ x ∈ f, x.right = true) (hc : chkUs (a ++ b) = 0) (hl : s.left = 0) : consE [advL f (a ++ b)] = 0 ∧ consL [advL f (a ++ b)] = s.out := by
  unfold MS.left at hl
  have h1 : s.ra = [] := List.eq_nil_of_length_eq_zero (by omega)
  have h2 : s.rb = [] := List.eq_nil_of_length_eq_zero (by omega)
  have ea := h.a_
  have eb := h.b_
  have hi := h.inv
  rw [h1, List.append_nil] at ea
  rw [h2, List.append_nil] at eb
  rw [h1, h2, ea, eb] at hi
  exact merge_end hi hf hc
/-- a list of two lists of updates, advanced: as one -/
theorem cons_two {f : List Tm} {a b : List Up} : consE [advL f a ++ advL f b] = consE [advL f (a ++ b)] ∧ consL [advL f a ++ advL f b] = consL [advL f (a ++ b)] := by rw [advL_append]; exact ⟨rfl, rfl⟩
end Go.Proofs.YtllpfngmnccejaaGreat
namespace Go.Proofs.YtllpfngmnccejaaGreat
open Go Go.RowKit

/-- t is beyond f, or f is no frontier at all -/
def Past_ (f : List Tm) (t : Tm) : Prop := f = [] ∨ beyond f t = true
/-- beyond f, the same is there -/
def SameAt (f : List Tm) (X Y : List Up) : Prop := ∀ t, Past_ f t → ∀ r, sumOf cmpRows (atP X t) r = sumOf cmpRows (atP Y t) r
section
variable {f g : List Tm} {X Y Z W : List Up}
theorem SameAt.refl : SameAt f X X := fun _ _ _ => rfl
theorem SameAt.symm (h : SameAt f X Y) : SameAt f Y X := fun t ht r => (h t ht r).symm
theorem SameAt.trans (h : SameAt f X Y) (k : SameAt f Y Z) : SameAt f X Z := fun t ht r => (h t ht r).trans (k t ht r)
theorem SameAt.append (h : SameAt f X Y) (k : SameAt f Z W) : SameAt f (X ++ Z) (Y ++ W) := fun t ht r => by
  rw [at_append, at_append, sumOf_append, sumOf_append, h t ht r, k t ht r]
theorem SameAt.perm (h : X.Perm Y) : SameAt f X Y := fun t _ r => by
  refine sumOf_perm ?_ r
  unfold atP
  exact (h.filter _).map _
/-- g is later than f -/
def LaterF (g f : List Tm) : Prop := f = [] ∨ (g ≠ [] ∧ ∀ x ∈ g, beyond f x = true)
theorem past_later (h : LaterF g f) {t : Tm} (ht : Past_ g t) : Past_ f t := by
  rcases h with h | ⟨h1, h2⟩
  · exact .inl h
  · rcases ht with ht | ht
    · exact absurd ht h1
    · obtain ⟨x, hx, hxt⟩ := beyond_iff.1 ht
      obtain ⟨y, hy, hyx⟩ := beyond_iff.1 (h2 x hx)
      exact .inr (beyond_iff.2 ⟨y, hy, le_trans' hyx hxt⟩)
theorem later_refl (f : List Tm) : LaterF f f := by
  by_cases h : f = []
  · exact .inl h
  · exact .inr ⟨h, fun x hx => beyond_iff.2 ⟨x, hx, le_refl' x⟩⟩
theorem later_trans {e : List Tm} (h : LaterF g f) (k : LaterF f e) : LaterF g e := by
  rcases k with k | ⟨k1, k2⟩
  · exact .inl k
  · rcases h with h | ⟨h1, h2⟩
    · exact absurd h k1
    · refine .inr ⟨h1, fun x hx => ?_⟩
      obtain ⟨y, hy, hyx⟩ := beyond_iff.1 (h2 x hx)
      obtain ⟨z, hz, hzy⟩ := beyond_iff.1 (k2 y hy)
      exact beyond_iff.2 ⟨z, hz, le_trans' hzy hyx⟩
theorem SameAt.later (h : SameAt f X Y) (k : LaterF g f) : SameAt g X Y := fun t ht r => h t (past_later k ht) r
theorem same_adv : SameAt f (advL f X) X := fun t ht r => by rw [atP_adv ht]
/-- evened out -/
theorem same_cons {e : List Up} (h : consE [X] = 0) (he : e.map Up.p = consL [X]) : SameAt f e X := fun t _ r => by
  obtain ⟨h1, h2, h3⟩ := cons_chk h
  have hl : chkUs X = 0 := chkLs_all.1 h1 X (by simp)
  simp only [List.flatten_cons, List.flatten_nil, List.append_nil] at h2 h3
  rw [at_sum, at_sum, he, h3, (resE_zero h2).1, psum_nz uk_lin _ (keys_right (chkUs_all.1 hl))]
/-- a batch of them -/
theorem same_batch {e : List Up} (h : consE [advL f X] = 0) (he : e.map Up.p = consL [advL f X]) : SameAt f e X := (same_cons h he).trans same_adv
/-- what is there is told by the sums -/
theorem at_of_same (h : SameAt f X Y) {t : Tm} (ht : Past_ f t) (hX : chkUs X = 0) (hY : chkUs Y = 0) : atL X t = atL Y t ∧ atE X t = atE Y t := by
  by_cases hc : chk [t] = 0
  · rw [(at_of hX hc).1, (at_of hX hc).2, (at_of hY hc).1, (at_of hY hc).2]
    exact resL_ext row_lin (at_right hX) (at_right hY) fun r => h t ht r
  · have c1 : chkAt X t = chk [t] := by unfold chkAt orI; rw [if_pos hX]
    have c2 : chkAt Y t = chk [t] := by unfold chkAt orI; rw [if_pos hY]
    unfold atL atE
    rw [c1, c2, if_neg hc, if_neg hc, if_neg hc, if_neg hc]
    exact ⟨rfl, rfl⟩
/-- the parts of a merger: what it has of both lists, and what it has made, are still there -/
theorem same_merger {a b o : List Up} {s : MS} (h : s.Fine f a b) (hf : ∀ x ∈ f, x.right = true) (hc : chkUs (a ++ b) = 0) (ho : o.map Up.p = s.out) : SameAt f (o ++ (s.ra ++ s.rb)) (a ++ b) := by
  have hct : chkUs (s.ta ++ s.tb) = 0 := chkUs_all.2 fun u hu => chkUs_all.1 hc u (by
    rw [← h.a_, ← h.b_]
    simp only [List.mem_append] at hu ⊢
    rcases hu with hu | hu
    · exact .inl (.inl hu)
    · exact .inr (.inl hu))
  have h1 : SameAt f o (s.ta ++ s.tb) := by
    refine SameAt.trans (Y := advL f (s.ta ++ s.tb)) (fun t _ r => ?_) same_adv
    rw [at_sum, at_sum, ho, h.inv.out_, psum_nz uk_lin _ (adv_keys hf hct)]
  refine (h1.append SameAt.refl).trans ?_
  rw [← h.a_, ← h.b_]
  refine SameAt.perm ?_
  rw [List.append_assoc, List.append_assoc]
  refine List.Perm.append_left _ ?_
  rw [← List.append_assoc, ← List.append_assoc]
  exact List.Perm.append_right _ List.perm_append_comm
end
end Go.Proofs.YtllpfngmnccejaaGreat
namespace Go.Proofs.YtllpfngmnccejaaGreat
open Go Go.RowKit

theorem up_p {x y : Up} (h : x.p = y.p) : x.key = y.key ∧ x.row = y.row ∧ x.t = y.t ∧ x.d = y.d := by
  have h : ((⟨x.key, x.row, x.t⟩ : Uk), x.d) = ((⟨y.key, y.row, y.t⟩ : Uk), y.d) := h
  simp only [Prod.mk.injEq, Uk.mk.injEq] at h
  exact ⟨h.1.1, h.1.2.1, h.1.2.2, h.2⟩
theorem plc_p {x x' y y' : Up} (hx : x.p = x'.p) (hy : y.p = y'.p) : plc x y = plc x' y' := by
  obtain ⟨a, b, _⟩ := up_p hx
  obtain ⟨c, d, _⟩ := up_p hy
  unfold plc
  rw [a, b, c, d]
theorem map_pk {l m : List Up} (h : l.map Up.p = m.map Up.p) : l.map Up.k = m.map Up.k := by
  have := congrArg (List.map Prod.fst) h
  rw [List.map_map, List.map_map] at this
  exact this
theorem chkUs_p : ∀ {l m : List Up}, l.map Up.p = m.map Up.p → chkUs l = chkUs m
  | [], [], _ => rfl
  | [], _ :: _, h => by simp at h
  | _ :: _, [], h => by simp at h
  | x :: l, y :: m, h => by
    rw [List.map_cons, List.map_cons, List.cons.injEq] at h
    have ih := chkUs_p h.2
    have hk : x.k = y.k := congrArg Prod.fst h.1
    unfold chkUs chkU
    rw [ih, hk]
theorem even_p {l m : List Up} (h : l.map Up.p = m.map Up.p) (hl : EvenP l) : EvenP m := by
  refine ⟨fun u hu => ?_, by rw [← h]; exact hl.2.1, by rw [← chkUs_p h]; exact hl.2.2⟩
  have : u.p ∈ l.map Up.p := by rw [h]; exact List.mem_map_of_mem hu
  obtain ⟨x, hx, e⟩ := List.mem_map.1 this
  rw [← (up_p e).2.2.2]
  exact hl.1 x hx
theorem advL_p {l m : List Up} (f : List Tm) (h : l.map Up.p = m.map Up.p) : (advL f l).map Up.p = (advL f m).map Up.p := by
  have e : ∀ n : List Up, (advL f n).map Up.p = (n.map Up.p).map fun x => ((⟨x.1.key, x.1.row, adv x.1.t f⟩ : Uk), x.2) := fun n => by
    unfold advL
    rw [List.map_map, List.map_map]
    rfl
  rw [e, e, h]
theorem consL_p {l m : List Up} (h : l.map Up.p = m.map Up.p) : consL [l] = consL [m] ∧ consE [l] = consE [m] := by
  have hc : chkLs [l] = chkLs [m] := by unfold chkLs; rw [chkUs_p h]
  unfold consL consE
  rw [hc]
  simp only [List.flatten_cons, List.flatten_nil, List.append_nil]
  rw [h]
  exact ⟨rfl, rfl⟩
theorem mem_p {l m : List Up} (h : l.map Up.p = m.map Up.p) {x : Up} (hx : x ∈ l) : ∃ y ∈ m, y.p = x.p := by
  have : x.p ∈ m.map Up.p := by rw [← h]; exact List.mem_map_of_mem hx
  obtain ⟨y, hy, e⟩ := List.mem_map.1 this
  exact ⟨y, hy, e⟩
theorem len_p {l m : List Up} (h : l.map Up.p = m.map Up.p) : l.length = m.length := by have := congrArg List.length h; simpa using this
theorem take_p {l m : List Up} (h : l.map Up.p = m.map Up.p) (n : Nat) : (l.take n).map Up.p = (m.take n).map Up.p := by rw [List.map_take, List.map_take, h]
theorem drop_p {l m : List Up} (h : l.map Up.p = m.map Up.p) (n : Nat) : (l.drop n).map Up.p = (m.drop n).map Up.p := by rw [List.map_drop, List.map_drop, h]
theorem app_p {l m l' m' : List Up} (h : l.map Up.p = m.map Up.p) (h' : l'.map Up.p = m'.map Up.p) : (l ++ l').map Up.p = (m ++ m').map Up.p := by rw [List.map_append, List.map_append, h, h']
theorem advd_p {f : List Tm} {l m : List Up} (h : l.map Up.p = m.map Up.p) (hl : ∀ u ∈ l, adv u.t f = u.t) : ∀ u ∈ m, adv u.t f = u.t := fun u hu => by
  obtain ⟨x, hx, e⟩ := mem_p h.symm hu
  have := (up_p e).2.2.1
  rw [← this]
  exact hl x hx
/-- a merger as it lies, at work from where it is -/
def startM (a : List Up) (i : Nat) (b : List Up) (j : Nat) (o : List (Uk × Int)) : MS := ⟨a.take i, a.drop i, b.take j, b.drop j, o, 0, 0⟩
def FineM (f : List Tm) (a : List Up) (i : Nat) (b : List Up) (j : Nat) (o : List (Uk × Int)) : Prop := i ≤ a.length ∧ j ≤ b.length ∧ (startM a i b j o).Fine f a b
theorem finem_copy {f : List Tm} {a a' b b' : List Up} {i j : Nat} {o : List (Uk × Int)} (h : FineM f a i b j o) (ha : a.map Up.p = a'.map Up.p) (hb : b.map Up.p = b'.map Up.p) : FineM f a' i b' j o := by
  obtain ⟨h1, h2, h3⟩ := h
  refine ⟨by rw [← len_p ha]; exact h1, by rw [← len_p hb]; exact h2, ⟨fun x hx y hy => ?_, ?_, ?_⟩, List.take_append_drop _ _, List.take_append_drop _ _⟩
  · obtain ⟨x0, hx0, ex⟩ := mem_p (app_p (take_p ha i) (take_p hb j)).symm hx
    obtain ⟨y0, hy0, ey⟩ := mem_p (app_p (drop_p ha i) (drop_p hb j)).symm hy
    rw [← plc_p ex ey]
    exact h3.inv.sep x0 hx0 y0 hy0
  · have := advL_p f (app_p (take_p ha i) (take_p hb j))
    show resE Uk.cmp ((advL f (a'.take i ++ b'.take j)).map Up.p) = 0
    rw [← this]
    exact h3.inv.fit
  · have := advL_p f (app_p (take_p ha i) (take_p hb j))
    show o = nz Uk.cmp ((advL f (a'.take i ++ b'.take j)).map Up.p)
    rw [← this]
    exact h3.inv.out_
theorem finem_start (f : List Tm) (a b : List Up) : FineM f a 0 b 0 [] := ⟨Nat.zero_le _, Nat.zero_le _, fine_start f a b⟩
theorem finem_of {f : List Tm} {a b : List Up} {s : MS} (h : s.Fine f a b) : FineM f a s.ta.length b s.tb.length s.out := by
  obtain ⟨h1, h2, h3⟩ := h
  subst h2; subst h3
  refine ⟨by rw [List.length_append]; omega, by rw [List.length_append]; omega, ?_⟩
  have e : startM (s.ta ++ s.ra) s.ta.length (s.tb ++ s.rb) s.tb.length s.out = ⟨s.ta, s.ra, s.tb, s.rb, s.out, 0, 0⟩ := by
    unfold startM
    rw [List.take_left, List.drop_left, List.take_left, List.drop_left]
  rw [e]
  exact ⟨h1, rfl, rfl⟩
/-- such a merger is right -/
theorem finem_ok {f : List Tm} {a b o : List Up} {i j : Nat} {O : List (Uk × Int)} (h : FineM f a i b j O) (hf : FrontOk f) (ha : EvenP a) (hb : EvenP b) (ho : o.map Up.p = O) : MergOk f a b o i j := by
  obtain ⟨h1, h2, h3⟩ := h
  have := fine_ok h3 hf ha hb ho
  have e1 : (startM a i b j O).ta.length = i := by show (a.take i).length = i; rw [List.length_take]; omega
  have e2 : (startM a i b j O).tb.length = j := by show (b.take j).length = j; rw [List.length_take]; omega
  rwa [e1, e2] at this
theorem start_left (a : List Up) (i : Nat) (b : List Up) (j : Nat) (o : List (Uk × Int)) : (startM a i b j o).left = (a.length - i) + (b.length - j) := by
  unfold startM MS.left
  rw [List.length_drop, List.length_drop]
theorem work_E {f : List Tm} {fuel : Int} : ∀ (n : Nat) (s : MS), s.E = 0 → (workM f fuel n s).ta.length + (workM f fuel n s).tb.length = s.ta.length + s.tb.length + ((workM f fuel n s).cost - s.cost) ∧ s.cost ≤ (workM f fuel n s).cost
  | 0, s, _ => ⟨by show _ = _ + (s.cost - s.cost); rw [Nat.sub_self]; rfl, Nat.le_refl _⟩
  | n + 1, s, h => by
    unfold workM
    split
    · cases hu : nextM s.ra s.rb with
      | none => exact ⟨by show _ = _ + (s.cost - s.cost); rw [Nat.sub_self]; rfl, Nat.le_refl _⟩
      | some u =>
        dsimp only
        split
        · obtain ⟨h1, h2⟩ := work_E (f := f) (fuel := fuel) n (s.step f u) rfl
          have e1 : (s.step f u).ta.length = s.ta.length + (grp u s.ra).length := List.length_append
          have e2 : (s.step f u).tb.length = s.tb.length + (grp u s.rb).length := List.length_append
          have e3 : (s.step f u).cost = s.cost + ((grp u s.ra).length + (grp u s.rb).length) := rfl
          omega
        · exact ⟨by show _ = _ + (s.cost - s.cost); rw [Nat.sub_self]; rfl, Nat.le_refl _⟩
    · exact ⟨by show _ = _ + (s.cost - s.cost); rw [Nat.sub_self]; rfl, Nat.le_refl _⟩
end Go.Proofs.YtllpfngmnccejaaGreat
