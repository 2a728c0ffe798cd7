/- The walk of the law on times advanced to a frontier, and then to a later one. -/
import Derived.Test.YtngklaompkcjaaaKeep
namespace Go.Proofs.Ytngklaompkcjaaa
open Go Go.RowKit

theorem foldl_inf (t : Tm) : ∀ (l : List Tm) (a s : Tm), s.le (l.foldl (fun a y => a.inf (t.sup y)) a) = (s.le a && l.all fun y => s.le (t.sup y))
  | [], a, s => by simp
  | x :: l, a, s => by
    rw [List.foldl_cons, foldl_inf t l, List.all_cons]
    have : s.le (a.inf (t.sup x)) = (s.le a && s.le (t.sup x)) := by
      rw [Bool.eq_iff_iff, Bool.and_eq_true, Tm.le_iff, Tm.le_iff, Tm.le_iff]
      simp only [Tm.inf]
      omega
    rw [this, Bool.and_assoc]
/-- what is ahead of an advanced time -/
theorem le_adv (s t : Tm) (l : List Tm) (h : l ≠ []) : s.le (adv t l) = l.all fun y => s.le (t.sup y) := by
  cases l with
  | nil => exact absurd rfl h
  | cons x l => simp [adv, foldl_inf]
theorem le_refl' (t : Tm) : t.le t = true := Tm.le_iff.2 ⟨Nat.le_refl _, Nat.le_refl _, Nat.le_refl _⟩
theorem le_anti {s t : Tm} (h : s.le t = true) (k : t.le s = true) : s = t := by
  rw [Tm.le_iff] at h k
  obtain ⟨a, b, c⟩ := s
  obtain ⟨d, e, f⟩ := t
  simp at *
  omega
theorem le_trans' {a b c : Tm} (h : a.le b = true) (k : b.le c = true) : a.le c = true := by
  rw [Tm.le_iff] at *; omega
/-- a time advanced to a list, then to a later one, is advanced to the later one -/
theorem adv_later (t : Tm) (f g : List Tm) (hg : g ≠ []) (h : ∀ x ∈ g, beyond f x = true) : adv (adv t f) g = adv t g := by
  have key : ∀ s : Tm, s.le (adv (adv t f) g) = s.le (adv t g) := by
    intro s
    rw [le_adv _ _ _ hg, le_adv _ _ _ hg, Bool.eq_iff_iff, List.all_eq_true, List.all_eq_true]
    have hsup : ∀ y ∈ g, (adv t f).sup y = t.sup y := by
      intro y hy
      by_cases hf : f = []
      · subst hf; simp [beyond] at h; exact absurd hy (by intro hy; exact (h y hy))
      obtain ⟨x, hx, hxy⟩ := List.any_eq_true.1 (h y hy)
      have h1 : t.le (adv t f) = true := by
        rw [le_adv _ _ _ hf, List.all_eq_true]; intro z _; rw [Tm.le_iff]; simp only [Tm.sup]; omega
      have h2 : (adv t f).le (t.sup x) = true := by
        have := le_refl' (adv t f)
        rw [le_adv _ _ _ hf, List.all_eq_true] at this
        exact this x hx
      rw [Tm.le_iff] at h1 h2 hxy
      simp only [Tm.sup] at h2 ⊢
      simp only [Tm.mk.injEq]
      omega
    constructor
    · intro k y hy; rw [← hsup y hy]; exact k y hy
    · intro k y hy; rw [hsup y hy]; exact k y hy
  exact le_anti (by rw [← key]; exact le_refl' _) (by rw [key]; exact le_refl' _)

attribute [local go_sem ↓] Go.wp_at_zero Go.wp_at_succ
theorem beyond_all {f g : List Tm} (h : ∀ (k : Nat) (x : Tm), g[k]? = some x → beyond f x = true) : ∀ x ∈ g, beyond f x = true := fun x hx => by
  obtain ⟨k, hk⟩ := List.mem_iff_getElem?.1 hx
  exact h k x hk

set_option maxRecDepth 100000 in
set_option maxHeartbeats 3200000 in
theorem farther_walk (t : Tm) (A : Option Addr) (c : Nat) (f : List Tm) (A' : Option Addr) (c' : Nat) (g : List Tm) (w : World) (hf : Times w w.heap.size A f) (hc : f.length ≤ c) (hn : f.length * 24 ≤ 140737488351232) (hm : c ≤ maxLen)
    (hg : Times w w.heap.size A' g) (hc' : g.length ≤ c') (hn' : g.length * 24 ≤ 140737488351232) (hm' : c' ≤ maxLen) :
    Calls Try.prog 11 #[t.val, .slice A f.length c, .slice A' g.length c'] w fun e w' => e = .returned (.bool true) ∧ Below w.heap.size w w' := by
  have a1 := fun x W h => Lib.hid (beyond_any A c f x W h (by unfold maxLen; omega))
  have a2 := fun W h => Lib.hid (advance_any t A c f W h hc hm)
  have a3 := fun x W h => Lib.hid (advance_any x A' c' g W h hc' hm')
  have hgd := fun (x1 y1 : Operand) (xs ys : Array Value) (w : World) => grd_time .eql x1 y1 xs ys w
  have q1 := fun (x : Tm) W => eql_time x x W
  have eself : ∀ t : Tm, eqT t t = true := fun t => eqT_iff.2 rfl
  simp only [eself] at q1
  clear eself
  unfold Tm.val at *
  have Hl := Lib.hid (And.intro hf hg)
  clear hf hg hm hm'
  go_enter Try.func11, Try.ntmps11
  go_wp2_with fail
  obtain ⟨W, hW, fb, f0⟩ := boxes1 w t
  rw [← hW]
  refine (fronts_true _).mono ?_
  rintro e w0 ⟨rfl, b0⟩
  have f1 := f0.past b0 f0.inside
  have fb1 : Below w.heap.size w w0 := fb.trans (b0.mono fb.size)
  have HF := Lib.hid (And.intro fb1 f1)
  have HL := Lib.hid (And.intro (times_keep Hl.out.1 fb1) (times_keep Hl.out.2 fb1))
  clear hW fb f0 b0 f1 fb1
  go_wp2_with fail
  go_loopw [13] (fun i wr => ∃ k : Nat, i = .int .i64 (k : Int) ∧ k ≤ g.length ∧ Below w0.heap.size w0 wr ∧ ∀ j x, j < k → g[j]? = some x → beyond f x = true)
    (fun i _ => g.length - (intOf i).toNat)
  case atStart => exact ⟨0, rfl, by omega, Below.refl _ _, fun j x hj => absurd hj (by omega)⟩
  case round =>
    obtain ⟨k, rfl, hk, hb, hall⟩ := hrel
    by_cases hlt : k < g.length
    · have hx : g[k]? = some g[k] := List.getElem?_eq_getElem hlt
      obtain ⟨b, o, rfl, hB, hgc⟩ := HL.out.2 (by omega)
      obtain ⟨c0, c1, c2⟩ := (hgc k _ hx).past hb hB
      generalize g[k] = y at *
      have hB2 : b < wr.heap.size := by have := hb.size; omega
      have HR := Lib.hid (And.intro hb (And.intro hall hx))
      have ht : ∀ o, Times (wr.alloc o) (wr.alloc o).heap.size A f := fun o => times_keep (times_keep HL.out.1 hb) (below_new (Below.refl _ _) o)
      have HT := Lib.hid ht
      clear hb hall hx hgc ht
      by_cases hbe : beyond f y = true
      · have a1 := fun W h => a1 y W h
        simp only [hbe] at a1
        have HE := Lib.hid hbe
        clear hbe
        go_wp2_with fail
        refine (a1 _ (HT.out _)).out.mono ?_
        rintro e w1 ⟨rfl, b1⟩
        have hb1 : Below wr.heap.size wr w1 := below_then (below_new (Below.refl _ _) _) (by simp) b1
        have H1 := Lib.hid hb1
        clear b1 hb1
        go_wp2_with fail
        obtain ⟨hb, hall, hx⟩ := HR.out
        go_roundw
        case rel =>
          refine ⟨k + 1, by go_num, by omega, hb.trans (H1.out.mono hb.size), fun j x hj hjx => ?_⟩
          by_cases hjk : j = k
          · subst hjk; rw [hx] at hjx; injection hjx with hjx; subst hjx; exact HE.out
          · exact hall j x (by omega) hjx
        case measure => simp [intOf]; omega
      · have hbf : beyond f y = false := by simpa using hbe
        have a1 := fun W h => a1 y W h
        simp only [hbf] at a1
        clear hbe hbf
        go_wp2_with fail
        refine (a1 _ (HT.out _)).out.mono ?_
        rintro e w1 ⟨rfl, b1⟩
        have hb1 : Below wr.heap.size wr w1 := below_then (below_new (Below.refl _ _) _) (by simp) b1
        have H1 := Lib.hid hb1
        clear b1 hb1
        go_wp2_with fail
        go_ret
        exact ⟨rfl, HF.out.1.trans ((HR.out.1.trans (H1.out.mono HR.out.1.size)).mono HF.out.1.size)⟩
    · have hk2 : k = g.length := by omega
      subst hk2
      have hlater : g ≠ [] → adv (adv t f) g = adv t g := fun hne => adv_later t f g hne (beyond_all fun j x hj => hall j x (by have := (List.getElem?_eq_some_iff.1 hj).1; omega) hj)
      have hwr := HF.out.2.past hb HF.out.2.inside
      have hbw : Below w.heap.size w wr := HF.out.1.trans (hb.mono HF.out.1.size)
      have HX := Lib.hid hwr
      have HB := Lib.hid hbw
      have HG := Lib.hid (And.intro (times_keep HL.out.1 hb) (times_keep HL.out.2 hb))
      clear hall hb hwr hbw
      by_cases hg0 : g.length = 0
      · have h24 : ((g.length : Int) == 0) = true := by rw [beq_iff_eq]; omega
        have hgn : g = [] := List.eq_nil_of_length_eq_zero hg0
        have ha : adv t g = t := by rw [hgn]; rfl
        have a3 := fun W h => a3 t W h
        simp only [ha] at a3
        clear hg0 hgn ha hlater
        go_wp2_with fail
        go_region_held3 (fun w' => Below wr.heap.size wr w' ∧ w'.cell? ⟨w.heap.size, 0, none⟩ = some (.int .u64 (t.e : Int)) ∧ w'.cell? ⟨w.heap.size, 1, none⟩ = some (.int .u64 (t.a : Int)) ∧ w'.cell? ⟨w.heap.size, 2, none⟩ = some (.int .u64 (t.b : Int)))
          ((refine keepB1 HX.out ?_; repeat (first | exact Below.refl _ _ | (apply And.left; assumption) | refine below_new ?_ _ | refine Below.drew ?_ | refine belows ?_ hb)))
          (first | (go_at_call 31; refine (a3 _ ?_).out.mono ?_; (refine times_keep HG.out.2 ?_; first | (apply And.left; assumption) | exact (Below.refl _ _).drew); rintro e w' ⟨rfl, hb⟩))
        all_goals
          go_wp2_with fail
          go_ret
          refine ⟨rfl, HB.out.trans (Below.mono (B := wr.heap.size) ?_ HB.out.size)⟩
          repeat (first | exact Below.refl _ _ | (apply And.left; assumption) | refine below_new ?_ _ | refine Below.drew ?_ | refine belows ?_ hb)
      · have h24 : ((g.length : Int) == 0) = false := by rw [beq_eq_false_iff_ne]; omega
        have ha := hlater (by intro h; rw [h] at hg0; exact hg0 rfl)
        have a4 := fun W h => a3 t W h
        have a3 := fun W h => a3 (adv t f) W h
        simp only [ha] at a3
        clear hg0 ha hlater
        generalize adv t g = u at *
        generalize adv t f = v at *
        go_wp2_with fail
        go_region_held3 (fun w' => Below wr.heap.size wr w' ∧ w'.cell? ⟨w.heap.size, 0, none⟩ = some (.int .u64 (t.e : Int)) ∧ w'.cell? ⟨w.heap.size, 1, none⟩ = some (.int .u64 (t.a : Int)) ∧ w'.cell? ⟨w.heap.size, 2, none⟩ = some (.int .u64 (t.b : Int)))
          ((refine keepB1 HX.out ?_; repeat (first | exact Below.refl _ _ | (apply And.left; assumption) | refine below_new ?_ _ | refine Below.drew ?_ | refine belows ?_ hb)))
          (first | (go_at_call 31; (first | (with_reducible refine (a2 _ ?_).out.mono ?_) | (with_reducible refine (a3 _ ?_).out.mono ?_) | (with_reducible refine (a4 _ ?_).out.mono ?_)); (first | (refine times_keep HG.out.1 ?_; first | (apply And.left; assumption) | exact (Below.refl _ _).drew) | (refine times_keep HG.out.2 ?_; first | (apply And.left; assumption) | exact (Below.refl _ _).drew)); rintro e w' ⟨rfl, hb⟩))
        all_goals
          go_wp2_with fail
          go_ret
          refine ⟨rfl, HB.out.trans (Below.mono (B := wr.heap.size) ?_ HB.out.size)⟩
          repeat (first | exact Below.refl _ _ | (apply And.left; assumption) | refine below_new ?_ _ | refine Below.drew ?_ | refine belows ?_ hb)
end Go.Proofs.Ytngklaompkcjaaa
