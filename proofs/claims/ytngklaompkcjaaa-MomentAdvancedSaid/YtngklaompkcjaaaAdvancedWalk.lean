/- The walk of the law on advanced times. -/
import Derived.Test.YtngklaompkcjaaaFrontFacts
import Derived.Deep.DeepCutAuto
namespace Go.Proofs.Ytngklaompkcjaaa
open Go Go.RowKit
attribute [local go_sem ↓] Go.wp_at_zero Go.wp_at_succ

set_option maxRecDepth 100000 in
set_option maxHeartbeats 3200000 in
theorem advanced_walk (t : Tm) (A : Option Addr) (c : Nat) (f : List Tm) (s : Tm) (w : World) (hf : Times w w.heap.size A f) (hc : f.length ≤ c) (hn : f.length * 24 ≤ 140737488351232) (hm : c ≤ maxLen) :
    Calls Try.prog 8 #[t.val, .slice A f.length c, s.val] w fun e w' => e = .returned (.bool true) ∧ Below w.heap.size w w' := by
  have hfl : (frontL f).length ≤ f.length := Nat.le_trans (frontTo_len (sortT f) (sortT f).length (Nat.le_refl _)) (by rw [sortT_len]; exact Nat.le_refl _)
  have a1 := fun W h => Lib.hid (advance_any t A c f W h hc hm)
  have a2 := fun W h => Lib.hid (beyond_any A c f s W h (by unfold maxLen; omega))
  have a3 := fun W => Lib.hid (ahead_any t s W)
  have a4 := fun W => Lib.hid (ahead_any (adv t f) s W)
  have a5 := fun W => Lib.hid (ahead_any t (adv t f) W)
  have a6 := fun W h => Lib.hid (advance_any (adv t f) A c f W h hc hm)
  have a7 := fun W h => Lib.hid (front_any A c f W h hn)
  have a8 := fun A c W h hc hm => Lib.hid (advance_any t A c (frontL f) W h hc hm)
  rw [adv_again] at a6
  rw [adv_front] at a8
  rw [le_adv_t] at a5
  have hgd := fun (x1 y1 : Operand) (xs ys : Array Value) (w : World) => grd_time .eql x1 y1 xs ys w
  have q1 := fun W => eql_time (adv t f) (adv t f) W
  have eself : ∀ t : Tm, eqT t t = true := fun t => eqT_iff.2 rfl
  simp only [eself] at q1
  have hsame : beyond f s = true → t.le s = (adv t f).le s := adv_same t s f
  clear eself
  generalize adv t f = u at *
  unfold Tm.val at *
  have Hl := Lib.hid hf
  clear hf
  go_enter Try.func8, Try.ntmps8
  go_wp2_with fail
  obtain ⟨W, hW, fb, f0, f1⟩ := boxes2 w t s
  rw [← hW]
  refine (orders_true _).mono ?_
  rintro e w0 ⟨rfl, b0⟩
  have H0 := Lib.hid (And.intro (fb.trans (b0.mono fb.size)) (And.intro (f0.past b0 f0.inside) (f1.past b0 f1.inside)))
  clear hW fb f0 f1 b0
  go_wp2_with fail
  refine (fronts_true _).mono ?_
  rintro e w1 ⟨rfl, b1⟩
  obtain ⟨fb, f0, f1⟩ := H0.out
  have H1 := Lib.hid (And.intro (fb.trans (b1.mono fb.size)) (And.intro (f0.past b1 f0.inside) (f1.past b1 f1.inside)))
  have d := own_cells (f0.past b1 f0.inside) (Below.refl _ _)
  obtain ⟨d0, d1, d2⟩ := d
  have HT := Lib.hid (times_keep Hl.out (fb.trans (b1.mono fb.size)))
  clear fb f0 f1 b1 H0
  go_wp2_with fail
  refine (a1 _ HT.out).out.mono ?_
  rintro e w2 ⟨rfl, b2⟩
  obtain ⟨fb, f0, f1⟩ := H1.out
  have H2 := Lib.hid (And.intro (fb.trans (b2.mono fb.size)) (And.intro (f0.past b2 f0.inside) (f1.past b2 f1.inside)))
  have HT2 := Lib.hid (times_keep HT.out b2)
  clear fb f0 f1 b2 H1 HT d0 d1 d2 Hl
  go_wp2_with fail
  obtain ⟨V, hV, gb, g0⟩ := boxes1 w2 u
  rw [← hV]
  obtain ⟨fb, f0, f1⟩ := H2.out
  have HX := Lib.hid (And.intro (f0.past gb f0.inside) (And.intro (f1.past gb f1.inside) g0))
  have HF := Lib.hid (fb.trans (gb.mono fb.size))
  have HT := Lib.hid (times_keep HT2.out gb)
  clear hV gb g0 fb f0 f1 H2 HT2
  go_cut [28] (fun s28 wx => s28 = .bool false ∧ Below V.heap.size V wx)
  case first =>
    by_cases hbe : beyond f s = true
    · have hp := hsame hbe
      simp only [hbe] at a2
      rw [hp] at a3
      generalize u.le s = p at a3 a4
      clear hp hbe hsame
      go_region_held3 (fun w' => Below V.heap.size V w' ∧ w'.cell? ⟨w.heap.size, 0, none⟩ = some (.int .u64 (t.e : Int)) ∧ w'.cell? ⟨w.heap.size, 1, none⟩ = some (.int .u64 (t.a : Int)) ∧ w'.cell? ⟨w.heap.size, 2, none⟩ = some (.int .u64 (t.b : Int)) ∧
            w'.cell? ⟨w.heap.size + 1, 0, none⟩ = some (.int .u64 (s.e : Int)) ∧ w'.cell? ⟨w.heap.size + 1, 1, none⟩ = some (.int .u64 (s.a : Int)) ∧ w'.cell? ⟨w.heap.size + 1, 2, none⟩ = some (.int .u64 (s.b : Int)) ∧
            w'.cell? ⟨w2.heap.size, 0, none⟩ = some (.int .u64 (u.e : Int)) ∧ w'.cell? ⟨w2.heap.size, 1, none⟩ = some (.int .u64 (u.a : Int)) ∧ w'.cell? ⟨w2.heap.size, 2, none⟩ = some (.int .u64 (u.b : Int)))
          ((refine keepB3 HX.out.1 HX.out.2.1 HX.out.2.2 ?_; repeat (first | exact Below.refl _ _ | (apply And.left; assumption) | refine below_new ?_ _ | refine Below.drew ?_ | refine belows ?_ hb)))
          (first | (go_at_call 29; refine (a2 _ ?_).out.mono ?_; (refine times_keep HT.out ?_; first | (apply And.left; assumption) | exact (Below.refl _ _).drew); rintro e w' ⟨rfl, hb⟩) | (go_at_call 14; (first | (with_reducible refine (a3 _).out.mono ?_) | (with_reducible refine (a4 _).out.mono ?_)); rintro e w' ⟨rfl, hb⟩))
      all_goals
        go_wp2_with fail
        go_meet
        refine ⟨rfl, ?_⟩
        repeat (first | exact Below.refl _ _ | (apply And.left; assumption) | refine below_new ?_ _ | refine Below.drew ?_ | refine belows ?_ hb)
    · have hbf : beyond f s = false := by simpa using hbe
      simp only [hbf] at a2
      clear hsame hbe hbf a1 a3 a4 a5 a6 a7 a8 hc hn hm hfl
      obtain ⟨d0, d1, d2⟩ := own_cells HX.out.2.1 (Below.refl _ _)
      have HD := Lib.hid hgd
      clear hgd q1
      go_region_with (go_at_call 29; refine (a2 _ (times_keep HT.out (Below.refl _ _).drew)).out.mono ?_; rintro e w' ⟨rfl, hb⟩)
      all_goals
        go_wp2_with fail
        go_meet
        refine ⟨rfl, ?_⟩
        repeat (first | exact Below.refl _ _ | (apply And.left; assumption) | refine below_new ?_ _ | refine Below.drew ?_ | refine belows ?_ hb)
  case rest =>
    obtain ⟨rfl, hcb⟩ := hcut
    clear a1 a2 a3 a4 hsame
    have f0 := HX.out.1.past hcb HX.out.1.inside
    have f1 := HX.out.2.1.past hcb HX.out.2.1.inside
    have f2 := HX.out.2.2.past hcb HX.out.2.2.inside
    have HT := Lib.hid (times_keep HT.out hcb)
    have HX := Lib.hid (And.intro f0 (And.intro f1 f2))
    have HF := Lib.hid (HF.out.trans (hcb.mono HF.out.size))
    clear f0 f1 f2 hcb
    go_wp2_with fail
    go_region_held3 (fun w' => Below wc.heap.size wc w' ∧ w'.cell? ⟨w.heap.size, 0, none⟩ = some (.int .u64 (t.e : Int)) ∧ w'.cell? ⟨w.heap.size, 1, none⟩ = some (.int .u64 (t.a : Int)) ∧ w'.cell? ⟨w.heap.size, 2, none⟩ = some (.int .u64 (t.b : Int)) ∧
          w'.cell? ⟨w.heap.size + 1, 0, none⟩ = some (.int .u64 (s.e : Int)) ∧ w'.cell? ⟨w.heap.size + 1, 1, none⟩ = some (.int .u64 (s.a : Int)) ∧ w'.cell? ⟨w.heap.size + 1, 2, none⟩ = some (.int .u64 (s.b : Int)) ∧
          w'.cell? ⟨w2.heap.size, 0, none⟩ = some (.int .u64 (u.e : Int)) ∧ w'.cell? ⟨w2.heap.size, 1, none⟩ = some (.int .u64 (u.a : Int)) ∧ w'.cell? ⟨w2.heap.size, 2, none⟩ = some (.int .u64 (u.b : Int)))
        ((refine keepB3 HX.out.1 HX.out.2.1 HX.out.2.2 ?_; repeat (first | exact Below.refl _ _ | (apply And.left; assumption) | refine below_new ?_ _ | refine Below.drew ?_ | refine belows ?_ hb)))
        (first | (go_at_call 14; refine (a5 _).out.mono ?_; rintro e w' ⟨rfl, hb⟩) | (go_at_call 27; refine (a7 _ ?_).out.mono ?_; (refine times_keep HT.out ?_; repeat (first | exact Below.refl _ _ | (apply And.left; assumption) | refine below_new ?_ _ | refine Below.drew ?_ | refine belows ?_ hb)); rintro e w' ⟨vf, rfl, hof, hb⟩; obtain ⟨Af, cf, rfl, hcf, hcmf, htf⟩ := times_of_own rfl hof; have HFr := Lib.hid (And.intro htf (And.intro hcf hcmf)); clear hof htf hcf hcmf) | (go_at_call 31; (first | (with_reducible refine (a6 _ ?_).out.mono ?_; (refine times_keep HT.out ?_; repeat (first | exact Below.refl _ _ | (apply And.left; assumption) | refine below_new ?_ _ | refine Below.drew ?_ | refine belows ?_ hb))) | (with_reducible refine (a8 Af cf _ ?_ HFr.out.2.1 HFr.out.2.2).out.mono ?_; first | exact HFr.out.1 | exact times_keep HFr.out.1 (Below.refl _ _).drew)); rintro e w' ⟨rfl, hb⟩))
    all_goals
      go_wp2_with fail
      go_ret
      refine ⟨rfl, HF.out.trans (Below.mono (B := wc.heap.size) ?_ HF.out.size)⟩
      repeat (first | exact Below.refl _ _ | (apply And.left; assumption) | refine below_new ?_ _ | refine Below.drew ?_ | refine belows ?_ hb)
end Go.Proofs.Ytngklaompkcjaaa
