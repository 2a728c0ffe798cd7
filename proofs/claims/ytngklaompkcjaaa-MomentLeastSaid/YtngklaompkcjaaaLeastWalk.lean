/- The walk of the law on the least of times. -/
import Derived.Test.YtngklaompkcjaaaQuiet
import Derived.Test.YtngklaompkcjaaaFrontFacts
import Derived.Test.YtngklaompkcjaaaSame
namespace Go.Proofs.Ytngklaompkcjaaa
open Go Go.RowKit Go.Sort Go.Lib
attribute [local go_sem ↓] Go.wp_at_zero Go.wp_at_succ

theorem apart_at {f : List Tm} (hf : f.Pairwise Apart) {n m : Nat} {x y : Tm} (hx : f[n]? = some x) (hy : f[m]? = some y) (h : n < m) : Apart x y := by
  obtain ⟨h1, e1⟩ := List.getElem?_eq_some_iff.1 hx
  obtain ⟨h2, e2⟩ := List.getElem?_eq_some_iff.1 hy
  have := List.pairwise_iff_getElem.1 hf n m h1 h2 h
  rwa [e1, e2] at this
theorem frontL_len' (l : List Tm) : (frontL l).length ≤ l.length := Nat.le_trans (frontTo_len (sortT l) (sortT l).length (Nat.le_refl _)) (by rw [sortT_len]; exact Nat.le_refl _)
theorem past_tm {V : World} {b o : Nat} {t : Tm} (h : TmAt V b o t) (hb : b < V.heap.size) :
    (∀ p : Past V, p.w.cell? ⟨b, o, none⟩ = some (.int .u64 (t.e : Int))) ∧ (∀ p : Past V, p.w.cell? ⟨b, o + 1, none⟩ = some (.int .u64 (t.a : Int))) ∧ (∀ p : Past V, p.w.cell? ⟨b, o + 2, none⟩ = some (.int .u64 (t.b : Int))) :=
  ⟨fun p => (h.past p.h hb).1, fun p => (h.past p.h hb).2.1, fun p => (h.past p.h hb).2.2⟩

set_option maxRecDepth 100000 in
set_option maxHeartbeats 6400000 in
theorem least_walk (A : Option Addr) (c : Nat) (l : List Tm) (t : Tm) (w : World) (hl : Times w w.heap.size A l) (hc : l.length ≤ c) (hn : l.length * 24 ≤ 140737488351232) (hm : c ≤ maxLen) :
    Calls Try.prog 9 #[.slice A l.length c, t.val] w fun e w' => e = .returned (.bool true) ∧ Below w.heap.size w w' := by
  have hap := (frontL_facts l).1
  have hbt : beyond (frontL l) t = beyond l t := (frontL_facts l).2.2 t
  have hff := front_front l
  have hlf := frontL_len' l
  have f1 := fun W h => Lib.hid (front_any A c l W h hn)
  have f2 := fun B k W h => Lib.hid (front_any B k (frontL l) W h (by omega))
  rw [hff] at f2
  have g1 := fun W h => Lib.hid (beyond_any A c l t W h (by unfold maxLen; omega))
  have g2 := fun B k W h => Lib.hid (beyond_any B k (frontL l) t W h (by unfold maxLen; omega))
  rw [hbt] at g2
  generalize beyond l t = p at *
  have s1 := fun A1 A2 k1 k2 W h1 h2 => Lib.hid (same_any A1 A2 k1 k2 (frontL l) (frontL l) W h1 h2 (by unfold maxLen; omega) (by unfold maxLen; omega))
  have hdt : decide (frontL l = frontL l) = true := by simp
  rw [hdt] at s1
  clear hbt hff hdt
  generalize frontL l = F at *
  have a1 := fun x y W => Lib.hid (ahead_any x y W)
  have a2 := fun x y W => Lib.hid (compare_any x y W)
  unfold Tm.val at *
  have HA := Lib.hid hap
  have Hl := Lib.hid hl
  clear hl hap hm
  go_enter Try.func9, Try.ntmps9
  go_wp2_with fail
  obtain ⟨W, hW, fb, f0⟩ := boxes1 w t
  rw [← hW]
  refine (orders_true _).mono ?_
  rintro e w1 ⟨rfl, b1⟩
  have fb1 := fb.trans (b1.mono fb.size)
  have H1 := Lib.hid (And.intro fb1 (f0.past b1 f0.inside))
  clear hW fb f0 b1 fb1
  go_wp2_with fail
  refine (fronts_true _).mono ?_
  rintro e w2 ⟨rfl, b2⟩
  have fb2 := H1.out.1.trans (b2.mono H1.out.1.size)
  have H2 := Lib.hid (And.intro fb2 (And.intro (H1.out.2.past b2 H1.out.2.inside) (times_keep Hl.out fb2)))
  clear b2 fb2 H1 Hl
  go_wp2_with fail
  refine (f1 _ H2.out.2.2).out.mono ?_
  rintro e w3 ⟨v, rfl, ho, b3⟩
  obtain ⟨Af, cf, rfl, hcf, hcmf, htf⟩ := times_of_own rfl ho
  have H3 := Lib.hid (And.intro (H2.out.1.trans (b3.mono H2.out.1.size)) (And.intro (H2.out.2.1.past b3 H2.out.2.1.inside) (And.intro (times_keep H2.out.2.2 b3) htf)))
  clear ho b3 hcf hcmf htf H2 f1
  go_wp2_with fail
  go_loopw [18] (fun i wr => ∃ n : Nat, i = .int .i64 (n : Int) ∧ n ≤ F.length ∧ Below w3.heap.size w3 wr)
    (fun i _ => F.length - (intOf i).toNat)
  case atStart => exact ⟨0, rfl, by omega, Below.refl _ _⟩
  case round =>
    obtain ⟨n, rfl, hnn, hbo⟩ := hrel
    obtain ⟨wo, rfl⟩ : ∃ wo : World, wo = wr := ⟨_, rfl⟩
    by_cases hlt : n < F.length
    · have HO := Lib.hid hbo
      clear hbo
      go_wp2_with fail
      go_loopw [23] (fun i wr => ∃ m : Nat, i = .int .i64 (m : Int) ∧ m ≤ F.length ∧ Below w3.heap.size w3 wr)
        (fun i _ => F.length - (intOf i).toNat)
      case atStart => exact ⟨0, rfl, by omega, HO.out⟩
      case round =>
        obtain ⟨m, rfl, hmm, hbr⟩ := hrel
        by_cases hlm : m < F.length
        · have hx : F[n]? = some F[n] := List.getElem?_eq_getElem hlt
          have hy : F[m]? = some F[m] := List.getElem?_eq_getElem hlm
          have hxy : n < m → Apart F[n] F[m] := apart_at HA.out hx hy
          have hyx : m < n → Apart F[m] F[n] := apart_at HA.out hy hx
          obtain ⟨b, o, rfl, hB, hfc⟩ := H3.out.2.2.2 (by omega)
          obtain ⟨c0, c1, c2⟩ := past_tm (hfc n _ hx) hB
          obtain ⟨d0, d1, d2⟩ := past_tm (hfc m _ hy) hB
          have q0 : (0 : Int) ≤ (n : Int) := by omega
          have q1 : (n : Int) < (F.length : Int) := by omega
          have q2 : (0 : Int) ≤ (m : Int) := by omega
          have q3 : (m : Int) < (F.length : Int) := by omega
          generalize F[n] = x at *
          generalize F[m] = y at *
          have a1 := fun P : Past w3 => a1 x y P.w
          have a2 := fun P : Past w3 => a2 x y P.w
          have HR := Lib.hid hbr
          clear hfc hbr hx hy
          rcases (by omega : n = m ∨ n < m ∨ m < n) with hnm | hnm | hnm
          · have t1 : ((n : Int) != (m : Int)) = false := by simp [hnm]
            have t2 : decide (n < m) = false := by simp; omega
            clear hxy hyx hnm
            go_wp2_with fail
            refine wp_region_past w3 (by kernel_rfl) (by kernel_rfl) HR.out ?_
            repeat (first | go_big_quiet_step (fail) | quiet_step (fail))
            refine wpQuiet_nil ?_
            intro _ hw'
            obtain ⟨⟨wz, hbz⟩, hw''⟩ := hw'
            subst hw''
            have HZ := Lib.hid hbz
            clear hbz
            go_wp2_with fail
            go_roundw
            case rel => exact ⟨m + 1, by go_num, by omega, HZ.out⟩
            case measure => simp [intOf]; omega
          · have t1 : ((n : Int) != (m : Int)) = true := by simp; omega
            have t2 : decide (n < m) = true := by simp; omega
            obtain ⟨hp1, hp2, hp3⟩ := hxy hnm
            simp only [hp2] at a1
            have hr : decide ((0 : Int) ≤ x.cmp y) = false := by unfold ltOf at hp1; simp at hp1 ⊢; omega
            generalize x.cmp y = r at a2 hr
            clear hxy hyx hnm hp1 hp2 hp3
            go_wp2_with fail
            refine wp_region_past w3 (by kernel_rfl) (by kernel_rfl) HR.out ?_
            repeat (first | go_big_quiet_step ((first | (go_at_call 14; exact calls_past (a1 _).out) | (go_at_call 16; exact calls_past (a2 _).out))) | quiet_step ((first | (go_at_call 14; exact calls_past (a1 _).out) | (go_at_call 16; exact calls_past (a2 _).out))))
            refine wpQuiet_nil ?_
            intro _ hw'
            obtain ⟨⟨wz, hbz⟩, hw''⟩ := hw'
            subst hw''
            have HZ := Lib.hid hbz
            clear hbz
            go_wp2_with fail
            go_roundw
            case rel => exact ⟨m + 1, by go_num, by omega, HZ.out⟩
            case measure => simp [intOf]; omega
          · have t1 : ((n : Int) != (m : Int)) = true := by simp; omega
            have t2 : decide (n < m) = false := by simp; omega
            obtain ⟨hp1, hp2, hp3⟩ := hyx hnm
            simp only [hp3] at a1
            clear hxy hyx hnm hp1 hp2 hp3
            go_wp2_with fail
            refine wp_region_past w3 (by kernel_rfl) (by kernel_rfl) HR.out ?_
            repeat (first | go_big_quiet_step ((first | (go_at_call 14; exact calls_past (a1 _).out) | (go_at_call 16; exact calls_past (a2 _).out))) | quiet_step ((first | (go_at_call 14; exact calls_past (a1 _).out) | (go_at_call 16; exact calls_past (a2 _).out))))
            refine wpQuiet_nil ?_
            intro _ hw'
            obtain ⟨⟨wz, hbz⟩, hw''⟩ := hw'
            subst hw''
            have HZ := Lib.hid hbz
            clear hbz
            go_wp2_with fail
            go_roundw
            case rel => exact ⟨m + 1, by go_num, by omega, HZ.out⟩
            case measure => simp [intOf]; omega
        · have hk2 : m = F.length := by omega
          have HR := Lib.hid (And.intro hbr hk2)
          clear hbr hk2
          go_wp2_with fail
          go_roundw
          case rel => exact ⟨n + 1, by go_num, by omega, HR.out.1⟩
          case measure => simp [intOf]; omega
    · have HR := Lib.hid hbo
      clear hbo
      have f0 := H3.out.2.1.past HR.out H3.out.2.1.inside
      have HX := Lib.hid f0
      have HB := Lib.hid (H3.out.1.trans (HR.out.mono H3.out.1.size))
      have HT := Lib.hid (And.intro (times_keep H3.out.2.2.1 HR.out) (times_keep H3.out.2.2.2 HR.out))
      clear f0 HR
      go_wp2_with fail
      go_region_held3 (fun w' => Below wo.heap.size wo w' ∧ w'.cell? ⟨w.heap.size, 0, none⟩ = some (.int .u64 (t.e : Int)) ∧ w'.cell? ⟨w.heap.size, 1, none⟩ = some (.int .u64 (t.a : Int)) ∧ w'.cell? ⟨w.heap.size, 2, none⟩ = some (.int .u64 (t.b : Int)))
        ((refine keepB1 HX.out ?_; repeat (first | exact Below.refl _ _ | (apply And.left; assumption) | refine below_new ?_ _ | refine Below.drew ?_ | refine belows ?_ hb)))
        (first | (go_at_call 29; (first | (with_reducible refine (g1 _ ?_).out.mono ?_; (refine times_keep HT.out.1 ?_; repeat (first | exact Below.refl _ _ | (apply And.left; assumption) | refine below_new ?_ _ | refine Below.drew ?_ | refine belows ?_ hb))) | (with_reducible refine (g2 _ _ _ ?_).out.mono ?_; (refine times_keep HT.out.2 ?_; repeat (first | exact Below.refl _ _ | (apply And.left; assumption) | refine below_new ?_ _ | refine Below.drew ?_ | refine belows ?_ hb)))); rintro e w' ⟨rfl, hb⟩) | (go_at_call 27; refine (f2 _ _ _ ?_).out.mono ?_; (refine times_keep HT.out.2 ?_; repeat (first | exact Below.refl _ _ | (apply And.left; assumption) | refine below_new ?_ _ | refine Below.drew ?_ | refine belows ?_ hb)); rintro e w' ⟨vf, rfl, hof, hb⟩; obtain ⟨Ag, cg, rfl, hcg, hcmg, htg⟩ := times_of_own rfl hof; have HFr := Lib.hid htg; clear hof htg hcg hcmg) | (go_at_call 26; refine (s1 Ag Af cg cf _ HFr.out ?_).out.mono ?_; (refine times_keep HT.out.2 ?_; repeat (first | exact Below.refl _ _ | (apply And.left; assumption) | refine below_new ?_ _ | refine Below.drew ?_ | refine belows ?_ hb)); rintro e w' ⟨rfl, hb⟩))
      all_goals
        go_wp2_with fail
        go_ret
        refine ⟨rfl, HB.out.trans (Below.mono (B := wo.heap.size) ?_ HB.out.size)⟩
        repeat (first | exact Below.refl _ _ | (apply And.left; assumption) | refine below_new ?_ _ | refine Below.drew ?_ | refine belows ?_ hb)
end Go.Proofs.Ytngklaompkcjaaa
