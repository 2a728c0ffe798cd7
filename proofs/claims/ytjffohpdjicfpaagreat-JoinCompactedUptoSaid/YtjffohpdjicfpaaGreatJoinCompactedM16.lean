/- Part 16 of the texts on which JoinCompacted rests: facts and contracts. -/
import Derived.Test.YtjffohpdjicfpaaGreatJoinCompactedM15
namespace Go.Proofs.YtjffohpdjicfpaaGreat
open Go Go.RowKit
set_option maxRecDepth 100000 in
set_option maxHeartbeats 25600000 in
theorem step_any (left right : Sp) (port : Int) (A : Option Addr) (c : Nat) (l : List Up) (w : World) (hL : SpIn w w.heap.size left) (oL : SpOk left) (hR : SpIn w w.heap.size right) (oR : SpOk right) (hl : Ups w w.heap.size A l) (ol : ∀ u ∈ l, UOk u) (wL : wtS left.L ≤ 1048576) (wR : wtS right.L ≤ 1048576) (hn : l.length ≤ 1048576) :
    Calls Tryz.prog 12 #[left.val, right.val, .int .i64 port, .slice A l.length c] w (StepS left right port l w) := by
  obtain ⟨V, hV, hvb, hv1, hv2, hz1, hz2, hz3, hvs⟩ := step_box w left right
  have y1 := Lib.hid (jcheck_any left right port A c l V (hL.keep hvb) oL (hR.keep hvb) oR (hl.keep hvb) ol (by omega))
  have H := Lib.hid (And.intro hL (And.intro oL (And.intro hR (And.intro oR (And.intro hl (And.intro ol (And.intro wL wR)))))))
  have HB := Lib.hid (And.intro hvb (And.intro hv1 (And.intro hv2 (And.intro hz1 (And.intro hz2 (And.intro hz3 hvs))))))
  have hlv : left.val = .agg #[.slice left.sA left.f.length left.sc, .slice left.lA left.L.length left.lc] := rfl
  have hrv : right.val = .agg #[.slice right.sA right.f.length right.sc, .slice right.lA right.L.length right.lc] := rfl
  rw [hlv, hrv] at y1 ⊢
  obtain ⟨d0, d1⟩ := own2 hv1
  obtain ⟨e0, e1⟩ := own2 hv2
  clear hL oL hR oR hl ol wL wR hvb hv1 hv2 hz1 hz2 hz3 hvs
  go_enter Tryz.func12, Tryz.ntmps12
  go_upto_region 1 with fail
  rw [← hV]
  clear hV
  go_wp2_with fail
  refine y1.out.mono ?_
  rintro _ w1 ⟨Z, rfl, hZ, b1⟩
  have hbw := belows HB.out.1 b1
  have o2 := HB.out.2.2.2.1.past b1 HB.out.2.2.2.1.inside
  have o3 := HB.out.2.2.2.2.1.past b1 HB.out.2.2.2.2.1.inside
  have o4 := HB.out.2.2.2.2.2.1.past b1 HB.out.2.2.2.2.2.1.inside
  have H1 := Lib.hid (And.intro hbw (And.intro hZ (And.intro o2 (And.intro o3 (And.intro o4 b1)))))
  clear hZ b1 d0 d1 e0 e1 y1 hbw
  by_cases hZ0 : Z = 0
  case neg =>
    have t1 : (Z != 0) = true := bne_iff_ne.2 hZ0
    have HN := Lib.hid hZ0
    have o3 : Own w1 (w.heap.size + 1 + 1 + 1) 36 [.slice none 0 0, .slice none 0 0] := o3
    have o2 : Own w1 (w.heap.size + 1 + 1) 36 [.slice none 0 0, .slice none 0 0] := o2
    have o4 : Own w1 (w.heap.size + 1 + 1 + 1 + 1) 26 [.int .u64 0, .int .u64 0, .int .u64 0] := o4
    obtain ⟨X2, hX2⟩ : ∃ X, X = (w1.setCell ⟨w.heap.size + 1 + 1, 0, none⟩ (.slice none 0 0)).setCell ⟨w.heap.size + 1 + 1, 1, none⟩ (.slice none 0 0) := ⟨_, rfl⟩
    have k2 : KeptK w1 X2 (fun b => b = w.heap.size + 1 + 1) := by rw [hX2]; exact kept_two _ _
    have p2 : Own X2 (w.heap.size + 1 + 1) 36 [.slice none 0 0, .slice none 0 0] := by rw [hX2]; exact (o2.set_ 0 _).set_ 1 _
    have p3 := k2.own o3 (by omega)
    have p4 := k2.own o4 (by omega)
    have b2 : Below w.heap.size w X2 := by rw [hX2]; exact below_two H1.out.1 (by omega) _ _
    obtain ⟨X3, hX3⟩ : ∃ X, X = (X2.setCell ⟨w.heap.size + 1 + 1 + 1, 0, none⟩ (.slice none 0 0)).setCell ⟨w.heap.size + 1 + 1 + 1, 1, none⟩ (.slice none 0 0) := ⟨_, rfl⟩
    have k3 : KeptK X2 X3 (fun b => b = w.heap.size + 1 + 1 + 1) := by rw [hX3]; exact kept_two _ _
    have r3 : Own X3 (w.heap.size + 1 + 1 + 1) 36 [.slice none 0 0, .slice none 0 0] := by rw [hX3]; exact (p3.set_ 0 _).set_ 1 _
    have r2 := k3.own p2 (by omega)
    have r4 := k3.own p4 (by omega)
    have b3 : Below w.heap.size w X3 := by rw [hX3]; exact below_two b2 (by omega) _ _
    have s4 := zero_three r4
    obtain ⟨X4, hX4⟩ : ∃ X, X = ((X3.setCell ⟨w.heap.size + 1 + 1 + 1 + 1, 0, none⟩ (.int .u64 0)).setCell ⟨w.heap.size + 1 + 1 + 1 + 1, 1, none⟩ (.int .u64 0)).setCell ⟨w.heap.size + 1 + 1 + 1 + 1, 2, none⟩ (.int .u64 0) := ⟨_, rfl⟩
    have k4 : KeptK X3 X4 (fun b => b = w.heap.size + 1 + 1 + 1 + 1) := by
      rw [hX4]
      exact KeptK.set_ (S := fun b => b = w.heap.size + 1 + 1 + 1 + 1) (KeptK.set_ (S := fun b => b = w.heap.size + 1 + 1 + 1 + 1) (KeptK.set_ (S := fun b => b = w.heap.size + 1 + 1 + 1 + 1) (KeptK.refl _ _) (.inl rfl) _) (.inl rfl) _) (.inl rfl) _
    rw [← hX4] at s4
    have s2 := k4.own r2 (by omega)
    have s3 := k4.own r3 (by omega)
    have b4 : Below w.heap.size w X4 := b3.trans (k4.below (fun b e => by omega) b3.size)
    obtain ⟨a0, a1⟩ := own2 o2
    have f0 := o2.open_ 0
    have f1 := o2.open_ 1
    obtain ⟨c0, c1⟩ := own2 p3
    have g0 := p3.open_ 0
    have g1 := p3.open_ 1
    obtain ⟨m0, m1, m2⟩ := own3 r4
    have h0 := r4.open_ 0
    have h1 := r4.open_ 1
    have h2 := r4.open_ 2
    obtain ⟨x0, x1⟩ := own2 s2
    obtain ⟨x2, x3⟩ := own2 s3
    obtain ⟨x4, x5, x6⟩ := own3 s4
    have HF := Lib.hid (show StepS left right port l w (.returned (.tuple #[.agg #[.slice none 0 0, .slice none 0 0], .agg #[.slice none 0 0, .slice none 0 0], .slice none 0 0, .agg #[.int .u64 0, .int .u64 0, .int .u64 0], .int .i64 Z])) X4 from ⟨Sp.nil, Sp.nil, none, 0, [], ⟨0, 0, 0⟩, Z, rfl, .inl ⟨Z, H1.out.2.1, HN.out, rfl, rfl, rfl, rfl⟩, sp_nil_in _ _, sp_nil_ok, sp_nil_lo _, sp_nil_in _ _, sp_nil_ok, sp_nil_lo _, ⟨Lies.nil_, fun u hu => (by cases hu)⟩, fun u hu => (by cases hu), Nat.zero_le _, b4⟩)
    clear hZ0 o2 o3 o4 k2 p2 p3 p4 b2 k3 r3 r2 r4 b3 s4 k4 s2 s3 b4
    subst hX4 hX3 hX2
    go_wp2_with fail
    exact bodyPost_ret (v := .tuple #[.agg #[.slice none 0 0, .slice none 0 0], .agg #[.slice none 0 0, .slice none 0 0], .slice none 0 0, .agg #[.int .u64 0, .int .u64 0, .int .u64 0], .int .i64 Z]) (by simp [results, Tryz.results12, go_sem, x0, x1, x2, x3, x4, x5, x6]) rfl HF.out
  subst hZ0
  have hg : (SpGood left.f left.L ∧ SpGood right.f right.L) ∧ (port = 0 ∨ port = 1) ∧ chkUs l = 0 := by
    rcases H1.out.2.1 with ⟨_, h⟩ | ⟨h, ⟨_, h2⟩ | ⟨h2, h3⟩⟩
    · exact absurd h (by decide)
    · exact absurd h2 (by decide)
    · exact ⟨h, h2, h3.symm⟩
  have v1 := HB.out.2.1.past H1.out.2.2.2.2.2 HB.out.2.1.inside
  have v2 := HB.out.2.2.1.past H1.out.2.2.2.2.2 HB.out.2.2.1.inside
  have hLw := H.out.1.keep H1.out.1
  have hRw := H.out.2.2.1.keep H1.out.1
  have z1 := fun W (h : Bl w1 W) => Lib.hid (copyS_anyC left W (hLw.keep h) H.out.2.1 hg.1.1 (by have := H.out.2.2.2.2.2.2.1; omega))
  have z2 := fun W (h : Bl w1 W) => Lib.hid (copyS_anyC right W (hRw.keep h) H.out.2.2.2.1 hg.1.2 (by have := H.out.2.2.2.2.2.2.2; omega))
  have hwz : w.heap.size < w1.heap.size := by
    have y1 := H1.out.2.2.2.2.2.size
    have y2 := HB.out.2.2.2.2.2.2
    omega
  have HG := Lib.hid hg
  have HV := Lib.hid (And.intro v1 v2)
  have hself := Bl.refl w1
  have hbs : w1.heap.size ≤ w1.heap.size := Nat.le_refl _
  have HS := Lib.hid (fun W (h : Bm w1.heap.size w1 W) => And.intro (own2 (v1.past h v1.inside)) (own2 (v2.past h v2.inside)))
  obtain ⟨d0, d1⟩ := own2 v1
  obtain ⟨e0, e1⟩ := own2 v2
  rw [hlv] at z1
  rw [hrv] at z2
  clear hg v1 v2 hLw hRw o2 o3 o4
  go_upto_region 4 with fail
  go_cut [14] (fun s14 wx => ∃ (Q : Nat) (a b : Sp), s14 = .pointer (some ⟨Q, 0, none⟩) ∧ Own wx Q 77 (a.cells ++ b.cells) ∧ w1.heap.size ≤ Q ∧ CopySC left a w1.heap.size wx ∧ CopySC right b w1.heap.size wx ∧ Below w1.heap.size w1 wx)
  case first =>
    go_region_held3 (fun w' => Bm w1.heap.size w1 w' ∧ ((w'.cell? ⟨w.heap.size, 0, none⟩ = some (.slice left.sA left.f.length left.sc) ∧ w'.cell? ⟨w.heap.size, 1, none⟩ = some (.slice left.lA left.L.length left.lc)) ∧ (w'.cell? ⟨w.heap.size + 1, 0, none⟩ = some (.slice right.sA right.f.length right.sc) ∧ w'.cell? ⟨w.heap.size + 1, 1, none⟩ = some (.slice right.lA right.L.length right.lc))))
      ((refine (fun h => And.intro h (HS.out _ h)) ?_; repeat (first | with_reducible exact Bm.of hb2 hbs | with_reducible exact Bm.of hb1 hbs | with_reducible exact Bm.of hself hbs | with_reducible refine Bm.set ?_ (by first | exact Nat.le_refl _ | exact hb1.below.size | (have z6 := hb1.below.size; simp; omega) | (have z6 := hb2.below.size; simp; omega)) _ _ | with_reducible refine Bm.more ?_ hbs _ | with_reducible refine Bm.drew ?_)))
      (first | (go_at_call 28; with_reducible refine (z2 _ ?_).out.mono ?_; (repeat (first | with_reducible exact hb1 | with_reducible refine Bl.more ?_ _ | with_reducible refine Bl.drew ?_)); intro x3 w3 hc3; unfold CopiedSC at hc3; obtain ⟨b, rfl, hcb, b3⟩ := hc3; have hb2 : Bl w1 w3 := Bl.call (by repeat (first | with_reducible exact hb1 | with_reducible refine Bl.more ?_ _ | with_reducible refine Bl.drew ?_)) b3; (rw [show b.val = .agg #[.slice b.sA b.f.length b.sc, .slice b.lA b.L.length b.lc] from rfl]); (try (have oz : Own w3 w1.heap.size 77 [.slice none 0 0, .slice none 0 0, .slice none 0 0, .slice none 0 0] := oz1.past b3 (by have := oz1.inside; simpa using this); obtain ⟨e0, e1⟩ := own4a oz; obtain ⟨e2, e3⟩ := own4l oz; have f0 := oz.open_ 0; have f1 := oz.open_ 1; have f2 := oz.open_ 2; have f3 := oz.open_ 3)); (try (have oz : Own w3 w2.heap.size 77 [.slice none 0 0, .slice none 0 0, .slice none 0 0, .slice none 0 0] := (Own.past (by first | exact Own.made _ _ [.slice none 0 0, .slice none 0 0, .slice none 0 0, .slice none 0 0] | exact own_drewKS (Own.made _ _ [.slice none 0 0, .slice none 0 0, .slice none 0 0, .slice none 0 0])) b3 (by simp)); obtain ⟨e0, e1⟩ := own4a oz; obtain ⟨e2, e3⟩ := own4l oz; have f0 := oz.open_ 0; have f1 := oz.open_ 1; have f2 := oz.open_ 2; have f3 := oz.open_ 3))) | (go_at_call 28; with_reducible refine (z1 _ ?_).out.mono ?_; (repeat (first | with_reducible exact hself | with_reducible refine Bl.more ?_ _ | with_reducible refine Bl.drew ?_)); intro x2 w2 hc2; unfold CopiedSC at hc2; obtain ⟨a, rfl, hca, b2⟩ := hc2; have hb1 : Bl w1 w2 := Bl.call (by repeat (first | with_reducible exact hself | with_reducible refine Bl.more ?_ _ | with_reducible refine Bl.drew ?_)) b2; (rw [show a.val = .agg #[.slice a.sA a.f.length a.sc, .slice a.lA a.L.length a.lc] from rfl]); (try (have oz1 : Own w2 w1.heap.size 77 [.slice none 0 0, .slice none 0 0, .slice none 0 0, .slice none 0 0] := (Own.past (by first | exact Own.made _ _ [.slice none 0 0, .slice none 0 0, .slice none 0 0, .slice none 0 0] | exact own_drewKS (Own.made _ _ [.slice none 0 0, .slice none 0 0, .slice none 0 0, .slice none 0 0])) b2 (by simp))))))
    all_goals
      go_wp2_with fail
      go_meet
    · refine ⟨_, a, b, rfl, Own.made w3 _ [.slice a.sA a.f.length a.sc, .slice a.lA a.L.length a.lc, .slice b.sA b.f.length b.sc, .slice b.lA b.L.length b.lc], hb2.below.size, (hca.kept (P := w.heap.size) ((KeptK.of_below b3 (Nat.le_refl _) _).alloc _) hwz).low (Nat.le_refl _), (hcb.kept (P := w.heap.size) ((KeptK.refl _ _).alloc _) (Nat.lt_of_lt_of_le hwz hb1.below.size)).low hb1.below.size, hb2.below.alloc hb2.below.size _⟩
    · refine ⟨_, a, b, rfl, ((((oz.set_ 0 _).set_ 1 _).set_ 2 _).set_ 3 _), hb1.below.size, (hca.kept (P := w.heap.size) (KeptK.set_ (S := (fun b => b = w.heap.size)) (KeptK.set_ (S := (fun b => b = w.heap.size)) (KeptK.set_ (S := (fun b => b = w.heap.size)) (KeptK.set_ (S := (fun b => b = w.heap.size)) (((KeptK.refl w2 (fun b => b = w.heap.size)).alloc _).trans (KeptK.of_below b3 (Nat.le_refl _) (fun b => b = w.heap.size)) (fun _ _ h => h)) (.inr (Nat.le_refl _)) _) (.inr (Nat.le_refl _)) _) (.inr (Nat.le_refl _)) _) (.inr (Nat.le_refl _)) _) hwz).low (Nat.le_refl _), (hcb.kept (P := w2.heap.size) (KeptK.set_ (S := (fun b => b = w2.heap.size)) (KeptK.set_ (S := (fun b => b = w2.heap.size)) (KeptK.set_ (S := (fun b => b = w2.heap.size)) (KeptK.set_ (S := (fun b => b = w2.heap.size)) (KeptK.refl _ _) (.inl rfl) _) (.inl rfl) _) (.inl rfl) _) (.inl rfl) _) (by simp)).low (by have := hb1.below.size; simp; omega), ((KeptK.set_ (S := (fun b => b = w2.heap.size)) (KeptK.set_ (S := (fun b => b = w2.heap.size)) (KeptK.set_ (S := (fun b => b = w2.heap.size)) (KeptK.set_ (S := (fun b => b = w2.heap.size)) (KeptK.of_below hb2.below (Nat.le_refl _) _) (.inl rfl) _) (.inl rfl) _) (.inl rfl) _) (.inl rfl) _)).below (fun b e => by have := hb1.below.size; omega) (Nat.le_refl _)⟩
    · refine ⟨_, a, b, rfl, ((((oz.set_ 0 _).set_ 1 _).set_ 2 _).set_ 3 _), Nat.le_refl _, (hca.kept (P := w1.heap.size) (KeptK.set_ (S := (fun b => b = w1.heap.size)) (KeptK.set_ (S := (fun b => b = w1.heap.size)) (KeptK.set_ (S := (fun b => b = w1.heap.size)) (KeptK.set_ (S := (fun b => b = w1.heap.size)) (KeptK.of_below b3 (Nat.le_refl _) _) (.inl rfl) _) (.inl rfl) _) (.inl rfl) _) (.inl rfl) _) (by simp)).low (by simp), (hcb.kept (P := w1.heap.size) (KeptK.set_ (S := (fun b => b = w1.heap.size)) (KeptK.set_ (S := (fun b => b = w1.heap.size)) (KeptK.set_ (S := (fun b => b = w1.heap.size)) (KeptK.set_ (S := (fun b => b = w1.heap.size)) (KeptK.refl _ _) (.inl rfl) _) (.inl rfl) _) (.inl rfl) _) (.inl rfl) _) (by have := b2.size; simp at this; omega)).low hb1.below.size, ((KeptK.set_ (S := (fun b => b = w1.heap.size)) (KeptK.set_ (S := (fun b => b = w1.heap.size)) (KeptK.set_ (S := (fun b => b = w1.heap.size)) (KeptK.set_ (S := (fun b => b = w1.heap.size)) (KeptK.of_below hb2.below (Nat.le_refl _) _) (.inl rfl) _) (.inl rfl) _) (.inl rfl) _) (.inl rfl) _)).below (fun b e => by omega) (Nat.le_refl _)⟩
  case rest =>
    obtain ⟨Q, a, b, rfl, hq, hQ, ca, cb, hcb⟩ := hcut
    have hB5 : w.heap.size + 5 ≤ w1.heap.size := by
      have h1 := H1.out.2.2.2.2.2.size
      have h2 := HB.out.2.2.2.2.2.2
      omega
    have hm : Mid w w.heap.size Q a b wc := ⟨hq, ca.in_, ca.ok, (ca.low hB5).lo, cb.in_, cb.ok, (cb.low hB5).lo, H1.out.2.2.1.past hcb H1.out.2.2.1.inside, H1.out.2.2.2.1.past hcb H1.out.2.2.2.1.inside, H1.out.2.2.2.2.1.past hcb H1.out.2.2.2.2.1.inside, belows H1.out.1 hcb, by omega⟩
    have ga : SpGood a.f a.L := by rw [ca.f]; exact pl_good ca.L.symm HG.out.1.1
    have gb : SpGood b.f b.L := by rw [cb.f]; exact pl_good cb.L.symm HG.out.1.2
    have wa : wtS a.L ≤ 1048576 := by rw [(pl_parts ca.L).2.2.1]; exact H.out.2.2.2.2.2.2.1
    have wb : wtS b.L ≤ 1048576 := by rw [(pl_parts cb.L).2.2.1]; exact H.out.2.2.2.2.2.2.2
    rcases HG.out.2.1 with rfl | rfl
    case inl =>
      have ym := Lib.hid (matching_any b A c l wc hm.inb hm.okb cb.rm gb (Nat.le_trans (parts_wt _) (by omega)) (H.out.2.2.2.2.1.keep hm.low) H.out.2.2.2.2.2.1 (by omega) (keys_short HG.out.2.2))
      rw [show b.val = .agg #[.slice b.sA b.f.length b.sc, .slice b.lA b.L.length b.lc] from rfl] at ym
      have HC := Lib.hid (And.intro hm (And.intro ca.rm (And.intro cb.rm (And.intro (show LikeS left a from ⟨ca.f, ca.L⟩) (And.intro (show LikeS right b from ⟨cb.f, cb.L⟩) (And.intro ga (And.intro gb (And.intro wa wb))))))))
      obtain ⟨e2, e3⟩ := own4l hm.own
      clear hq hQ hm ca cb hcb ga gb wa wb hB5 z1 z2 HS hself hbs d0 d1 e0 e1
      go_wp2_with fail
      refine ym.out.mono ?_
      rintro _ w2 ⟨Ao, co, oth, E, rfl, hr, hou, hoo, hol, hoc, b2⟩
      have hm2 := HC.out.1.keep b2
      have HO := Lib.hid (And.intro hr (And.intro hou (And.intro hoo (And.intro hol (And.intro hoc b2)))))
      clear hr hou hoo hol hoc b2 ym e2 e3
      by_cases hE : E = 0
      case neg =>
        have t1 : (E == 0) = false := beq_eq_false_iff_ne.2 hE
        have t2 : (E != 0) = true := bne_iff_ne.2 hE
        have HE := Lib.hid hE
        clear hE
        have hm3 := hm2
        obtain ⟨V4, hV4, hb4, hs4, hp4⟩ := jbox w2
        have hsz : w2.heap.size = w2.heap.size := rfl
        have hlX := H.out.2.2.2.2.1.keep hm3.low
        have yf := Lib.hid (failAll_any w2.heap.size ⟨0, 0, 0⟩ 0 (.slice none 0 0) A c l V4 hp4.own (.inl rfl) (hlX.past hb4 (Nat.le_refl _)).head (by omega) (by omega))
        clear hm2 hlX hp4
        go_upto_region 10 with fail
        rw [← hV4]
        clear hV4
        go_wp2_with fail
        refine yf.out.mono ?_
        rintro _ w5 ⟨rfl, t, y, ho5, hy, hk5⟩
        have hp5 : Prod w5 w2.heap.size t y (.slice none 0 0) [] := ⟨ho5, World.ownsRow_nil _ _ _ _, (fun u hu => by cases hu), fun hy0 => by
          rcases hy with e | ⟨_, _, e⟩
          · omega
          · exact e⟩
        have hwy : y = 0 ∨ y = 10 := by
          rcases hy with e | ⟨_, e, _⟩
          · exact .inr e
          · exact .inl e
        have HYf := Lib.hid hy
        have hfar : ∀ j, (Value.slice none 0 0).ownBlock = some j → V4.heap.size ≤ j := fun j e => (by cases e)
        clear yf ho5 hy

        have ye := Lib.hid (lend_any w2.heap.size t y (.slice none 0 0) [] w5 hp5 hwy (fun u hu => by cases hu) (Nat.zero_le _))
        have HK5 := Lib.hid (And.intro hk5 (And.intro hm3 (And.intro hs4 (And.intro hb4 (And.intro hfar hsz)))))
        clear hp5 hk5 hm3 hs4 hb4 hfar hsz
        go_wp2_with fail
        refine ye.out.mono ?_
        rintro _ w6 ⟨A6, c6, out, t6, E6, rfl, hE6, hE0, hEo, hou6, hoo6, hk6, hA6, haw6, hln6⟩
        clear ye
        have HSE := Lib.hid (show StepE left right 0 l a b out t6 E6 from stepE_fail H1.out.2.1 hE6 (fun h => (hEo h).2) HC.out.2.2.2.1 HC.out.2.2.2.2.1 HC.out.2.2.2.1 HC.out.2.2.2.2.1 (fun h => by
            have h1 := (hE0.1 h).1
            have h2 : out.map Up.p = [] := (hEo h).1
            rcases HYf.out with e | ⟨e, _, _⟩
            · omega
            · exact ⟨e, List.map_eq_nil_iff.1 h2⟩) (fun _ => .inl (by rcases HO.out.1 with ⟨e, _⟩ | ⟨e, k, hk⟩; exact absurd e HE.out; exact ⟨k, by rw [← hk]; exact e⟩)) (fun h => absurd h (by decide)))
        have hk := pk_far HK5.out.1 hk6 HK5.out.2.2.2.2.1
        have hb6 : Below w2.heap.size w2 w6 := HK5.out.2.2.2.1.trans (hk.below (B := w2.heap.size) (by have h1 := HK5.out.2.2.1; omega) (Nat.le_refl _) (fun k e => (by cases e)))
        have hm6 := HK5.out.2.1.keep hb6
        have hof : ∀ S : Nat → Prop, (∀ k, S k → k < w6.heap.size ∧ k < w5.heap.size) → OfU S A6 out := fun S hS => ⟨fun _ b o e hs => (by have h1 := hA6 b o e; have h2 := hS b hs; omega), fun u hu => ⟨fun hp b o e hs => (by have h1 := (haw6 u hu).1 hp b o e; have h2 := hS b hs; omega), fun hp b o e hs => (by have h1 := (haw6 u hu).2 hp b o e; have h2 := hS b hs; omega)⟩⟩
        have H6 := Lib.hid (And.intro hm6 (And.intro hou6 (And.intro hoo6 (And.intro hof (And.intro hE6 (And.intro hE0 (And.intro hEo (show out.length ≤ 1099511627776 from Nat.le_trans hln6 (Nat.zero_le _)))))))))
        clear hk hb6 hm6 hof hou6 hoo6 hk6 hA6 haw6 hln6 hE6 hE0 hEo
        obtain ⟨W7, hW7, hb7, hs7, ho7⟩ := tbox3 w6 t6
        have hbd : Below w6.heap.size w6 W7.drew := hb7.drew
        have hm7 := H6.out.1.keep hbd
        have hou7 := H6.out.2.1.keep hbd
        have ho7d : Own W7.drew w6.heap.size 26 [.int .u64 (t6.e : Int), .int .u64 (t6.a : Int), .int .u64 (t6.b : Int)] := ho7
        obtain ⟨X, hX, x2, x3, x4, kx, g2, g3, g4⟩ := step_fin hm7.z2 hm7.z3 hm7.z4 (.slice a.sA a.f.length a.sc) (.slice a.lA a.L.length a.lc) (.slice b.sA b.f.length b.sc) (.slice b.lA b.L.length b.lc) (.int .u64 (t6.e : Int)) (.int .u64 (t6.a : Int)) (.int .u64 (t6.b : Int))
        have hP5 : w.heap.size + 5 ≤ w6.heap.size := by have h1 := H6.out.1.own.inside; have h2 := H6.out.1.q; omega
        have HS := Lib.hid (fun W (h : Kp w.heap.size W7.drew W) => h.open_ hm7.own ho7d hm7.q hP5)
        have hk0 : Kp w.heap.size W7.drew W7.drew := ⟨KeptK.refl _ _, ⟨_, _, hm7.z2⟩, ⟨_, _, hm7.z3⟩, ⟨_, _, _, hm7.z4⟩⟩
        have hS0 := HS.out W7.drew hk0
        have hof7 := H6.out.2.2.2.1 (fun k => k = w.heap.size + 2 ∨ k = w.heap.size + 3 ∨ k = w.heap.size + 4) (fun k hk => by have h1 := HK5.out.1.size; have h2 := HK5.out.2.1.own.inside; have h3 := HK5.out.2.1.q; have h4 := HK5.out.2.2.1; omega)
        unfold KpS at hS0 HS
        have HF := Lib.hid (step_done (A := A6) (c := c6) hm7 kx HSE.out hou7 H6.out.2.2.1 hof7 H6.out.2.2.2.2.2.2.2)
        obtain ⟨q0, q1⟩ := own2 g2
        obtain ⟨q2, q3⟩ := own2 g3
        obtain ⟨q4, q5, q6⟩ := own3 g4
        have f0 := g2.open_ 0
        have f1 := g2.open_ 1
        have f2 := g3.open_ 0
        have f3 := g3.open_ 1
        have f4 := g4.open_ 0
        have f5 := g4.open_ 1
        have f6 := g4.open_ 2
        obtain ⟨y0, y1⟩ := own2 x2
        obtain ⟨y2, y3⟩ := own2 x3
        obtain ⟨y4, y5, y6⟩ := own3 x4
        have HY := Lib.hid hX
        clear hm7 hou7 x2 x3 x4 kx g2 g3 g4 hP5 hof7 ho7 ho7d hs7 hb7 hbd hX
        go_upto_region 15 with fail
        rw [← hW7]
        clear hW7
        refine wp_region_held_drew (S := fun w' => Kp w.heap.size W7.drew w') (by kernel_rfl) hk0 (fun hS => ?_)
        generalize W7.drew = W8 at *
        refine wpAnyH_take (i := 0) (v := .pointer (some ⟨Q, 0, none⟩)) rfl (by kernel_rfl) (by kernel_rfl) (by kernel_rfl) (fun _ _ _ h => h) (Or.inl ⟨by rfl, fun w hSw => ?_⟩) hS ?_
        · go_simp
        simp only [Act.put, List.setIfInBounds_toArray, List.set_cons_zero, List.set_cons_succ]
        refine wpAnyH_take (i := 1) (v := .agg #[.slice a.sA a.f.length a.sc, .slice a.lA a.L.length a.lc]) rfl (by kernel_rfl) (by kernel_rfl) (by kernel_rfl) (fun _ _ _ h => h) (Or.inl ⟨by rfl, fun w hSw => ?_⟩) hS ?_
        · obtain ⟨⟨n0, n1, n2, n3⟩, m0, m1, m2⟩ := HS.out _ hSw
          go_simp
        simp only [Act.put, List.setIfInBounds_toArray, List.set_cons_zero, List.set_cons_succ]
        refine wpAnyH_take (i := 2) (v := .pointer (some ⟨Q, 2, none⟩)) rfl (by kernel_rfl) (by kernel_rfl) (by kernel_rfl) (fun _ _ _ h => h) (Or.inl ⟨by rfl, fun w hSw => ?_⟩) hS ?_
        · go_simp
        simp only [Act.put, List.setIfInBounds_toArray, List.set_cons_zero, List.set_cons_succ]
        refine wpAnyH_take (i := 3) (v := .agg #[.slice b.sA b.f.length b.sc, .slice b.lA b.L.length b.lc]) rfl (by kernel_rfl) (by kernel_rfl) (by kernel_rfl) (fun _ _ _ h => h) (Or.inl ⟨by rfl, fun w hSw => ?_⟩) hS ?_
        · obtain ⟨⟨n0, n1, n2, n3⟩, m0, m1, m2⟩ := HS.out _ hSw
          go_simp
        simp only [Act.put, List.setIfInBounds_toArray, List.set_cons_zero, List.set_cons_succ]
        refine wpAnyH_take (i := 4) (v := .slice A6 out.length c6) rfl (by kernel_rfl) (by kernel_rfl) (by kernel_rfl) (fun _ _ _ h => h) (Or.inl ⟨by rfl, fun w hSw => ?_⟩) hS ?_
        · go_simp
        simp only [Act.put, List.setIfInBounds_toArray, List.set_cons_zero, List.set_cons_succ]
        refine wpAnyH_take (i := 5) (v := .agg #[.int .u64 (t6.e : Int), .int .u64 (t6.a : Int), .int .u64 (t6.b : Int)]) rfl (by kernel_rfl) (by kernel_rfl) (by kernel_rfl) (fun _ _ _ h => h) (Or.inl ⟨by rfl, fun w hSw => ?_⟩) hS ?_
        · obtain ⟨⟨n0, n1, n2, n3⟩, m0, m1, m2⟩ := HS.out _ hSw
          go_simp
        simp only [Act.put, List.setIfInBounds_toArray, List.set_cons_zero, List.set_cons_succ]
        refine wpAnyH_take (i := 6) (v := .int .i64 E6) rfl (by kernel_rfl) (by kernel_rfl) (by kernel_rfl) (fun _ _ _ h => h) (Or.inl ⟨by rfl, fun w hSw => ?_⟩) hS ?_
        · go_simp
        simp only [Act.put, List.setIfInBounds_toArray, List.set_cons_zero, List.set_cons_succ]
        refine wpAnyH_ready (rs := [7]) (by kernel_rfl) (by simp) ?_
        refine AllReadyH.cons rfl (fun K hK => ?_) AllReadyH.nil
        go_simp
        refine hK.out _ _ ((hk0.s2 _).s2 _) (fun _ => ?_)
        clear hK K
        try simp only [Act.put, List.setIfInBounds_toArray, List.set_cons_zero, List.set_cons_succ]
        refine wpAnyH_ready (rs := [8]) (by kernel_rfl) (by simp) ?_
        refine AllReadyH.cons rfl (fun K hK => ?_) AllReadyH.nil
        go_simp
        refine hK.out _ _ ((((hk0.s2 _).s2 _).s3 _).s3 _) (fun _ => ?_)
        clear hK K
        try simp only [Act.put, List.setIfInBounds_toArray, List.set_cons_zero, List.set_cons_succ]
        refine wpAnyH_ready (rs := [9]) (by kernel_rfl) (by simp) ?_
        refine AllReadyH.cons rfl (fun K hK => ?_) AllReadyH.nil
        go_simp
        refine hK.out _ _ ((((hk0.s2 _).s2 _).s3 _).s3 _) (fun _ => ?_)
        clear hK K
        try simp only [Act.put, List.setIfInBounds_toArray, List.set_cons_zero, List.set_cons_succ]
        refine wpAnyH_ready (rs := [10]) (by kernel_rfl) (by simp) ?_
        refine AllReadyH.cons rfl (fun K hK => ?_) AllReadyH.nil
        go_simp
        refine hK.out _ _ (((((((hk0.s2 _).s2 _).s3 _).s3 _).s4 _).s4 _).s4 _) (fun _ => ?_)
        clear hK K
        try simp only [Act.put, List.setIfInBounds_toArray, List.set_cons_zero, List.set_cons_succ]
        refine wpAnyH_ready (rs := [11]) (by kernel_rfl) (by simp) ?_
        refine AllReadyH.cons rfl (fun K hK => ?_) AllReadyH.nil
        go_simp
        refine hK.out _ _ (((((((hk0.s2 _).s2 _).s3 _).s3 _).s4 _).s4 _).s4 _) (fun _ => ?_)
        clear hK K
        try simp only [Act.put, List.setIfInBounds_toArray, List.set_cons_zero, List.set_cons_succ]
        refine wpAnyH_done (by kernel_rfl) ?_ _
        rw [← HY.out]
        go_wp2_with fail
        exact bodyPost_ret (v := .tuple #[.agg #[.slice a.sA a.f.length a.sc, .slice a.lA a.L.length a.lc], .agg #[.slice b.sA b.f.length b.sc, .slice b.lA b.L.length b.lc], .slice A6 out.length c6, .agg #[.int .u64 (t6.e : Int), .int .u64 (t6.a : Int), .int .u64 (t6.b : Int)], .int .i64 E6]) (by simp [results, Tryz.results12, go_sem, y0, y1, y2, y3, y4, y5, y6]) rfl HF.out
      subst hE
      have hmo : MatchOk b.f (partsS b.L) l oth := by
        rcases HO.out.1 with ⟨_, h⟩ | ⟨h, _⟩
        · exact h
        · exact absurd rfl h
      have HMO := Lib.hid hmo
      obtain ⟨e0, e1⟩ := own4a hm2.own
      obtain ⟨V2, hV2, hb2, hu2⟩ := one_list w2 A c l (H.out.2.2.2.2.1.keep hm2.low)
      have hmv := hm2.keep hb2
      have hfl : flatR [⟨A, c, l⟩] = l := by unfold flatR; simp
      have yi := Lib.hid (insert_sp a (some ⟨w2.heap.size, 0, none⟩) 1 [⟨A, c, l⟩] V2 hmv.ina hmv.oka hu2 (fun r hr => by obtain rfl := List.mem_singleton.1 hr; exact H.out.2.2.2.2.2.1) (by rw [hfl]; have := HC.out.2.2.2.2.2.2.2.1; omega) (by simp))
      rw [hfl, show a.val = .agg #[.slice a.sA a.f.length a.sc, .slice a.lA a.L.length a.lc] from rfl] at yi
      have hov := HO.out.2.1.keep hb2
      have HV2 := Lib.hid (And.intro hmv hov)
      clear hmo hm2 hb2 hu2 hmv hfl hov
      go_wp2_with fail
      rw [← hV2]
      clear hV2
      refine yi.out.mono ?_
      rintro _ w3 ⟨s, E2, rfl, hI, si, so, sl, b3⟩
      rw [show s.val = .agg #[.slice s.sA s.f.length s.sc, .slice s.lA s.L.length s.lc] from rfl]
      have hm3w := HV2.out.1.keep b3
      have ho3 := HV2.out.2.keep b3
      have hB5 : w.heap.size + 5 ≤ V2.heap.size := by have h1 := HV2.out.1.own.inside; have h2 := HV2.out.1.q; omega
      obtain ⟨hm3, kX⟩ := hm3w.turnA si so (sl.mono hB5) (by have := hm3w.q; omega)
      have hoX := slices_turn hm3w ho3 kX
      have r0 := hm3w.own.at_ 0
      have r1 := hm3w.own.at_ 1
      have r2 := hm3w.own.open_ 0
      have r3 := hm3w.own.open_ 1
      simp only [List.getElem?_cons_zero, List.getElem?_cons_succ] at r0 r1
      obtain ⟨X3, hX3⟩ : ∃ X, X = ((w3.setCell ⟨Q, 0, none⟩ (.slice s.sA s.f.length s.sc)).setCell ⟨Q, 1, none⟩ (.slice s.lA s.L.length s.lc)) := ⟨_, rfl⟩
      rw [← hX3] at hm3 kX hoX
      obtain ⟨V4, hV4, hb4, hs4, hp4⟩ := jbox X3
      have hsz : X3.heap.size = w3.heap.size := by rw [hX3]; simp [World.setCell]
      have hlX := H.out.2.2.2.2.1.keep hm3.low
      have hlV := hlX.past hb4 (Nat.le_refl _)
      have hoV := hoX.past hb4 (Nat.le_refl _)
      rw [hsz] at hlV hoV hp4
      have HI := Lib.hid hI
      have HX := Lib.hid (And.intro hoV (And.intro hlV hsz))
      clear hI si so sl b3 hm3w ho3 hB5 kX e0 e1 yi hoX hoV hlV hsz hlX
      by_cases hE2 : E2 = 0
      case neg =>
        have t1 : (E2 != 0) = true := bne_iff_ne.2 hE2
        have hwi : LikeS left s ∧ WhyI a l := by
          rcases HI.out with ⟨h, _⟩ | ⟨_, hf, ⟨h, _⟩ | ⟨_, hp, hy⟩⟩
          · exact absurd HC.out.2.2.2.2.2.1 h
          · exact absurd h hE2
          · exact ⟨⟨hf.trans HC.out.2.2.2.1.1, hp.trans HC.out.2.2.2.1.2⟩, hy⟩
        have HE := Lib.hid hwi
        clear hE2 hwi
        have yf := Lib.hid (failAll_any w3.heap.size ⟨0, 0, 0⟩ 0 (.slice none 0 0) A c l V4 hp4.own (.inl rfl) HX.out.2.1.head (by have h1 := HX.out.2.2; omega) (by omega))
        clear hp4
        go_upto_region 10 with fail
        rw [← hX3, ← hV4]
        clear hX3 hV4
        go_wp2_with fail
        refine yf.out.mono ?_
        rintro _ w5 ⟨rfl, t, y, ho5, hy, hk5⟩
        have hp5 : Prod w5 w3.heap.size t y (.slice none 0 0) [] := ⟨ho5, World.ownsRow_nil _ _ _ _, (fun u hu => by cases hu), fun hy0 => by
          rcases hy with e | ⟨_, _, e⟩
          · omega
          · exact e⟩
        have hwy : y = 0 ∨ y = 10 := by
          rcases hy with e | ⟨_, e, _⟩
          · exact .inr e
          · exact .inl e
        have HYf := Lib.hid hy
        have hfar : ∀ j, (Value.slice none 0 0).ownBlock = some j → V4.heap.size ≤ j := fun j e => (by cases e)
        clear yf ho5 hy
        have hsz := HX.out.2.2

        have ye := Lib.hid (lend_any w3.heap.size t y (.slice none 0 0) [] w5 hp5 hwy (fun u hu => by cases hu) (Nat.zero_le _))
        have HK5 := Lib.hid (And.intro hk5 (And.intro hm3 (And.intro hs4 (And.intro hb4 (And.intro hfar hsz)))))
        clear hp5 hk5 hm3 hs4 hb4 hfar hsz
        go_wp2_with fail
        refine ye.out.mono ?_
        rintro _ w6 ⟨A6, c6, out, t6, E6, rfl, hE6, hE0, hEo, hou6, hoo6, hk6, hA6, haw6, hln6⟩
        clear ye
        have HSE := Lib.hid (show StepE left right 0 l s b out t6 E6 from stepE_fail H1.out.2.1 hE6 (fun h => (hEo h).2) HC.out.2.2.2.1 HC.out.2.2.2.2.1 HE.out.1 HC.out.2.2.2.2.1 (fun h => by
            have h1 := (hE0.1 h).1
            have h2 : out.map Up.p = [] := (hEo h).1
            rcases HYf.out with e | ⟨e, _, _⟩
            · omega
            · exact ⟨e, List.map_eq_nil_iff.1 h2⟩) (fun _ => .inr HE.out.2) (fun h => absurd h (by decide)))
        have hk := pk_far HK5.out.1 hk6 HK5.out.2.2.2.2.1
        have hb6 : Below X3.heap.size X3 w6 := HK5.out.2.2.2.1.trans (hk.below (B := X3.heap.size) (by have h1 := HK5.out.2.2.1; omega) (Nat.le_of_eq HK5.out.2.2.2.2.2) (fun k e => (by cases e)))
        have hm6 := HK5.out.2.1.keep hb6
        have hof : ∀ S : Nat → Prop, (∀ k, S k → k < w6.heap.size ∧ k < w5.heap.size) → OfU S A6 out := fun S hS => ⟨fun _ b o e hs => (by have h1 := hA6 b o e; have h2 := hS b hs; omega), fun u hu => ⟨fun hp b o e hs => (by have h1 := (haw6 u hu).1 hp b o e; have h2 := hS b hs; omega), fun hp b o e hs => (by have h1 := (haw6 u hu).2 hp b o e; have h2 := hS b hs; omega)⟩⟩
        have H6 := Lib.hid (And.intro hm6 (And.intro hou6 (And.intro hoo6 (And.intro hof (And.intro hE6 (And.intro hE0 (And.intro hEo (show out.length ≤ 1099511627776 from Nat.le_trans hln6 (Nat.zero_le _)))))))))
        clear hk hb6 hm6 hof hou6 hoo6 hk6 hA6 haw6 hln6 hE6 hE0 hEo
        obtain ⟨W7, hW7, hb7, hs7, ho7⟩ := tbox3 w6 t6
        have hbd : Below w6.heap.size w6 W7.drew := hb7.drew
        have hm7 := H6.out.1.keep hbd
        have hou7 := H6.out.2.1.keep hbd
        have ho7d : Own W7.drew w6.heap.size 26 [.int .u64 (t6.e : Int), .int .u64 (t6.a : Int), .int .u64 (t6.b : Int)] := ho7
        obtain ⟨X, hX, x2, x3, x4, kx, g2, g3, g4⟩ := step_fin hm7.z2 hm7.z3 hm7.z4 (.slice s.sA s.f.length s.sc) (.slice s.lA s.L.length s.lc) (.slice b.sA b.f.length b.sc) (.slice b.lA b.L.length b.lc) (.int .u64 (t6.e : Int)) (.int .u64 (t6.a : Int)) (.int .u64 (t6.b : Int))
        have hP5 : w.heap.size + 5 ≤ w6.heap.size := by have h1 := H6.out.1.own.inside; have h2 := H6.out.1.q; omega
        have HS := Lib.hid (fun W (h : Kp w.heap.size W7.drew W) => h.open_ hm7.own ho7d hm7.q hP5)
        have hk0 : Kp w.heap.size W7.drew W7.drew := ⟨KeptK.refl _ _, ⟨_, _, hm7.z2⟩, ⟨_, _, hm7.z3⟩, ⟨_, _, _, hm7.z4⟩⟩
        have hS0 := HS.out W7.drew hk0
        have hof7 := H6.out.2.2.2.1 (fun k => k = w.heap.size + 2 ∨ k = w.heap.size + 3 ∨ k = w.heap.size + 4) (fun k hk => by have h1 := HK5.out.1.size; have h2 := HK5.out.2.1.own.inside; have h3 := HK5.out.2.1.q; have h4 := HK5.out.2.2.1; omega)
        unfold KpS at hS0 HS
        have HF := Lib.hid (step_done (A := A6) (c := c6) hm7 kx HSE.out hou7 H6.out.2.2.1 hof7 H6.out.2.2.2.2.2.2.2)
        obtain ⟨q0, q1⟩ := own2 g2
        obtain ⟨q2, q3⟩ := own2 g3
        obtain ⟨q4, q5, q6⟩ := own3 g4
        have f0 := g2.open_ 0
        have f1 := g2.open_ 1
        have f2 := g3.open_ 0
        have f3 := g3.open_ 1
        have f4 := g4.open_ 0
        have f5 := g4.open_ 1
        have f6 := g4.open_ 2
        obtain ⟨y0, y1⟩ := own2 x2
        obtain ⟨y2, y3⟩ := own2 x3
        obtain ⟨y4, y5, y6⟩ := own3 x4
        have HY := Lib.hid hX
        clear hm7 hou7 x2 x3 x4 kx g2 g3 g4 hP5 hof7 ho7 ho7d hs7 hb7 hbd hX
        go_upto_region 15 with fail
        rw [← hW7]
        clear hW7
        refine wp_region_held_drew (S := fun w' => Kp w.heap.size W7.drew w') (by kernel_rfl) hk0 (fun hS => ?_)
        generalize W7.drew = W8 at *
        refine wpAnyH_take (i := 0) (v := .pointer (some ⟨Q, 0, none⟩)) rfl (by kernel_rfl) (by kernel_rfl) (by kernel_rfl) (fun _ _ _ h => h) (Or.inl ⟨by rfl, fun w hSw => ?_⟩) hS ?_
        · go_simp
        simp only [Act.put, List.setIfInBounds_toArray, List.set_cons_zero, List.set_cons_succ]
        refine wpAnyH_take (i := 1) (v := .agg #[.slice s.sA s.f.length s.sc, .slice s.lA s.L.length s.lc]) rfl (by kernel_rfl) (by kernel_rfl) (by kernel_rfl) (fun _ _ _ h => h) (Or.inl ⟨by rfl, fun w hSw => ?_⟩) hS ?_
        · obtain ⟨⟨n0, n1, n2, n3⟩, m0, m1, m2⟩ := HS.out _ hSw
          go_simp
        simp only [Act.put, List.setIfInBounds_toArray, List.set_cons_zero, List.set_cons_succ]
        refine wpAnyH_take (i := 2) (v := .pointer (some ⟨Q, 2, none⟩)) rfl (by kernel_rfl) (by kernel_rfl) (by kernel_rfl) (fun _ _ _ h => h) (Or.inl ⟨by rfl, fun w hSw => ?_⟩) hS ?_
        · go_simp
        simp only [Act.put, List.setIfInBounds_toArray, List.set_cons_zero, List.set_cons_succ]
        refine wpAnyH_take (i := 3) (v := .agg #[.slice b.sA b.f.length b.sc, .slice b.lA b.L.length b.lc]) rfl (by kernel_rfl) (by kernel_rfl) (by kernel_rfl) (fun _ _ _ h => h) (Or.inl ⟨by rfl, fun w hSw => ?_⟩) hS ?_
        · obtain ⟨⟨n0, n1, n2, n3⟩, m0, m1, m2⟩ := HS.out _ hSw
          go_simp
        simp only [Act.put, List.setIfInBounds_toArray, List.set_cons_zero, List.set_cons_succ]
        refine wpAnyH_take (i := 4) (v := .slice A6 out.length c6) rfl (by kernel_rfl) (by kernel_rfl) (by kernel_rfl) (fun _ _ _ h => h) (Or.inl ⟨by rfl, fun w hSw => ?_⟩) hS ?_
        · go_simp
        simp only [Act.put, List.setIfInBounds_toArray, List.set_cons_zero, List.set_cons_succ]
        refine wpAnyH_take (i := 5) (v := .agg #[.int .u64 (t6.e : Int), .int .u64 (t6.a : Int), .int .u64 (t6.b : Int)]) rfl (by kernel_rfl) (by kernel_rfl) (by kernel_rfl) (fun _ _ _ h => h) (Or.inl ⟨by rfl, fun w hSw => ?_⟩) hS ?_
        · obtain ⟨⟨n0, n1, n2, n3⟩, m0, m1, m2⟩ := HS.out _ hSw
          go_simp
        simp only [Act.put, List.setIfInBounds_toArray, List.set_cons_zero, List.set_cons_succ]
        refine wpAnyH_take (i := 6) (v := .int .i64 E6) rfl (by kernel_rfl) (by kernel_rfl) (by kernel_rfl) (fun _ _ _ h => h) (Or.inl ⟨by rfl, fun w hSw => ?_⟩) hS ?_
        · go_simp
        simp only [Act.put, List.setIfInBounds_toArray, List.set_cons_zero, List.set_cons_succ]
        refine wpAnyH_ready (rs := [7]) (by kernel_rfl) (by simp) ?_
        refine AllReadyH.cons rfl (fun K hK => ?_) AllReadyH.nil
        go_simp
        refine hK.out _ _ ((hk0.s2 _).s2 _) (fun _ => ?_)
        clear hK K
        try simp only [Act.put, List.setIfInBounds_toArray, List.set_cons_zero, List.set_cons_succ]
        refine wpAnyH_ready (rs := [8]) (by kernel_rfl) (by simp) ?_
        refine AllReadyH.cons rfl (fun K hK => ?_) AllReadyH.nil
        go_simp
        refine hK.out _ _ ((((hk0.s2 _).s2 _).s3 _).s3 _) (fun _ => ?_)
        clear hK K
        try simp only [Act.put, List.setIfInBounds_toArray, List.set_cons_zero, List.set_cons_succ]
        refine wpAnyH_ready (rs := [9]) (by kernel_rfl) (by simp) ?_
        refine AllReadyH.cons rfl (fun K hK => ?_) AllReadyH.nil
        go_simp
        refine hK.out _ _ ((((hk0.s2 _).s2 _).s3 _).s3 _) (fun _ => ?_)
        clear hK K
        try simp only [Act.put, List.setIfInBounds_toArray, List.set_cons_zero, List.set_cons_succ]
        refine wpAnyH_ready (rs := [10]) (by kernel_rfl) (by simp) ?_
        refine AllReadyH.cons rfl (fun K hK => ?_) AllReadyH.nil
        go_simp
        refine hK.out _ _ (((((((hk0.s2 _).s2 _).s3 _).s3 _).s4 _).s4 _).s4 _) (fun _ => ?_)
        clear hK K
        try simp only [Act.put, List.setIfInBounds_toArray, List.set_cons_zero, List.set_cons_succ]
        refine wpAnyH_ready (rs := [11]) (by kernel_rfl) (by simp) ?_
        refine AllReadyH.cons rfl (fun K hK => ?_) AllReadyH.nil
        go_simp
        refine hK.out _ _ (((((((hk0.s2 _).s2 _).s3 _).s3 _).s4 _).s4 _).s4 _) (fun _ => ?_)
        clear hK K
        try simp only [Act.put, List.setIfInBounds_toArray, List.set_cons_zero, List.set_cons_succ]
        refine wpAnyH_done (by kernel_rfl) ?_ _
        rw [← HY.out]
        go_wp2_with fail
        exact bodyPost_ret (v := .tuple #[.agg #[.slice s.sA s.f.length s.sc, .slice s.lA s.L.length s.lc], .agg #[.slice b.sA b.f.length b.sc, .slice b.lA b.L.length b.lc], .slice A6 out.length c6, .agg #[.int .u64 (t6.e : Int), .int .u64 (t6.a : Int), .int .u64 (t6.b : Int)], .int .i64 E6]) (by simp [results, Tryz.results12, go_sem, y0, y1, y2, y3, y4, y5, y6]) rfl HF.out
      subst hE2
      have hpt : s.f = a.f ∧ PutTo a.f a.L s.L l 1 l.length := by
        rcases HI.out with ⟨h, _⟩ | ⟨_, hf, ⟨_, _, hp, _⟩ | ⟨h, _⟩⟩
        · exact absurd HC.out.2.2.2.2.2.1 h
        · exact ⟨hf, hp⟩
        · exact absurd rfl h
      have HPT := Lib.hid hpt
      have hol : oth.length ≤ 1048576 := Nat.le_trans HO.out.2.2.2.1 (Nat.le_trans (parts_wt _) HC.out.2.2.2.2.2.2.2.2)
      have ymt := Lib.hid (match_any w3.heap.size A c l Ao co oth V4 hp4 HX.out.2.1 H.out.2.2.2.2.2.1 HG.out.2.2 HX.out.1 HO.out.2.2.1 HO.out.2.2.2.2.1 (by omega) (by omega) (Nat.le_trans (Nat.mul_le_mul hn hol) (by decide)))
      have HLN := Lib.hid hol
      clear hpt hp4 hol
      go_upto_region 10 with fail
      rw [← hX3, ← hV4]
      clear hX3 hV4
      go_wp2_with fail
      refine ymt.out.mono ?_
      rintro _ w5 ⟨rfl, t, why, v, M, hp5, hk5, hfar, hwy, hok, hper, hchk, hlen⟩
      have HM := Lib.hid (And.intro hok (And.intro hper hchk))
      have hmlen : M.length ≤ 1099511627776 := Nat.le_trans hlen (Nat.le_trans (Nat.mul_le_mul hn HLN.out) (by decide))
      clear ymt hok hper hlen
      have hsz := HX.out.2.2
      have ye := Lib.hid (lend_any w3.heap.size t why v M w5 hp5 hwy hchk hmlen)
      have HK5 := Lib.hid (And.intro hk5 (And.intro hm3 (And.intro hs4 (And.intro hb4 (And.intro hfar hsz)))))
      clear hp5 hk5 hm3 hs4 hb4 hfar hsz
      go_wp2_with fail
      refine ye.out.mono ?_
      rintro _ w6 ⟨A6, c6, out, t6, E6, rfl, hE6, hE0, hEo, hou6, hoo6, hk6, hA6, haw6, hln6⟩
      clear ye
      have HSE := Lib.hid (show StepE left right 0 l s b out t6 E6 from stepE_ok0 H1.out.2.1 hE6 (fun h => (hEo h).2) HC.out.2.2.2.1 HC.out.2.2.2.2.1 HPT.out.1 HPT.out.2 HMO.out HO.out.2.2.2.2.1 (made_is HG.out.2.2 HO.out.2.2.2.2.1 HM.out.1 HM.out.2.1 HM.out.2.2 hE0 hEo).1 (made_is HG.out.2.2 HO.out.2.2.2.2.1 HM.out.1 HM.out.2.1 HM.out.2.2 hE0 hEo).2)
      have hk := pk_far HK5.out.1 hk6 HK5.out.2.2.2.2.1
      have hb6 : Below X3.heap.size X3 w6 := HK5.out.2.2.2.1.trans (hk.below (B := X3.heap.size) (by have h1 := HK5.out.2.2.1; omega) (Nat.le_of_eq HK5.out.2.2.2.2.2) (fun k e => (by cases e)))
      have hm6 := HK5.out.2.1.keep hb6
      have hof : ∀ S : Nat → Prop, (∀ k, S k → k < w6.heap.size ∧ k < w5.heap.size) → OfU S A6 out := fun S hS => ⟨fun _ b o e hs => (by have h1 := hA6 b o e; have h2 := hS b hs; omega), fun u hu => ⟨fun hp b o e hs => (by have h1 := (haw6 u hu).1 hp b o e; have h2 := hS b hs; omega), fun hp b o e hs => (by have h1 := (haw6 u hu).2 hp b o e; have h2 := hS b hs; omega)⟩⟩
      have H6 := Lib.hid (And.intro hm6 (And.intro hou6 (And.intro hoo6 (And.intro hof (And.intro hE6 (And.intro hE0 (And.intro hEo (show out.length ≤ 1099511627776 from Nat.le_trans hln6 hmlen))))))))
      clear hk hb6 hm6 hof hou6 hoo6 hk6 hA6 haw6 hln6 hE6 hE0 hEo
      obtain ⟨W7, hW7, hb7, hs7, ho7⟩ := tbox3 w6 t6
      have hbd : Below w6.heap.size w6 W7.drew := hb7.drew
      have hm7 := H6.out.1.keep hbd
      have hou7 := H6.out.2.1.keep hbd
      have ho7d : Own W7.drew w6.heap.size 26 [.int .u64 (t6.e : Int), .int .u64 (t6.a : Int), .int .u64 (t6.b : Int)] := ho7
      obtain ⟨X, hX, x2, x3, x4, kx, g2, g3, g4⟩ := step_fin hm7.z2 hm7.z3 hm7.z4 (.slice s.sA s.f.length s.sc) (.slice s.lA s.L.length s.lc) (.slice b.sA b.f.length b.sc) (.slice b.lA b.L.length b.lc) (.int .u64 (t6.e : Int)) (.int .u64 (t6.a : Int)) (.int .u64 (t6.b : Int))
      have hP5 : w.heap.size + 5 ≤ w6.heap.size := by have h1 := H6.out.1.own.inside; have h2 := H6.out.1.q; omega
      have HS := Lib.hid (fun W (h : Kp w.heap.size W7.drew W) => h.open_ hm7.own ho7d hm7.q hP5)
      have hk0 : Kp w.heap.size W7.drew W7.drew := ⟨KeptK.refl _ _, ⟨_, _, hm7.z2⟩, ⟨_, _, hm7.z3⟩, ⟨_, _, _, hm7.z4⟩⟩
      have hS0 := HS.out W7.drew hk0
      have hof7 := H6.out.2.2.2.1 (fun k => k = w.heap.size + 2 ∨ k = w.heap.size + 3 ∨ k = w.heap.size + 4) (fun k hk => by have h1 := HK5.out.1.size; have h2 := HK5.out.2.1.own.inside; have h3 := HK5.out.2.1.q; have h4 := HK5.out.2.2.1; omega)
      unfold KpS at hS0 HS
      have HF := Lib.hid (step_done (A := A6) (c := c6) hm7 kx HSE.out hou7 H6.out.2.2.1 hof7 H6.out.2.2.2.2.2.2.2)
      obtain ⟨q0, q1⟩ := own2 g2
      obtain ⟨q2, q3⟩ := own2 g3
      obtain ⟨q4, q5, q6⟩ := own3 g4
      have f0 := g2.open_ 0
      have f1 := g2.open_ 1
      have f2 := g3.open_ 0
      have f3 := g3.open_ 1
      have f4 := g4.open_ 0
      have f5 := g4.open_ 1
      have f6 := g4.open_ 2
      obtain ⟨y0, y1⟩ := own2 x2
      obtain ⟨y2, y3⟩ := own2 x3
      obtain ⟨y4, y5, y6⟩ := own3 x4
      have HY := Lib.hid hX
      clear hm7 hou7 x2 x3 x4 kx g2 g3 g4 hP5 hof7 ho7 ho7d hs7 hb7 hbd hX
      go_upto_region 15 with fail
      rw [← hW7]
      clear hW7
      refine wp_region_held_drew (S := fun w' => Kp w.heap.size W7.drew w') (by kernel_rfl) hk0 (fun hS => ?_)
      generalize W7.drew = W8 at *
      refine wpAnyH_take (i := 0) (v := .pointer (some ⟨Q, 0, none⟩)) rfl (by kernel_rfl) (by kernel_rfl) (by kernel_rfl) (fun _ _ _ h => h) (Or.inl ⟨by rfl, fun w hSw => ?_⟩) hS ?_
      · go_simp
      simp only [Act.put, List.setIfInBounds_toArray, List.set_cons_zero, List.set_cons_succ]
      refine wpAnyH_take (i := 1) (v := .agg #[.slice s.sA s.f.length s.sc, .slice s.lA s.L.length s.lc]) rfl (by kernel_rfl) (by kernel_rfl) (by kernel_rfl) (fun _ _ _ h => h) (Or.inl ⟨by rfl, fun w hSw => ?_⟩) hS ?_
      · obtain ⟨⟨n0, n1, n2, n3⟩, m0, m1, m2⟩ := HS.out _ hSw
        go_simp
      simp only [Act.put, List.setIfInBounds_toArray, List.set_cons_zero, List.set_cons_succ]
      refine wpAnyH_take (i := 2) (v := .pointer (some ⟨Q, 2, none⟩)) rfl (by kernel_rfl) (by kernel_rfl) (by kernel_rfl) (fun _ _ _ h => h) (Or.inl ⟨by rfl, fun w hSw => ?_⟩) hS ?_
      · go_simp
      simp only [Act.put, List.setIfInBounds_toArray, List.set_cons_zero, List.set_cons_succ]
      refine wpAnyH_take (i := 3) (v := .agg #[.slice b.sA b.f.length b.sc, .slice b.lA b.L.length b.lc]) rfl (by kernel_rfl) (by kernel_rfl) (by kernel_rfl) (fun _ _ _ h => h) (Or.inl ⟨by rfl, fun w hSw => ?_⟩) hS ?_
      · obtain ⟨⟨n0, n1, n2, n3⟩, m0, m1, m2⟩ := HS.out _ hSw
        go_simp
      simp only [Act.put, List.setIfInBounds_toArray, List.set_cons_zero, List.set_cons_succ]
      refine wpAnyH_take (i := 4) (v := .slice A6 out.length c6) rfl (by kernel_rfl) (by kernel_rfl) (by kernel_rfl) (fun _ _ _ h => h) (Or.inl ⟨by rfl, fun w hSw => ?_⟩) hS ?_
      · go_simp
      simp only [Act.put, List.setIfInBounds_toArray, List.set_cons_zero, List.set_cons_succ]
      refine wpAnyH_take (i := 5) (v := .agg #[.int .u64 (t6.e : Int), .int .u64 (t6.a : Int), .int .u64 (t6.b : Int)]) rfl (by kernel_rfl) (by kernel_rfl) (by kernel_rfl) (fun _ _ _ h => h) (Or.inl ⟨by rfl, fun w hSw => ?_⟩) hS ?_
      · obtain ⟨⟨n0, n1, n2, n3⟩, m0, m1, m2⟩ := HS.out _ hSw
        go_simp
      simp only [Act.put, List.setIfInBounds_toArray, List.set_cons_zero, List.set_cons_succ]
      refine wpAnyH_take (i := 6) (v := .int .i64 E6) rfl (by kernel_rfl) (by kernel_rfl) (by kernel_rfl) (fun _ _ _ h => h) (Or.inl ⟨by rfl, fun w hSw => ?_⟩) hS ?_
      · go_simp
      simp only [Act.put, List.setIfInBounds_toArray, List.set_cons_zero, List.set_cons_succ]
      refine wpAnyH_ready (rs := [7]) (by kernel_rfl) (by simp) ?_
      refine AllReadyH.cons rfl (fun K hK => ?_) AllReadyH.nil
      go_simp
      refine hK.out _ _ ((hk0.s2 _).s2 _) (fun _ => ?_)
      clear hK K
      try simp only [Act.put, List.setIfInBounds_toArray, List.set_cons_zero, List.set_cons_succ]
      refine wpAnyH_ready (rs := [8]) (by kernel_rfl) (by simp) ?_
      refine AllReadyH.cons rfl (fun K hK => ?_) AllReadyH.nil
      go_simp
      refine hK.out _ _ ((((hk0.s2 _).s2 _).s3 _).s3 _) (fun _ => ?_)
      clear hK K
      try simp only [Act.put, List.setIfInBounds_toArray, List.set_cons_zero, List.set_cons_succ]
      refine wpAnyH_ready (rs := [9]) (by kernel_rfl) (by simp) ?_
      refine AllReadyH.cons rfl (fun K hK => ?_) AllReadyH.nil
      go_simp
      refine hK.out _ _ ((((hk0.s2 _).s2 _).s3 _).s3 _) (fun _ => ?_)
      clear hK K
      try simp only [Act.put, List.setIfInBounds_toArray, List.set_cons_zero, List.set_cons_succ]
      refine wpAnyH_ready (rs := [10]) (by kernel_rfl) (by simp) ?_
      refine AllReadyH.cons rfl (fun K hK => ?_) AllReadyH.nil
      go_simp
      refine hK.out _ _ (((((((hk0.s2 _).s2 _).s3 _).s3 _).s4 _).s4 _).s4 _) (fun _ => ?_)
      clear hK K
      try simp only [Act.put, List.setIfInBounds_toArray, List.set_cons_zero, List.set_cons_succ]
      refine wpAnyH_ready (rs := [11]) (by kernel_rfl) (by simp) ?_
      refine AllReadyH.cons rfl (fun K hK => ?_) AllReadyH.nil
      go_simp
      refine hK.out _ _ (((((((hk0.s2 _).s2 _).s3 _).s3 _).s4 _).s4 _).s4 _) (fun _ => ?_)
      clear hK K
      try simp only [Act.put, List.setIfInBounds_toArray, List.set_cons_zero, List.set_cons_succ]
      refine wpAnyH_done (by kernel_rfl) ?_ _
      rw [← HY.out]
      go_wp2_with fail
      exact bodyPost_ret (v := .tuple #[.agg #[.slice s.sA s.f.length s.sc, .slice s.lA s.L.length s.lc], .agg #[.slice b.sA b.f.length b.sc, .slice b.lA b.L.length b.lc], .slice A6 out.length c6, .agg #[.int .u64 (t6.e : Int), .int .u64 (t6.a : Int), .int .u64 (t6.b : Int)], .int .i64 E6]) (by simp [results, Tryz.results12, go_sem, y0, y1, y2, y3, y4, y5, y6]) rfl HF.out
    case inr =>
      have ym := Lib.hid (matching_any a A c l wc hm.ina hm.oka ca.rm ga (Nat.le_trans (parts_wt _) (by omega)) (H.out.2.2.2.2.1.keep hm.low) H.out.2.2.2.2.2.1 (by omega) (keys_short HG.out.2.2))
      rw [show a.val = .agg #[.slice a.sA a.f.length a.sc, .slice a.lA a.L.length a.lc] from rfl] at ym
      have HC := Lib.hid (And.intro hm (And.intro ca.rm (And.intro cb.rm (And.intro (show LikeS left a from ⟨ca.f, ca.L⟩) (And.intro (show LikeS right b from ⟨cb.f, cb.L⟩) (And.intro ga (And.intro gb (And.intro wa wb))))))))
      obtain ⟨e2, e3⟩ := own4a hm.own
      clear hq hQ hm ca cb hcb ga gb wa wb hB5 z1 z2 HS hself hbs d0 d1 e0 e1
      go_wp2_with fail
      refine ym.out.mono ?_
      rintro _ w2 ⟨Ao, co, oth, E, rfl, hr, hou, hoo, hol, hoc, b2⟩
      have hm2 := HC.out.1.keep b2
      have HO := Lib.hid (And.intro hr (And.intro hou (And.intro hoo (And.intro hol (And.intro hoc b2)))))
      clear hr hou hoo hol hoc b2 ym e2 e3
      by_cases hE : E = 0
      case neg =>
        have t1 : (E == 0) = false := beq_eq_false_iff_ne.2 hE
        have t2 : (E != 0) = true := bne_iff_ne.2 hE
        have HE := Lib.hid hE
        clear hE
        have hm3 := hm2
        obtain ⟨V4, hV4, hb4, hs4, hp4⟩ := jbox w2
        have hsz : w2.heap.size = w2.heap.size := rfl
        have hlX := H.out.2.2.2.2.1.keep hm3.low
        have yf := Lib.hid (failAll_any w2.heap.size ⟨0, 0, 0⟩ 0 (.slice none 0 0) A c l V4 hp4.own (.inl rfl) (hlX.past hb4 (Nat.le_refl _)).head (by omega) (by omega))
        clear hm2 hlX hp4
        go_upto_region 10 with fail
        rw [← hV4]
        clear hV4
        go_wp2_with fail
        refine yf.out.mono ?_
        rintro _ w5 ⟨rfl, t, y, ho5, hy, hk5⟩
        have hp5 : Prod w5 w2.heap.size t y (.slice none 0 0) [] := ⟨ho5, World.ownsRow_nil _ _ _ _, (fun u hu => by cases hu), fun hy0 => by
          rcases hy with e | ⟨_, _, e⟩
          · omega
          · exact e⟩
        have hwy : y = 0 ∨ y = 10 := by
          rcases hy with e | ⟨_, e, _⟩
          · exact .inr e
          · exact .inl e
        have HYf := Lib.hid hy
        have hfar : ∀ j, (Value.slice none 0 0).ownBlock = some j → V4.heap.size ≤ j := fun j e => (by cases e)
        clear yf ho5 hy

        have ye := Lib.hid (lend_any w2.heap.size t y (.slice none 0 0) [] w5 hp5 hwy (fun u hu => by cases hu) (Nat.zero_le _))
        have HK5 := Lib.hid (And.intro hk5 (And.intro hm3 (And.intro hs4 (And.intro hb4 (And.intro hfar hsz)))))
        clear hp5 hk5 hm3 hs4 hb4 hfar hsz
        go_wp2_with fail
        refine ye.out.mono ?_
        rintro _ w6 ⟨A6, c6, out, t6, E6, rfl, hE6, hE0, hEo, hou6, hoo6, hk6, hA6, haw6, hln6⟩
        clear ye
        have HSE := Lib.hid (show StepE left right 1 l a b out t6 E6 from stepE_fail H1.out.2.1 hE6 (fun h => (hEo h).2) HC.out.2.2.2.1 HC.out.2.2.2.2.1 HC.out.2.2.2.1 HC.out.2.2.2.2.1 (fun h => by
            have h1 := (hE0.1 h).1
            have h2 : out.map Up.p = [] := (hEo h).1
            rcases HYf.out with e | ⟨e, _, _⟩
            · omega
            · exact ⟨e, List.map_eq_nil_iff.1 h2⟩) (fun h => absurd h (by decide)) (fun _ => .inl (by rcases HO.out.1 with ⟨e, _⟩ | ⟨e, k, hk⟩; exact absurd e HE.out; exact ⟨k, by rw [← hk]; exact e⟩)))
        have hk := pk_far HK5.out.1 hk6 HK5.out.2.2.2.2.1
        have hb6 : Below w2.heap.size w2 w6 := HK5.out.2.2.2.1.trans (hk.below (B := w2.heap.size) (by have h1 := HK5.out.2.2.1; omega) (Nat.le_refl _) (fun k e => (by cases e)))
        have hm6 := HK5.out.2.1.keep hb6
        have hof : ∀ S : Nat → Prop, (∀ k, S k → k < w6.heap.size ∧ k < w5.heap.size) → OfU S A6 out := fun S hS => ⟨fun _ b o e hs => (by have h1 := hA6 b o e; have h2 := hS b hs; omega), fun u hu => ⟨fun hp b o e hs => (by have h1 := (haw6 u hu).1 hp b o e; have h2 := hS b hs; omega), fun hp b o e hs => (by have h1 := (haw6 u hu).2 hp b o e; have h2 := hS b hs; omega)⟩⟩
        have H6 := Lib.hid (And.intro hm6 (And.intro hou6 (And.intro hoo6 (And.intro hof (And.intro hE6 (And.intro hE0 (And.intro hEo (show out.length ≤ 1099511627776 from Nat.le_trans hln6 (Nat.zero_le _)))))))))
        clear hk hb6 hm6 hof hou6 hoo6 hk6 hA6 haw6 hln6 hE6 hE0 hEo
        obtain ⟨W7, hW7, hb7, hs7, ho7⟩ := tbox3 w6 t6
        have hbd : Below w6.heap.size w6 W7.drew := hb7.drew
        have hm7 := H6.out.1.keep hbd
        have hou7 := H6.out.2.1.keep hbd
        have ho7d : Own W7.drew w6.heap.size 26 [.int .u64 (t6.e : Int), .int .u64 (t6.a : Int), .int .u64 (t6.b : Int)] := ho7
        obtain ⟨X, hX, x2, x3, x4, kx, g2, g3, g4⟩ := step_fin hm7.z2 hm7.z3 hm7.z4 (.slice a.sA a.f.length a.sc) (.slice a.lA a.L.length a.lc) (.slice b.sA b.f.length b.sc) (.slice b.lA b.L.length b.lc) (.int .u64 (t6.e : Int)) (.int .u64 (t6.a : Int)) (.int .u64 (t6.b : Int))
        have hP5 : w.heap.size + 5 ≤ w6.heap.size := by have h1 := H6.out.1.own.inside; have h2 := H6.out.1.q; omega
        have HS := Lib.hid (fun W (h : Kp w.heap.size W7.drew W) => h.open_ hm7.own ho7d hm7.q hP5)
        have hk0 : Kp w.heap.size W7.drew W7.drew := ⟨KeptK.refl _ _, ⟨_, _, hm7.z2⟩, ⟨_, _, hm7.z3⟩, ⟨_, _, _, hm7.z4⟩⟩
        have hS0 := HS.out W7.drew hk0
        have hof7 := H6.out.2.2.2.1 (fun k => k = w.heap.size + 2 ∨ k = w.heap.size + 3 ∨ k = w.heap.size + 4) (fun k hk => by have h1 := HK5.out.1.size; have h2 := HK5.out.2.1.own.inside; have h3 := HK5.out.2.1.q; have h4 := HK5.out.2.2.1; omega)
        unfold KpS at hS0 HS
        have HF := Lib.hid (step_done (A := A6) (c := c6) hm7 kx HSE.out hou7 H6.out.2.2.1 hof7 H6.out.2.2.2.2.2.2.2)
        obtain ⟨q0, q1⟩ := own2 g2
        obtain ⟨q2, q3⟩ := own2 g3
        obtain ⟨q4, q5, q6⟩ := own3 g4
        have f0 := g2.open_ 0
        have f1 := g2.open_ 1
        have f2 := g3.open_ 0
        have f3 := g3.open_ 1
        have f4 := g4.open_ 0
        have f5 := g4.open_ 1
        have f6 := g4.open_ 2
        obtain ⟨y0, y1⟩ := own2 x2
        obtain ⟨y2, y3⟩ := own2 x3
        obtain ⟨y4, y5, y6⟩ := own3 x4
        have HY := Lib.hid hX
        clear hm7 hou7 x2 x3 x4 kx g2 g3 g4 hP5 hof7 ho7 ho7d hs7 hb7 hbd hX
        go_upto_region 15 with fail
        rw [← hW7]
        clear hW7
        refine wp_region_held_drew (S := fun w' => Kp w.heap.size W7.drew w') (by kernel_rfl) hk0 (fun hS => ?_)
        generalize W7.drew = W8 at *
        refine wpAnyH_take (i := 0) (v := .pointer (some ⟨Q, 0, none⟩)) rfl (by kernel_rfl) (by kernel_rfl) (by kernel_rfl) (fun _ _ _ h => h) (Or.inl ⟨by rfl, fun w hSw => ?_⟩) hS ?_
        · go_simp
        simp only [Act.put, List.setIfInBounds_toArray, List.set_cons_zero, List.set_cons_succ]
        refine wpAnyH_take (i := 1) (v := .agg #[.slice a.sA a.f.length a.sc, .slice a.lA a.L.length a.lc]) rfl (by kernel_rfl) (by kernel_rfl) (by kernel_rfl) (fun _ _ _ h => h) (Or.inl ⟨by rfl, fun w hSw => ?_⟩) hS ?_
        · obtain ⟨⟨n0, n1, n2, n3⟩, m0, m1, m2⟩ := HS.out _ hSw
          go_simp
        simp only [Act.put, List.setIfInBounds_toArray, List.set_cons_zero, List.set_cons_succ]
        refine wpAnyH_take (i := 2) (v := .pointer (some ⟨Q, 2, none⟩)) rfl (by kernel_rfl) (by kernel_rfl) (by kernel_rfl) (fun _ _ _ h => h) (Or.inl ⟨by rfl, fun w hSw => ?_⟩) hS ?_
        · go_simp
        simp only [Act.put, List.setIfInBounds_toArray, List.set_cons_zero, List.set_cons_succ]
        refine wpAnyH_take (i := 3) (v := .agg #[.slice b.sA b.f.length b.sc, .slice b.lA b.L.length b.lc]) rfl (by kernel_rfl) (by kernel_rfl) (by kernel_rfl) (fun _ _ _ h => h) (Or.inl ⟨by rfl, fun w hSw => ?_⟩) hS ?_
        · obtain ⟨⟨n0, n1, n2, n3⟩, m0, m1, m2⟩ := HS.out _ hSw
          go_simp
        simp only [Act.put, List.setIfInBounds_toArray, List.set_cons_zero, List.set_cons_succ]
        refine wpAnyH_take (i := 4) (v := .slice A6 out.length c6) rfl (by kernel_rfl) (by kernel_rfl) (by kernel_rfl) (fun _ _ _ h => h) (Or.inl ⟨by rfl, fun w hSw => ?_⟩) hS ?_
        · go_simp
        simp only [Act.put, List.setIfInBounds_toArray, List.set_cons_zero, List.set_cons_succ]
        refine wpAnyH_take (i := 5) (v := .agg #[.int .u64 (t6.e : Int), .int .u64 (t6.a : Int), .int .u64 (t6.b : Int)]) rfl (by kernel_rfl) (by kernel_rfl) (by kernel_rfl) (fun _ _ _ h => h) (Or.inl ⟨by rfl, fun w hSw => ?_⟩) hS ?_
        · obtain ⟨⟨n0, n1, n2, n3⟩, m0, m1, m2⟩ := HS.out _ hSw
          go_simp
        simp only [Act.put, List.setIfInBounds_toArray, List.set_cons_zero, List.set_cons_succ]
        refine wpAnyH_take (i := 6) (v := .int .i64 E6) rfl (by kernel_rfl) (by kernel_rfl) (by kernel_rfl) (fun _ _ _ h => h) (Or.inl ⟨by rfl, fun w hSw => ?_⟩) hS ?_
        · go_simp
        simp only [Act.put, List.setIfInBounds_toArray, List.set_cons_zero, List.set_cons_succ]
        refine wpAnyH_ready (rs := [7]) (by kernel_rfl) (by simp) ?_
        refine AllReadyH.cons rfl (fun K hK => ?_) AllReadyH.nil
        go_simp
        refine hK.out _ _ ((hk0.s2 _).s2 _) (fun _ => ?_)
        clear hK K
        try simp only [Act.put, List.setIfInBounds_toArray, List.set_cons_zero, List.set_cons_succ]
        refine wpAnyH_ready (rs := [8]) (by kernel_rfl) (by simp) ?_
        refine AllReadyH.cons rfl (fun K hK => ?_) AllReadyH.nil
        go_simp
        refine hK.out _ _ ((((hk0.s2 _).s2 _).s3 _).s3 _) (fun _ => ?_)
        clear hK K
        try simp only [Act.put, List.setIfInBounds_toArray, List.set_cons_zero, List.set_cons_succ]
        refine wpAnyH_ready (rs := [9]) (by kernel_rfl) (by simp) ?_
        refine AllReadyH.cons rfl (fun K hK => ?_) AllReadyH.nil
        go_simp
        refine hK.out _ _ ((((hk0.s2 _).s2 _).s3 _).s3 _) (fun _ => ?_)
        clear hK K
        try simp only [Act.put, List.setIfInBounds_toArray, List.set_cons_zero, List.set_cons_succ]
        refine wpAnyH_ready (rs := [10]) (by kernel_rfl) (by simp) ?_
        refine AllReadyH.cons rfl (fun K hK => ?_) AllReadyH.nil
        go_simp
        refine hK.out _ _ (((((((hk0.s2 _).s2 _).s3 _).s3 _).s4 _).s4 _).s4 _) (fun _ => ?_)
        clear hK K
        try simp only [Act.put, List.setIfInBounds_toArray, List.set_cons_zero, List.set_cons_succ]
        refine wpAnyH_ready (rs := [11]) (by kernel_rfl) (by simp) ?_
        refine AllReadyH.cons rfl (fun K hK => ?_) AllReadyH.nil
        go_simp
        refine hK.out _ _ (((((((hk0.s2 _).s2 _).s3 _).s3 _).s4 _).s4 _).s4 _) (fun _ => ?_)
        clear hK K
        try simp only [Act.put, List.setIfInBounds_toArray, List.set_cons_zero, List.set_cons_succ]
        refine wpAnyH_done (by kernel_rfl) ?_ _
        rw [← HY.out]
        go_wp2_with fail
        exact bodyPost_ret (v := .tuple #[.agg #[.slice a.sA a.f.length a.sc, .slice a.lA a.L.length a.lc], .agg #[.slice b.sA b.f.length b.sc, .slice b.lA b.L.length b.lc], .slice A6 out.length c6, .agg #[.int .u64 (t6.e : Int), .int .u64 (t6.a : Int), .int .u64 (t6.b : Int)], .int .i64 E6]) (by simp [results, Tryz.results12, go_sem, y0, y1, y2, y3, y4, y5, y6]) rfl HF.out
      subst hE
      have hmo : MatchOk a.f (partsS a.L) l oth := by
        rcases HO.out.1 with ⟨_, h⟩ | ⟨h, _⟩
        · exact h
        · exact absurd rfl h
      have HMO := Lib.hid hmo
      obtain ⟨e0, e1⟩ := own4l hm2.own
      obtain ⟨V2, hV2, hb2, hu2⟩ := one_list w2 A c l (H.out.2.2.2.2.1.keep hm2.low)
      have hmv := hm2.keep hb2
      have hfl : flatR [⟨A, c, l⟩] = l := by unfold flatR; simp
      have yi := Lib.hid (insert_sp b (some ⟨w2.heap.size, 0, none⟩) 1 [⟨A, c, l⟩] V2 hmv.inb hmv.okb hu2 (fun r hr => by obtain rfl := List.mem_singleton.1 hr; exact H.out.2.2.2.2.2.1) (by rw [hfl]; have := HC.out.2.2.2.2.2.2.2.2; omega) (by simp))
      rw [hfl, show b.val = .agg #[.slice b.sA b.f.length b.sc, .slice b.lA b.L.length b.lc] from rfl] at yi
      have hov := HO.out.2.1.keep hb2
      have HV2 := Lib.hid (And.intro hmv hov)
      clear hmo hm2 hb2 hu2 hmv hfl hov
      go_wp2_with fail
      rw [← hV2]
      clear hV2
      refine yi.out.mono ?_
      rintro _ w3 ⟨s, E2, rfl, hI, si, so, sl, b3⟩
      rw [show s.val = .agg #[.slice s.sA s.f.length s.sc, .slice s.lA s.L.length s.lc] from rfl]
      have hm3w := HV2.out.1.keep b3
      have ho3 := HV2.out.2.keep b3
      have hB5 : w.heap.size + 5 ≤ V2.heap.size := by have h1 := HV2.out.1.own.inside; have h2 := HV2.out.1.q; omega
      obtain ⟨hm3, kX⟩ := hm3w.turnB si so (sl.mono hB5) (by have := hm3w.q; omega)
      have hoX := slices_turn hm3w ho3 kX
      have r0 := hm3w.own.at_ 2
      have r1 := hm3w.own.at_ 3
      have r2 := hm3w.own.open_ 2
      have r3 := hm3w.own.open_ 3
      simp only [List.getElem?_cons_zero, List.getElem?_cons_succ] at r0 r1
      obtain ⟨X3, hX3⟩ : ∃ X, X = ((w3.setCell ⟨Q, 2, none⟩ (.slice s.sA s.f.length s.sc)).setCell ⟨Q, 3, none⟩ (.slice s.lA s.L.length s.lc)) := ⟨_, rfl⟩
      rw [← hX3] at hm3 kX hoX
      obtain ⟨V4, hV4, hb4, hs4, hp4⟩ := jbox X3
      have hsz : X3.heap.size = w3.heap.size := by rw [hX3]; simp [World.setCell]
      have hlX := H.out.2.2.2.2.1.keep hm3.low
      have hlV := hlX.past hb4 (Nat.le_refl _)
      have hoV := hoX.past hb4 (Nat.le_refl _)
      rw [hsz] at hlV hoV hp4
      have HI := Lib.hid hI
      have HX := Lib.hid (And.intro hoV (And.intro hlV hsz))
      clear hI si so sl b3 hm3w ho3 hB5 kX e0 e1 yi hoX hoV hlV hsz hlX
      by_cases hE2 : E2 = 0
      case neg =>
        have t1 : (E2 != 0) = true := bne_iff_ne.2 hE2
        have hwi : LikeS right s ∧ WhyI b l := by
          rcases HI.out with ⟨h, _⟩ | ⟨_, hf, ⟨h, _⟩ | ⟨_, hp, hy⟩⟩
          · exact absurd HC.out.2.2.2.2.2.2.1 h
          · exact absurd h hE2
          · exact ⟨⟨hf.trans HC.out.2.2.2.2.1.1, hp.trans HC.out.2.2.2.2.1.2⟩, hy⟩
        have HE := Lib.hid hwi
        clear hE2 hwi
        have yf := Lib.hid (failAll_any w3.heap.size ⟨0, 0, 0⟩ 0 (.slice none 0 0) A c l V4 hp4.own (.inl rfl) HX.out.2.1.head (by have h1 := HX.out.2.2; omega) (by omega))
        clear hp4
        go_upto_region 10 with fail
        rw [← hX3, ← hV4]
        clear hX3 hV4
        go_wp2_with fail
        refine yf.out.mono ?_
        rintro _ w5 ⟨rfl, t, y, ho5, hy, hk5⟩
        have hp5 : Prod w5 w3.heap.size t y (.slice none 0 0) [] := ⟨ho5, World.ownsRow_nil _ _ _ _, (fun u hu => by cases hu), fun hy0 => by
          rcases hy with e | ⟨_, _, e⟩
          · omega
          · exact e⟩
        have hwy : y = 0 ∨ y = 10 := by
          rcases hy with e | ⟨_, e, _⟩
          · exact .inr e
          · exact .inl e
        have HYf := Lib.hid hy
        have hfar : ∀ j, (Value.slice none 0 0).ownBlock = some j → V4.heap.size ≤ j := fun j e => (by cases e)
        clear yf ho5 hy
        have hsz := HX.out.2.2

        have ye := Lib.hid (lend_any w3.heap.size t y (.slice none 0 0) [] w5 hp5 hwy (fun u hu => by cases hu) (Nat.zero_le _))
        have HK5 := Lib.hid (And.intro hk5 (And.intro hm3 (And.intro hs4 (And.intro hb4 (And.intro hfar hsz)))))
        clear hp5 hk5 hm3 hs4 hb4 hfar hsz
        go_wp2_with fail
        refine ye.out.mono ?_
        rintro _ w6 ⟨A6, c6, out, t6, E6, rfl, hE6, hE0, hEo, hou6, hoo6, hk6, hA6, haw6, hln6⟩
        clear ye
        have HSE := Lib.hid (show StepE left right 1 l a s out t6 E6 from stepE_fail H1.out.2.1 hE6 (fun h => (hEo h).2) HC.out.2.2.2.1 HC.out.2.2.2.2.1 HC.out.2.2.2.1 HE.out.1 (fun h => by
            have h1 := (hE0.1 h).1
            have h2 : out.map Up.p = [] := (hEo h).1
            rcases HYf.out with e | ⟨e, _, _⟩
            · omega
            · exact ⟨e, List.map_eq_nil_iff.1 h2⟩) (fun h => absurd h (by decide)) (fun _ => .inr HE.out.2))
        have hk := pk_far HK5.out.1 hk6 HK5.out.2.2.2.2.1
        have hb6 : Below X3.heap.size X3 w6 := HK5.out.2.2.2.1.trans (hk.below (B := X3.heap.size) (by have h1 := HK5.out.2.2.1; omega) (Nat.le_of_eq HK5.out.2.2.2.2.2) (fun k e => (by cases e)))
        have hm6 := HK5.out.2.1.keep hb6
        have hof : ∀ S : Nat → Prop, (∀ k, S k → k < w6.heap.size ∧ k < w5.heap.size) → OfU S A6 out := fun S hS => ⟨fun _ b o e hs => (by have h1 := hA6 b o e; have h2 := hS b hs; omega), fun u hu => ⟨fun hp b o e hs => (by have h1 := (haw6 u hu).1 hp b o e; have h2 := hS b hs; omega), fun hp b o e hs => (by have h1 := (haw6 u hu).2 hp b o e; have h2 := hS b hs; omega)⟩⟩
        have H6 := Lib.hid (And.intro hm6 (And.intro hou6 (And.intro hoo6 (And.intro hof (And.intro hE6 (And.intro hE0 (And.intro hEo (show out.length ≤ 1099511627776 from Nat.le_trans hln6 (Nat.zero_le _)))))))))
        clear hk hb6 hm6 hof hou6 hoo6 hk6 hA6 haw6 hln6 hE6 hE0 hEo
        obtain ⟨W7, hW7, hb7, hs7, ho7⟩ := tbox3 w6 t6
        have hbd : Below w6.heap.size w6 W7.drew := hb7.drew
        have hm7 := H6.out.1.keep hbd
        have hou7 := H6.out.2.1.keep hbd
        have ho7d : Own W7.drew w6.heap.size 26 [.int .u64 (t6.e : Int), .int .u64 (t6.a : Int), .int .u64 (t6.b : Int)] := ho7
        obtain ⟨X, hX, x2, x3, x4, kx, g2, g3, g4⟩ := step_fin hm7.z2 hm7.z3 hm7.z4 (.slice a.sA a.f.length a.sc) (.slice a.lA a.L.length a.lc) (.slice s.sA s.f.length s.sc) (.slice s.lA s.L.length s.lc) (.int .u64 (t6.e : Int)) (.int .u64 (t6.a : Int)) (.int .u64 (t6.b : Int))
        have hP5 : w.heap.size + 5 ≤ w6.heap.size := by have h1 := H6.out.1.own.inside; have h2 := H6.out.1.q; omega
        have HS := Lib.hid (fun W (h : Kp w.heap.size W7.drew W) => h.open_ hm7.own ho7d hm7.q hP5)
        have hk0 : Kp w.heap.size W7.drew W7.drew := ⟨KeptK.refl _ _, ⟨_, _, hm7.z2⟩, ⟨_, _, hm7.z3⟩, ⟨_, _, _, hm7.z4⟩⟩
        have hS0 := HS.out W7.drew hk0
        have hof7 := H6.out.2.2.2.1 (fun k => k = w.heap.size + 2 ∨ k = w.heap.size + 3 ∨ k = w.heap.size + 4) (fun k hk => by have h1 := HK5.out.1.size; have h2 := HK5.out.2.1.own.inside; have h3 := HK5.out.2.1.q; have h4 := HK5.out.2.2.1; omega)
        unfold KpS at hS0 HS
        have HF := Lib.hid (step_done (A := A6) (c := c6) hm7 kx HSE.out hou7 H6.out.2.2.1 hof7 H6.out.2.2.2.2.2.2.2)
        obtain ⟨q0, q1⟩ := own2 g2
        obtain ⟨q2, q3⟩ := own2 g3
        obtain ⟨q4, q5, q6⟩ := own3 g4
        have f0 := g2.open_ 0
        have f1 := g2.open_ 1
        have f2 := g3.open_ 0
        have f3 := g3.open_ 1
        have f4 := g4.open_ 0
        have f5 := g4.open_ 1
        have f6 := g4.open_ 2
        obtain ⟨y0, y1⟩ := own2 x2
        obtain ⟨y2, y3⟩ := own2 x3
        obtain ⟨y4, y5, y6⟩ := own3 x4
        have HY := Lib.hid hX
        clear hm7 hou7 x2 x3 x4 kx g2 g3 g4 hP5 hof7 ho7 ho7d hs7 hb7 hbd hX
        go_upto_region 15 with fail
        rw [← hW7]
        clear hW7
        refine wp_region_held_drew (S := fun w' => Kp w.heap.size W7.drew w') (by kernel_rfl) hk0 (fun hS => ?_)
        generalize W7.drew = W8 at *
        refine wpAnyH_take (i := 0) (v := .pointer (some ⟨Q, 0, none⟩)) rfl (by kernel_rfl) (by kernel_rfl) (by kernel_rfl) (fun _ _ _ h => h) (Or.inl ⟨by rfl, fun w hSw => ?_⟩) hS ?_
        · go_simp
        simp only [Act.put, List.setIfInBounds_toArray, List.set_cons_zero, List.set_cons_succ]
        refine wpAnyH_take (i := 1) (v := .agg #[.slice a.sA a.f.length a.sc, .slice a.lA a.L.length a.lc]) rfl (by kernel_rfl) (by kernel_rfl) (by kernel_rfl) (fun _ _ _ h => h) (Or.inl ⟨by rfl, fun w hSw => ?_⟩) hS ?_
        · obtain ⟨⟨n0, n1, n2, n3⟩, m0, m1, m2⟩ := HS.out _ hSw
          go_simp
        simp only [Act.put, List.setIfInBounds_toArray, List.set_cons_zero, List.set_cons_succ]
        refine wpAnyH_take (i := 2) (v := .pointer (some ⟨Q, 2, none⟩)) rfl (by kernel_rfl) (by kernel_rfl) (by kernel_rfl) (fun _ _ _ h => h) (Or.inl ⟨by rfl, fun w hSw => ?_⟩) hS ?_
        · go_simp
        simp only [Act.put, List.setIfInBounds_toArray, List.set_cons_zero, List.set_cons_succ]
        refine wpAnyH_take (i := 3) (v := .agg #[.slice s.sA s.f.length s.sc, .slice s.lA s.L.length s.lc]) rfl (by kernel_rfl) (by kernel_rfl) (by kernel_rfl) (fun _ _ _ h => h) (Or.inl ⟨by rfl, fun w hSw => ?_⟩) hS ?_
        · obtain ⟨⟨n0, n1, n2, n3⟩, m0, m1, m2⟩ := HS.out _ hSw
          go_simp
        simp only [Act.put, List.setIfInBounds_toArray, List.set_cons_zero, List.set_cons_succ]
        refine wpAnyH_take (i := 4) (v := .slice A6 out.length c6) rfl (by kernel_rfl) (by kernel_rfl) (by kernel_rfl) (fun _ _ _ h => h) (Or.inl ⟨by rfl, fun w hSw => ?_⟩) hS ?_
        · go_simp
        simp only [Act.put, List.setIfInBounds_toArray, List.set_cons_zero, List.set_cons_succ]
        refine wpAnyH_take (i := 5) (v := .agg #[.int .u64 (t6.e : Int), .int .u64 (t6.a : Int), .int .u64 (t6.b : Int)]) rfl (by kernel_rfl) (by kernel_rfl) (by kernel_rfl) (fun _ _ _ h => h) (Or.inl ⟨by rfl, fun w hSw => ?_⟩) hS ?_
        · obtain ⟨⟨n0, n1, n2, n3⟩, m0, m1, m2⟩ := HS.out _ hSw
          go_simp
        simp only [Act.put, List.setIfInBounds_toArray, List.set_cons_zero, List.set_cons_succ]
        refine wpAnyH_take (i := 6) (v := .int .i64 E6) rfl (by kernel_rfl) (by kernel_rfl) (by kernel_rfl) (fun _ _ _ h => h) (Or.inl ⟨by rfl, fun w hSw => ?_⟩) hS ?_
        · go_simp
        simp only [Act.put, List.setIfInBounds_toArray, List.set_cons_zero, List.set_cons_succ]
        refine wpAnyH_ready (rs := [7]) (by kernel_rfl) (by simp) ?_
        refine AllReadyH.cons rfl (fun K hK => ?_) AllReadyH.nil
        go_simp
        refine hK.out _ _ ((hk0.s2 _).s2 _) (fun _ => ?_)
        clear hK K
        try simp only [Act.put, List.setIfInBounds_toArray, List.set_cons_zero, List.set_cons_succ]
        refine wpAnyH_ready (rs := [8]) (by kernel_rfl) (by simp) ?_
        refine AllReadyH.cons rfl (fun K hK => ?_) AllReadyH.nil
        go_simp
        refine hK.out _ _ ((((hk0.s2 _).s2 _).s3 _).s3 _) (fun _ => ?_)
        clear hK K
        try simp only [Act.put, List.setIfInBounds_toArray, List.set_cons_zero, List.set_cons_succ]
        refine wpAnyH_ready (rs := [9]) (by kernel_rfl) (by simp) ?_
        refine AllReadyH.cons rfl (fun K hK => ?_) AllReadyH.nil
        go_simp
        refine hK.out _ _ ((((hk0.s2 _).s2 _).s3 _).s3 _) (fun _ => ?_)
        clear hK K
        try simp only [Act.put, List.setIfInBounds_toArray, List.set_cons_zero, List.set_cons_succ]
        refine wpAnyH_ready (rs := [10]) (by kernel_rfl) (by simp) ?_
        refine AllReadyH.cons rfl (fun K hK => ?_) AllReadyH.nil
        go_simp
        refine hK.out _ _ (((((((hk0.s2 _).s2 _).s3 _).s3 _).s4 _).s4 _).s4 _) (fun _ => ?_)
        clear hK K
        try simp only [Act.put, List.setIfInBounds_toArray, List.set_cons_zero, List.set_cons_succ]
        refine wpAnyH_ready (rs := [11]) (by kernel_rfl) (by simp) ?_
        refine AllReadyH.cons rfl (fun K hK => ?_) AllReadyH.nil
        go_simp
        refine hK.out _ _ (((((((hk0.s2 _).s2 _).s3 _).s3 _).s4 _).s4 _).s4 _) (fun _ => ?_)
        clear hK K
        try simp only [Act.put, List.setIfInBounds_toArray, List.set_cons_zero, List.set_cons_succ]
        refine wpAnyH_done (by kernel_rfl) ?_ _
        rw [← HY.out]
        go_wp2_with fail
        exact bodyPost_ret (v := .tuple #[.agg #[.slice a.sA a.f.length a.sc, .slice a.lA a.L.length a.lc], .agg #[.slice s.sA s.f.length s.sc, .slice s.lA s.L.length s.lc], .slice A6 out.length c6, .agg #[.int .u64 (t6.e : Int), .int .u64 (t6.a : Int), .int .u64 (t6.b : Int)], .int .i64 E6]) (by simp [results, Tryz.results12, go_sem, y0, y1, y2, y3, y4, y5, y6]) rfl HF.out
      subst hE2
      have hpt : s.f = b.f ∧ PutTo b.f b.L s.L l 1 l.length := by
        rcases HI.out with ⟨h, _⟩ | ⟨_, hf, ⟨_, _, hp, _⟩ | ⟨h, _⟩⟩
        · exact absurd HC.out.2.2.2.2.2.2.1 h
        · exact ⟨hf, hp⟩
        · exact absurd rfl h
      have HPT := Lib.hid hpt
      have hol : oth.length ≤ 1048576 := Nat.le_trans HO.out.2.2.2.1 (Nat.le_trans (parts_wt _) HC.out.2.2.2.2.2.2.2.1)
      have ymt := Lib.hid (match_any w3.heap.size Ao co oth A c l V4 hp4 HX.out.1 HO.out.2.2.1 HO.out.2.2.2.2.1 HX.out.2.1 H.out.2.2.2.2.2.1 HG.out.2.2 (by omega) (by omega) (Nat.le_trans (Nat.mul_le_mul hol hn) (by decide)))
      have HLN := Lib.hid hol
      clear hpt hp4 hol
      go_upto_region 10 with fail
      rw [← hX3, ← hV4]
      clear hX3 hV4
      go_wp2_with fail
      refine ymt.out.mono ?_
      rintro _ w5 ⟨rfl, t, why, v, M, hp5, hk5, hfar, hwy, hok, hper, hchk, hlen⟩
      have HM := Lib.hid (And.intro hok (And.intro hper hchk))
      have hmlen : M.length ≤ 1099511627776 := Nat.le_trans hlen (Nat.le_trans (Nat.mul_le_mul HLN.out hn) (by decide))
      clear ymt hok hper hlen
      have hsz := HX.out.2.2
      have ye := Lib.hid (lend_any w3.heap.size t why v M w5 hp5 hwy hchk hmlen)
      have HK5 := Lib.hid (And.intro hk5 (And.intro hm3 (And.intro hs4 (And.intro hb4 (And.intro hfar hsz)))))
      clear hp5 hk5 hm3 hs4 hb4 hfar hsz
      go_wp2_with fail
      refine ye.out.mono ?_
      rintro _ w6 ⟨A6, c6, out, t6, E6, rfl, hE6, hE0, hEo, hou6, hoo6, hk6, hA6, haw6, hln6⟩
      clear ye
      have HSE := Lib.hid (show StepE left right 1 l a s out t6 E6 from stepE_ok1 H1.out.2.1 hE6 (fun h => (hEo h).2) HC.out.2.2.2.1 HC.out.2.2.2.2.1 HPT.out.1 HPT.out.2 HMO.out HO.out.2.2.2.2.1 (made_is HO.out.2.2.2.2.1 HG.out.2.2 HM.out.1 HM.out.2.1 HM.out.2.2 hE0 hEo).1 (made_is HO.out.2.2.2.2.1 HG.out.2.2 HM.out.1 HM.out.2.1 HM.out.2.2 hE0 hEo).2)
      have hk := pk_far HK5.out.1 hk6 HK5.out.2.2.2.2.1
      have hb6 : Below X3.heap.size X3 w6 := HK5.out.2.2.2.1.trans (hk.below (B := X3.heap.size) (by have h1 := HK5.out.2.2.1; omega) (Nat.le_of_eq HK5.out.2.2.2.2.2) (fun k e => (by cases e)))
      have hm6 := HK5.out.2.1.keep hb6
      have hof : ∀ S : Nat → Prop, (∀ k, S k → k < w6.heap.size ∧ k < w5.heap.size) → OfU S A6 out := fun S hS => ⟨fun _ b o e hs => (by have h1 := hA6 b o e; have h2 := hS b hs; omega), fun u hu => ⟨fun hp b o e hs => (by have h1 := (haw6 u hu).1 hp b o e; have h2 := hS b hs; omega), fun hp b o e hs => (by have h1 := (haw6 u hu).2 hp b o e; have h2 := hS b hs; omega)⟩⟩
      have H6 := Lib.hid (And.intro hm6 (And.intro hou6 (And.intro hoo6 (And.intro hof (And.intro hE6 (And.intro hE0 (And.intro hEo (show out.length ≤ 1099511627776 from Nat.le_trans hln6 hmlen))))))))
      clear hk hb6 hm6 hof hou6 hoo6 hk6 hA6 haw6 hln6 hE6 hE0 hEo
      obtain ⟨W7, hW7, hb7, hs7, ho7⟩ := tbox3 w6 t6
      have hbd : Below w6.heap.size w6 W7.drew := hb7.drew
      have hm7 := H6.out.1.keep hbd
      have hou7 := H6.out.2.1.keep hbd
      have ho7d : Own W7.drew w6.heap.size 26 [.int .u64 (t6.e : Int), .int .u64 (t6.a : Int), .int .u64 (t6.b : Int)] := ho7
      obtain ⟨X, hX, x2, x3, x4, kx, g2, g3, g4⟩ := step_fin hm7.z2 hm7.z3 hm7.z4 (.slice a.sA a.f.length a.sc) (.slice a.lA a.L.length a.lc) (.slice s.sA s.f.length s.sc) (.slice s.lA s.L.length s.lc) (.int .u64 (t6.e : Int)) (.int .u64 (t6.a : Int)) (.int .u64 (t6.b : Int))
      have hP5 : w.heap.size + 5 ≤ w6.heap.size := by have h1 := H6.out.1.own.inside; have h2 := H6.out.1.q; omega
      have HS := Lib.hid (fun W (h : Kp w.heap.size W7.drew W) => h.open_ hm7.own ho7d hm7.q hP5)
      have hk0 : Kp w.heap.size W7.drew W7.drew := ⟨KeptK.refl _ _, ⟨_, _, hm7.z2⟩, ⟨_, _, hm7.z3⟩, ⟨_, _, _, hm7.z4⟩⟩
      have hS0 := HS.out W7.drew hk0
      have hof7 := H6.out.2.2.2.1 (fun k => k = w.heap.size + 2 ∨ k = w.heap.size + 3 ∨ k = w.heap.size + 4) (fun k hk => by have h1 := HK5.out.1.size; have h2 := HK5.out.2.1.own.inside; have h3 := HK5.out.2.1.q; have h4 := HK5.out.2.2.1; omega)
      unfold KpS at hS0 HS
      have HF := Lib.hid (step_done (A := A6) (c := c6) hm7 kx HSE.out hou7 H6.out.2.2.1 hof7 H6.out.2.2.2.2.2.2.2)
      obtain ⟨q0, q1⟩ := own2 g2
      obtain ⟨q2, q3⟩ := own2 g3
      obtain ⟨q4, q5, q6⟩ := own3 g4
      have f0 := g2.open_ 0
      have f1 := g2.open_ 1
      have f2 := g3.open_ 0
      have f3 := g3.open_ 1
      have f4 := g4.open_ 0
      have f5 := g4.open_ 1
      have f6 := g4.open_ 2
      obtain ⟨y0, y1⟩ := own2 x2
      obtain ⟨y2, y3⟩ := own2 x3
      obtain ⟨y4, y5, y6⟩ := own3 x4
      have HY := Lib.hid hX
      clear hm7 hou7 x2 x3 x4 kx g2 g3 g4 hP5 hof7 ho7 ho7d hs7 hb7 hbd hX
      go_upto_region 15 with fail
      rw [← hW7]
      clear hW7
      refine wp_region_held_drew (S := fun w' => Kp w.heap.size W7.drew w') (by kernel_rfl) hk0 (fun hS => ?_)
      generalize W7.drew = W8 at *
      refine wpAnyH_take (i := 0) (v := .pointer (some ⟨Q, 0, none⟩)) rfl (by kernel_rfl) (by kernel_rfl) (by kernel_rfl) (fun _ _ _ h => h) (Or.inl ⟨by rfl, fun w hSw => ?_⟩) hS ?_
      · go_simp
      simp only [Act.put, List.setIfInBounds_toArray, List.set_cons_zero, List.set_cons_succ]
      refine wpAnyH_take (i := 1) (v := .agg #[.slice a.sA a.f.length a.sc, .slice a.lA a.L.length a.lc]) rfl (by kernel_rfl) (by kernel_rfl) (by kernel_rfl) (fun _ _ _ h => h) (Or.inl ⟨by rfl, fun w hSw => ?_⟩) hS ?_
      · obtain ⟨⟨n0, n1, n2, n3⟩, m0, m1, m2⟩ := HS.out _ hSw
        go_simp
      simp only [Act.put, List.setIfInBounds_toArray, List.set_cons_zero, List.set_cons_succ]
      refine wpAnyH_take (i := 2) (v := .pointer (some ⟨Q, 2, none⟩)) rfl (by kernel_rfl) (by kernel_rfl) (by kernel_rfl) (fun _ _ _ h => h) (Or.inl ⟨by rfl, fun w hSw => ?_⟩) hS ?_
      · go_simp
      simp only [Act.put, List.setIfInBounds_toArray, List.set_cons_zero, List.set_cons_succ]
      refine wpAnyH_take (i := 3) (v := .agg #[.slice s.sA s.f.length s.sc, .slice s.lA s.L.length s.lc]) rfl (by kernel_rfl) (by kernel_rfl) (by kernel_rfl) (fun _ _ _ h => h) (Or.inl ⟨by rfl, fun w hSw => ?_⟩) hS ?_
      · obtain ⟨⟨n0, n1, n2, n3⟩, m0, m1, m2⟩ := HS.out _ hSw
        go_simp
      simp only [Act.put, List.setIfInBounds_toArray, List.set_cons_zero, List.set_cons_succ]
      refine wpAnyH_take (i := 4) (v := .slice A6 out.length c6) rfl (by kernel_rfl) (by kernel_rfl) (by kernel_rfl) (fun _ _ _ h => h) (Or.inl ⟨by rfl, fun w hSw => ?_⟩) hS ?_
      · go_simp
      simp only [Act.put, List.setIfInBounds_toArray, List.set_cons_zero, List.set_cons_succ]
      refine wpAnyH_take (i := 5) (v := .agg #[.int .u64 (t6.e : Int), .int .u64 (t6.a : Int), .int .u64 (t6.b : Int)]) rfl (by kernel_rfl) (by kernel_rfl) (by kernel_rfl) (fun _ _ _ h => h) (Or.inl ⟨by rfl, fun w hSw => ?_⟩) hS ?_
      · obtain ⟨⟨n0, n1, n2, n3⟩, m0, m1, m2⟩ := HS.out _ hSw
        go_simp
      simp only [Act.put, List.setIfInBounds_toArray, List.set_cons_zero, List.set_cons_succ]
      refine wpAnyH_take (i := 6) (v := .int .i64 E6) rfl (by kernel_rfl) (by kernel_rfl) (by kernel_rfl) (fun _ _ _ h => h) (Or.inl ⟨by rfl, fun w hSw => ?_⟩) hS ?_
      · go_simp
      simp only [Act.put, List.setIfInBounds_toArray, List.set_cons_zero, List.set_cons_succ]
      refine wpAnyH_ready (rs := [7]) (by kernel_rfl) (by simp) ?_
      refine AllReadyH.cons rfl (fun K hK => ?_) AllReadyH.nil
      go_simp
      refine hK.out _ _ ((hk0.s2 _).s2 _) (fun _ => ?_)
      clear hK K
      try simp only [Act.put, List.setIfInBounds_toArray, List.set_cons_zero, List.set_cons_succ]
      refine wpAnyH_ready (rs := [8]) (by kernel_rfl) (by simp) ?_
      refine AllReadyH.cons rfl (fun K hK => ?_) AllReadyH.nil
      go_simp
      refine hK.out _ _ ((((hk0.s2 _).s2 _).s3 _).s3 _) (fun _ => ?_)
      clear hK K
      try simp only [Act.put, List.setIfInBounds_toArray, List.set_cons_zero, List.set_cons_succ]
      refine wpAnyH_ready (rs := [9]) (by kernel_rfl) (by simp) ?_
      refine AllReadyH.cons rfl (fun K hK => ?_) AllReadyH.nil
      go_simp
      refine hK.out _ _ ((((hk0.s2 _).s2 _).s3 _).s3 _) (fun _ => ?_)
      clear hK K
      try simp only [Act.put, List.setIfInBounds_toArray, List.set_cons_zero, List.set_cons_succ]
      refine wpAnyH_ready (rs := [10]) (by kernel_rfl) (by simp) ?_
      refine AllReadyH.cons rfl (fun K hK => ?_) AllReadyH.nil
      go_simp
      refine hK.out _ _ (((((((hk0.s2 _).s2 _).s3 _).s3 _).s4 _).s4 _).s4 _) (fun _ => ?_)
      clear hK K
      try simp only [Act.put, List.setIfInBounds_toArray, List.set_cons_zero, List.set_cons_succ]
      refine wpAnyH_ready (rs := [11]) (by kernel_rfl) (by simp) ?_
      refine AllReadyH.cons rfl (fun K hK => ?_) AllReadyH.nil
      go_simp
      refine hK.out _ _ (((((((hk0.s2 _).s2 _).s3 _).s3 _).s4 _).s4 _).s4 _) (fun _ => ?_)
      clear hK K
      try simp only [Act.put, List.setIfInBounds_toArray, List.set_cons_zero, List.set_cons_succ]
      refine wpAnyH_done (by kernel_rfl) ?_ _
      rw [← HY.out]
      go_wp2_with fail
      exact bodyPost_ret (v := .tuple #[.agg #[.slice a.sA a.f.length a.sc, .slice a.lA a.L.length a.lc], .agg #[.slice s.sA s.f.length s.sc, .slice s.lA s.L.length s.lc], .slice A6 out.length c6, .agg #[.int .u64 (t6.e : Int), .int .u64 (t6.a : Int), .int .u64 (t6.b : Int)], .int .i64 E6]) (by simp [results, Tryz.results12, go_sem, y0, y1, y2, y3, y4, y5, y6]) rfl HF.out
set_option maxRecDepth 100000 in
set_option maxHeartbeats 1600000 in
theorem rowJ_any (n : Int) (w : World) : Calls Tryz.prog 25 #[.int .i64 n] w fun x w' => ∃ G, x = .returned (.slice (some ⟨G, 0, none⟩) 1 1) ∧ Vals w' w'.heap.size (some ⟨G, 0, none⟩) [vnum n] ∧ Below w.heap.size w w' := by
  have hv := Lib.hid (vals_num w n)
  go_enter Tryz.func25, Tryz.ntmps25
  go_wp2_with fail
  go_ret
  exact ⟨_, rfl, hv.out, (Below.refl _ _).alloc (Nat.le_refl _) _⟩
theorem ja_ok (G1 G2 : Nat) : UOk (ja G1 G2) :=
  ⟨by show 1 ≤ 140737488351232; omega, by show 1 ≤ 140737488351232; omega, fun v hv => by
    obtain rfl : v = vnum 1 := by simpa [ja] using hv
    exact ⟨Nat.zero_le _, by decide⟩, fun v hv => by
    obtain rfl : v = vnum 1 := by simpa [ja] using hv
    exact ⟨Nat.zero_le _, by decide⟩, by show -9223372036854775808 ≤ (2 : Int) ∧ (2 : Int) ≤ 9223372036854775807; decide⟩
theorem jb_ok (G1 G2 : Nat) : UOk (jb G1 G2) :=
  ⟨by show 1 ≤ 140737488351232; omega, by show 1 ≤ 140737488351232; omega, fun v hv => by
    obtain rfl : v = vnum 1 := by simpa [jb] using hv
    exact ⟨Nat.zero_le _, by decide⟩, fun v hv => by
    obtain rfl : v = vnum 5 := by simpa [jb] using hv
    exact ⟨Nat.zero_le _, by decide⟩, by show -9223372036854775808 ≤ (3 : Int) ∧ (3 : Int) ≤ 9223372036854775807; decide⟩
theorem box_ja (w : World) (G1 G2 : Nat) (h1 : Vals w w.heap.size (some ⟨G1, 0, none⟩) [vnum 1]) (h2 : Vals w w.heap.size (some ⟨G2, 0, none⟩) [vnum 1]) :
    ∃ V, V = w.alloc (.cells #[.slice (some ⟨G1, 0, none⟩) 1 1, .slice (some ⟨G2, 0, none⟩) 1 1, .int .u64 1, .int .u64 0, .int .u64 0, .int .i64 2] 49) ∧ Below w.heap.size w V ∧ Ups V V.heap.size (some ⟨w.heap.size, 0, none⟩) [ja G1 G2] := by
  obtain ⟨W, e1, s1, b1, o1⟩ := boxd w [.slice (some ⟨G1, 0, none⟩) 1 1, .slice (some ⟨G2, 0, none⟩) 1 1, .int .u64 1, .int .u64 0, .int .u64 0, .int .i64 2] 49
  refine ⟨W, e1, b1, ups_own (t := 49) (l := [ja G1 G2]) o1 fun u hu => ?_⟩
  obtain rfl : u = ja G1 G2 := by simpa using hu
  exact ⟨vals_keep h1 b1, vals_keep h2 b1⟩
theorem box_jb (w : World) (G1 G2 : Nat) (h1 : Vals w w.heap.size (some ⟨G1, 0, none⟩) [vnum 1]) (h2 : Vals w w.heap.size (some ⟨G2, 0, none⟩) [vnum 5]) :
    ∃ V, V = w.alloc (.cells #[.slice (some ⟨G1, 0, none⟩) 1 1, .slice (some ⟨G2, 0, none⟩) 1 1, .int .u64 2, .int .u64 0, .int .u64 0, .int .i64 3] 49) ∧ Below w.heap.size w V ∧ Ups V V.heap.size (some ⟨w.heap.size, 0, none⟩) [jb G1 G2] := by
  obtain ⟨W, e1, s1, b1, o1⟩ := boxd w [.slice (some ⟨G1, 0, none⟩) 1 1, .slice (some ⟨G2, 0, none⟩) 1 1, .int .u64 2, .int .u64 0, .int .u64 0, .int .i64 3] 49
  refine ⟨W, e1, b1, ups_own (t := 49) (l := [jb G1 G2]) o1 fun u hu => ?_⟩
  obtain rfl : u = jb G1 G2 := by simpa using hu
  exact ⟨vals_keep h1 b1, vals_keep h2 b1⟩
theorem spt_box (w : World) (a b : Sp) (t : Tm) : ∃ V, V = ((w.alloc (.cells #[.slice a.sA a.f.length a.sc, .slice a.lA a.L.length a.lc] 36)).alloc (.cells #[.slice b.sA b.f.length b.sc, .slice b.lA b.L.length b.lc] 36)).alloc (.cells #[.int .u64 (t.e : Int), .int .u64 (t.a : Int), .int .u64 (t.b : Int)] 26) ∧ Below w.heap.size w V ∧ Own V w.heap.size 36 [.slice a.sA a.f.length a.sc, .slice a.lA a.L.length a.lc] ∧ Own V (w.heap.size + 1) 36 [.slice b.sA b.f.length b.sc, .slice b.lA b.L.length b.lc] := by
  obtain ⟨V1, e1, b1, s1, o1⟩ := spbox w a
  obtain ⟨V2, e2, b2, s2, o2⟩ := spbox V1 b
  obtain ⟨V3, e3, b3, s3, _⟩ := tbox3 V2 t
  have h1 : V1.heap.size = w.heap.size + 1 := s1
  rw [h1] at o2
  exact ⟨V3, by rw [e3, e2, e1], belows (belows b1 b2) b3, (o1.past b2 o1.inside).past b3 (by have := o1.inside; have := b2.size; omega), o2.past b3 o2.inside⟩
theorem up_oneJ {c : List Up} {K : Uk} {d : Int} (h : c.map Up.p = [(K, d)]) : ∃ x, c = [x] ∧ x.key = K.key ∧ x.row = K.row ∧ x.t = K.t ∧ x.d = d := by
  have hl : c.length = 1 := by have := congrArg List.length h; simpa using this
  match c, hl with
  | [x], _ =>
    have hp : x.p = (K, d) := by simpa using h
    have hk : x.k = K := congrArg Prod.fst hp
    exact ⟨x, rfl, by rw [← hk]; rfl, by rw [← hk]; rfl, by rw [← hk]; rfl, congrArg Prod.snd hp⟩
set_option maxRecDepth 100000 in
set_option maxHeartbeats 12800000 in
theorem jlives_true (w : World) : Calls Tryz.prog 10 #[] w fun e w' => e = .returned (.bool true) ∧ Below w.heap.size w w' := by
  have y1 := fun n W => Lib.hid (rowJ_any n W)
  go_enter Tryz.func10, Tryz.ntmps10
  go_wp2_with fail
  refine (y1 _ _).out.mono ?_
  rintro _ w1 ⟨G1, rfl, v1, b1⟩
  go_wp2_with fail
  refine (y1 _ _).out.mono ?_
  rintro _ w2 ⟨G2, rfl, v2, b2⟩
  obtain ⟨V2, hV2, hb2, hu2⟩ := box_ja w2 G1 G2 (vals_keep v1 b2) v2
  have H2 := Lib.hid (And.intro (belows (belows b1 b2) hb2) hu2)
  clear v1 v2 b1 b2 hb2 hu2
  go_wp2_with fail
  rw [← hV2]
  clear hV2
  refine (y1 _ _).out.mono ?_
  rintro _ w3 ⟨G3, rfl, v3, b3⟩
  go_wp2_with fail
  refine (y1 _ _).out.mono ?_
  rintro _ w4 ⟨G4, rfl, v4, b4⟩
  obtain ⟨V4, hV4, hb4, hu4⟩ := box_jb w4 G3 G4 (vals_keep v3 b4) v4
  have hbA := belows (belows b3 b4) hb4
  have H4 := Lib.hid (And.intro (belows H2.out.1 hbA) (And.intro (H2.out.2.keep hbA) hu4))
  clear v3 v4 b3 b4 hb4 hu4 hbA y1
  have oa : ∀ u ∈ [ja G1 G2], UOk u := fun u hu => by
    obtain rfl := List.mem_singleton.1 hu
    exact ja_ok G1 G2
  have ob : ∀ u ∈ [jb G3 G4], UOk u := fun u hu => by
    obtain rfl := List.mem_singleton.1 hu
    exact jb_ok G3 G4
  have HO := Lib.hid (And.intro oa ob)
  have hcall := pairs_any (some ⟨w2.heap.size, 0, none⟩) 1 [ja G1 G2] (some ⟨w4.heap.size, 0, none⟩) 1 [jb G3 G4] V4 H4.out.2.1 oa H4.out.2.2 ob (by simp) (by simp) (by simp)
  unfold PairsSays at hcall
  have HC := Lib.hid hcall
  clear oa ob hcall
  go_wp2_with fail
  rw [← hV4]
  clear hV4
  refine HC.out.mono ?_
  rintro _ w5 ⟨A5, c5, p, t5, E5, rfl, hE5, hp5, hu5, ho5, hb5, _, _, _⟩
  obtain ⟨ca, cb, ok, ft, hz⟩ := pairs_ab G1 G2 G3 G4
  have he5 : E5 = 0 := hE5.2 ⟨ca, cb, ok, ft⟩
  have hpp : p.map Up.p = [(jk, (6 : Int))] := (hp5 he5).1.trans hz
  subst he5
  obtain ⟨W5, hW5, hbW5, hsW5, hoW5⟩ := tbox3 w5 t5
  have hbB := belows hb5 hbW5
  have H5 := Lib.hid (And.intro (belows H4.out.1 hbB) (And.intro (H4.out.2.1.keep hbB) (And.intro (H4.out.2.2.keep hbB) (And.intro (hu5.keep hbW5) (And.intro ho5 hpp)))))
  have z1 := Lib.hid (show Calls Tryz.prog 12 #[.agg #[.slice none 0 0, .slice none 0 0], .agg #[.slice none 0 0, .slice none 0 0], .int .i64 0, .slice (some ⟨w2.heap.size, 0, none⟩) 1 1] W5 (StepS Sp.nil Sp.nil 0 [ja G1 G2] W5) from step_any Sp.nil Sp.nil 0 (some ⟨w2.heap.size, 0, none⟩) 1 [ja G1 G2] W5 (sp_nil_in _ _) sp_nil_ok (sp_nil_in _ _) sp_nil_ok H5.out.2.1 HO.out.1 (by decide) (by decide) (by simp))
  clear HC hE5 hp5 hu5 ho5 hb5 ca cb ok ft hz hpp hbW5 hsW5 hoW5 hbB
  go_wp2_with fail
  rw [← hW5]
  clear hW5
  refine z1.out.mono ?_
  rintro _ w6 ⟨a, b, A6, c6, o1, t6, E6, rfl, hS6, ia, oka, _, ib, okb, _, hu6, _, _, hb6⟩
  obtain ⟨rfl, rfl, lb, fa, ga, ea, wa⟩ := step_one hS6
  rw [show a.val = .agg #[.slice a.sA a.f.length a.sc, .slice a.lA a.L.length a.lc] from rfl, show b.val = .agg #[.slice b.sA b.f.length b.sc, .slice b.lA b.L.length b.lc] from rfl]
  obtain ⟨W6, hW6, hbW6, oA6, oB6⟩ := spt_box w6 a b t6
  have hbC := belows hb6 hbW6
  have gb : wtS b.L ≤ 1048576 := by rw [(like_nil lb).2]; decide
  have H6 := Lib.hid (And.intro (belows H5.out.1 hbC) (And.intro (H5.out.2.2.1.keep hbC) (And.intro (H5.out.2.2.2.1.keep hbC) (And.intro (ia.keep hbW6) (And.intro (ib.keep hbW6) (And.intro oka okb))))))
  have HL := Lib.hid (And.intro lb (And.intro fa (And.intro ga ea)))
  have z2 := Lib.hid (step_any a b 1 (some ⟨w4.heap.size, 0, none⟩) 1 [jb G3 G4] W6 H6.out.2.2.2.1 oka H6.out.2.2.2.2.1 okb H6.out.2.1 HO.out.2 (by omega) gb (by simp))
  have z3 := fun W (h : Below W6.heap.size W6 W) => Lib.hid (step_any a b 2 (some ⟨w4.heap.size, 0, none⟩) 1 [jb G3 G4] W (H6.out.2.2.2.1.keep h) oka (H6.out.2.2.2.2.1.keep h) okb (H6.out.2.1.keep h) HO.out.2 (by omega) gb (by simp))
  rw [show a.val = .agg #[.slice a.sA a.f.length a.sc, .slice a.lA a.L.length a.lc] from rfl, show b.val = .agg #[.slice b.sA b.f.length b.sc, .slice b.lA b.L.length b.lc] from rfl] at z2 z3
  have HB := Lib.hid (And.intro oA6 oB6)
  obtain ⟨d0, d1⟩ := own2 oA6
  obtain ⟨d2, d3⟩ := own2 oB6
  clear z1 lb fa ga ea wa gb ia oka ib okb hu6 hb6 hbW6 hbC hS6 oA6 oB6
  go_upto_region 5 with fail
  rw [← hW6]
  clear hW6
  go_wp2_with fail
  refine z2.out.mono ?_
  rintro _ w7 ⟨a7, b7, A7, c7, o2, t7, E7, rfl, hS7, ia, oka, _, ib, okb, _, hu7, ho7, _, hb7⟩
  obtain ⟨rfl, hp7⟩ := step_two HL.out.2.1 HL.out.2.2.1 HL.out.2.2.2 HL.out.1 hS7
  rw [show a7.val = .agg #[.slice a7.sA a7.f.length a7.sc, .slice a7.lA a7.L.length a7.lc] from rfl, show b7.val = .agg #[.slice b7.sA b7.f.length b7.sc, .slice b7.lA b7.L.length b7.lc] from rfl]
  obtain ⟨W7, hW7, hbW7, oA7, oB7⟩ := spt_box w7 a7 b7 t7
  have hbD := belows hb7 hbW7
  have H7 := Lib.hid (And.intro (belows H6.out.1 hbD) (And.intro (H6.out.2.2.1.keep hbD) (And.intro (hu7.keep hbW7) (And.intro ho7 hp7))))
  have z3 := z3 W7 hbD
  obtain ⟨e0, e1⟩ := own2 (HB.out.1.past hbD HB.out.1.inside)
  obtain ⟨e2, e3⟩ := own2 (HB.out.2.past hbD HB.out.2.inside)
  clear z2 ia oka ib okb hu7 ho7 hb7 hbW7 hbD hS7 hp7 oA7 oB7 d0 d1 d2 d3
  go_upto_region 6 with fail
  rw [← hW7]
  clear hW7
  go_wp2_with fail
  refine z3.out.mono ?_
  rintro _ w8 ⟨a8, b8, A8, c8, o3, t8, E8, rfl, hS8, _, _, _, _, _, _, _, _, _, hb8⟩
  obtain rfl := step_three HL.out.2.2.1 HL.out.1 hS8
  rw [show a8.val = .agg #[.slice a8.sA a8.f.length a8.sc, .slice a8.lA a8.L.length a8.lc] from rfl, show b8.val = .agg #[.slice b8.sA b8.f.length b8.sc, .slice b8.lA b8.L.length b8.lc] from rfl]
  obtain ⟨W8, hW8, hbW8, _, _⟩ := spt_box w8 a8 b8 t8
  have hbE := belows hb8 hbW8
  have H8 := Lib.hid (And.intro (belows H7.out.1 hbE) (And.intro (H7.out.2.1.keep hbE) (H7.out.2.2.1.keep hbE)))
  obtain ⟨x, hx, _, hxr, hxt, hxd⟩ := up_oneJ H5.out.2.2.2.2.2
  subst hx
  have hux := H8.out.2.1
  obtain ⟨bx, ox, rfl, hBx, hcx⟩ := hux.head (by simp)
  have k0 := hcx 0 x rfl 1 _ rfl
  have k1 := hcx 0 x rfl 2 _ rfl
  have k2 := hcx 0 x rfl 5 _ rfl
  have hlr : x.row.length = 2 := by rw [hxr]; rfl
  have hte : (x.t.e : Int) = 2 := by rw [hxt]; rfl
  have hd6 : x.d = 6 := hxd
  rw [hlr] at k0
  rw [hte] at k1
  rw [hd6] at k2
  have zs := Lib.hid (show Calls Tryz.prog 11 #[.slice A7 o2.length c7, .slice (some ⟨bx, ox, none⟩) 1 c5] W8 (fun e w' => e = .returned (.bool true) ∧ Below W8.heap.size W8 w') from (sameU_any A7 (some ⟨bx, ox, none⟩) c7 c5 o2 [x] W8 H8.out.2.2 hux H7.out.2.2.2.1 H5.out.2.2.2.2.1 (by have := congrArg List.length H7.out.2.2.2.2; rw [List.length_map] at this; rw [this]; simp) (by simp)).mono fun e w' ⟨q, h1, h2, h3⟩ => ⟨by rw [h1, h2.2 (H7.out.2.2.2.2.trans H5.out.2.2.2.2.2.symm)], h3⟩)
  clear z3 hb8 hbW8 hbE hS8 e0 e1 e2 e3 hux hcx hBx hlr hte hd6 hxr hxt hxd
  go_upto_region 7 with fail
  rw [← hW8]
  clear hW8
  go_wp2_with fail
  refine zs.out.mono ?_
  rintro _ w9 ⟨rfl, hb9⟩
  have HF := Lib.hid (belows H8.out.1 hb9)
  clear hb9 zs
  go_wp2_with fail
  go_ret
  exact ⟨rfl, HF.out⟩
theorem good_laterJ {f g : List Tm} {L : List Lv} (h : SpGood f L) (hg : FrontOk g) (hl : LaterF g f) : SpGood g L :=
  ⟨hg, h.pos, h.fall, fun l hm => ⟨fun hb => by
    obtain ⟨h1, h2, h3, h4, h5, h6, h7⟩ := (h.each l hm).busy hb
    exact ⟨h1, h2, h3, h4, h5, later_trans hl h6, h7⟩, fun hb => by
    obtain ⟨h1, h2, h3, h4⟩ := (h.each l hm).idle hb
    exact ⟨h1, h2, h3, later_trans hl h4⟩⟩⟩
theorem pairs_right_nil : ∀ P : List Up, pairsP P [] = []
  | [] => rfl
  | y :: P => by
    have ih := pairs_right_nil P
    unfold pairsP at *
    rw [List.flatMap_cons, ih]; rfl
theorem made_sum {f : List Tm} {P l oth : List Up} (hm : MatchOk f P l oth ∨ l = []) (hf : ∀ x ∈ f, x.right = true) (hP : chkUs P = 0) (hb : f = [] ∨ ∀ x ∈ l, beyond f x.t = true) (K : Uk) : sumOf Uk.cmp (pairsP l oth) K = sumOf Uk.cmp (pairsP l P) K := by
  rcases hm with hm | rfl
  · exact match_sum hm hf hP hb K
  · rfl
theorem made_sumR {f : List Tm} {P l oth : List Up} (hm : MatchOk f P l oth ∨ l = []) (hf : ∀ x ∈ f, x.right = true) (hP : chkUs P = 0) (hb : f = [] ∨ ∀ x ∈ l, beyond f x.t = true) (K : Uk) : sumOf Uk.cmp (pairsP oth l) K = sumOf Uk.cmp (pairsP P l) K := by
  rcases hm with hm | rfl
  · exact match_sumR hm hf hP hb K
  · rw [pairs_right_nil, pairs_right_nil]
theorem sums_p {P Q : List Up} (h : P.map Up.p = Q.map Up.p) (k : Uk) : sumOf Uk.cmp (P.map Up.p) k = sumOf Uk.cmp (Q.map Up.p) k := by rw [h]
theorem ok_sum0 {own other own' other' : Sp} {l out : List Up} {P : List Up} (h : StepOk own other own' other' 0 l out) (g : SpGood other.f other.L) (cl : chkUs l = 0) (hP : chkUs P = 0) (hp : (partsS other.L).map Up.p = P.map Up.p) (hb : other.f = [] ∨ ∀ x ∈ l, beyond other.f x.t = true) :
    ∃ R, (∀ q ∈ R, UkR q.1) ∧ out.map Up.p = nz Uk.cmp R ∧ ∀ K, sumOf Uk.cmp R K = sumOf Uk.cmp (pairsP l P) K := by
  obtain ⟨o1, o2, l1, l2, l3, _, _, oth, hm, hco, h00, _⟩ := h
  obtain ⟨h1, h2, h3⟩ := h00 rfl
  have g2 := l2.good g
  refine ⟨pairsP l oth, okPairs_right cl hco h1, h3, fun K => ?_⟩
  rw [made_sum hm g2.front.right g2.chk (by rw [l2.1]; exact hb) K]
  exact pairs_same g2.chk hP (fun k => sums_p (l2.parts.trans hp) k) l K
theorem ok_sum1 {own other own' other' : Sp} {l out : List Up} {P : List Up} (h : StepOk own other own' other' 1 l out) (g : SpGood other.f other.L) (cl : chkUs l = 0) (hP : chkUs P = 0) (hp : (partsS other.L).map Up.p = P.map Up.p) (hb : other.f = [] ∨ ∀ x ∈ l, beyond other.f x.t = true) :
    ∃ R, (∀ q ∈ R, UkR q.1) ∧ out.map Up.p = nz Uk.cmp R ∧ ∀ K, sumOf Uk.cmp R K = sumOf Uk.cmp (pairsP P l) K := by
  obtain ⟨o1, o2, l1, l2, l3, _, _, oth, hm, hco, _, h11⟩ := h
  obtain ⟨h1, h2, h3⟩ := h11 rfl
  have g2 := l2.good g
  refine ⟨pairsP oth l, okPairs_right hco cl h1, h3, fun K => ?_⟩
  rw [made_sumR hm g2.front.right g2.chk (by rw [l2.1]; exact hb) K]
  exact pairs_sameR g2.chk hP (fun k => sums_p (l2.parts.trans hp) k) l K
theorem same_sums {R S : List (Uk × Int)} {x y : List Up} (hR : ∀ q ∈ R, UkR q.1) (hS : ∀ q ∈ S, UkR q.1) (h : ∀ K, sumOf Uk.cmp R K = sumOf Uk.cmp S K) (hx : x.map Up.p = nz Uk.cmp R) (hy : y.map Up.p = nz Uk.cmp S) : x.map Up.p = y.map Up.p := by
  rw [hx, hy, nz_ext uk_lin (R := UkR) hR hS h]
structure Cmpd (s a : Sp) (g : List Tm) : Prop where
  good : SpGood s.f s.L
  pl : a.L.map Lv.pl = s.L.map Lv.pl
  front : FrontOk g
  later : LaterF g s.f
  f : a.f = g
theorem Cmpd.good' {s a : Sp} {g : List Tm} (h : Cmpd s a g) : SpGood a.f a.L := by rw [h.f]; exact pl_good h.pl.symm (good_laterJ h.good h.front h.later)
theorem Cmpd.past {s a : Sp} {g : List Tm} {l : List Up} (h : Cmpd s a g) (hb : ∀ x ∈ l, beyond g x.t = true) : s.f = [] ∨ ∀ x ∈ l, beyond s.f x.t = true := by
  by_cases hf : s.f = []
  · exact .inl hf
  · exact .inr fun x hx => (past_later h.later (.inr (hb x hx))).resolve_left hf
theorem chk_of {l r : Sp} {p : Int} {u : List Up} (h : ChkE l r p u 0) : (SpGood l.f l.L ∧ SpGood r.f r.L) ∧ (p = 0 ∨ p = 1) ∧ chkUs u = 0 := by
  rcases h with ⟨_, h⟩ | ⟨h, ⟨_, h2⟩ | ⟨h2, h3⟩⟩
  · exact absurd h (by decide)
  · exact absurd h2 (by decide)
  · exact ⟨h, h2, h3.symm⟩
theorem comp_same {left right a b a3 b3 a4 b4 : Sp} {port : Int} {l out3 out4 : List Up} {t3 t4 : Tm} {E4 : Int} {g : List Tm} (ha : Cmpd left a g) (hb : Cmpd right b g) (hl : ∀ x ∈ l, beyond g x.t = true) (h3 : StepE left right port l a3 b3 out3 t3 0) (h4 : StepE a b port l a4 b4 out4 t4 E4) :
    E4 = 10 ∨ E4 = 0 ∧ out3.map Up.p = out4.map Up.p ∧ t3 = t4 := by
  rcases h3 with ⟨Z, _, hz, e, _⟩ | ⟨hc3, _, ht3, h30, h31⟩
  · exact absurd e.symm hz
  obtain ⟨⟨gl, gr⟩, hp, cl⟩ := chk_of hc3
  rcases h4 with ⟨Z, hc, hz, _⟩ | ⟨hc4, hE4, ht4, h40, h41⟩
  · rcases step_chk ha.good' hb.good' cl hc with ⟨h, _⟩ | ⟨_, h⟩
    · exact absurd hp h
    · exact absurd h hz
  rcases hE4 with rfl | rfl
  · refine .inr ⟨rfl, ?_, (ht3 rfl).trans (ht4 rfl).symm⟩
    rcases hp with rfl | rfl
    · obtain ⟨R, r1, r2, r3⟩ := ok_sum0 (P := partsS right.L) ((h30 rfl).1 rfl) gr cl gr.chk rfl (hb.past hl)
      obtain ⟨S, s1, s2, s3⟩ := ok_sum0 (P := partsS right.L) ((h40 rfl).1 rfl) hb.good' cl gr.chk (pl_parts hb.pl).1 (.inr (by rw [hb.f]; exact hl))
      exact same_sums r1 s1 (fun K => (r3 K).trans (s3 K).symm) r2 s2
    · obtain ⟨R, r1, r2, r3⟩ := ok_sum1 (P := partsS left.L) ((h31 rfl).1 rfl) gl cl gl.chk rfl (ha.past hl)
      obtain ⟨S, s1, s2, s3⟩ := ok_sum1 (P := partsS left.L) ((h41 rfl).1 rfl) ha.good' cl gl.chk (pl_parts ha.pl).1 (.inr (by rw [ha.f]; exact hl))
      exact same_sums r1 s1 (fun K => (r3 K).trans (s3 K).symm) r2 s2
  · exact .inl rfl
end Go.Proofs.YtjffohpdjicfpaaGreat
