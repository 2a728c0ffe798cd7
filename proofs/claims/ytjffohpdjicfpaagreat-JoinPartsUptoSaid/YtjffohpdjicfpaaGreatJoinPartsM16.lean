/- Part 16 of the texts on which JoinParts rests: facts and contracts. -/
import Derived.Test.YtjffohpdjicfpaaGreatJoinPartsM15
import Derived.Test.YtjffohpdjicfpaaGreatRows
namespace Go.Proofs.YtjffohpdjicfpaaGreat
open Go Go.RowKit

set_option maxRecDepth 100000 in
set_option maxHeartbeats 25600000 in
theorem step_any (left right : Sp) (port : Int) (A : Option Addr) (c : Nat) (l : List Up) (w : World) (hL : SpIn w w.heap.size left) (oL : SpOk left) (hR : SpIn w w.heap.size right) (oR : SpOk right) (hl : Ups w w.heap.size A l) (ol : ∀ u ∈ l, UOk u) (wL : wtS left.L ≤ 1048576) (wR : wtS right.L ≤ 1048576) (hn : l.length ≤ 1048576) :
    Calls Tryz.prog 12 #[left.val, right.val, .int .i64 port, .slice A l.length c] w (StepS left right port l w) := by
  obtain ⟨V, hV, hvb, hv1, hv2, hz1, hz2, hz3, hvs⟩ := step_box w left right
  have y1 := Lib.hid (jcheck_any left right port A c l V (hL.keep hvb) oL (hR.keep hvb) oR (hl.keep hvb) ol (by omega))
  have H := Lib.hid (And.intro hL (And.intro oL (And.intro hR (And.intro oR (And.intro hl (And.intro ol (And.intro wL wR)))))))
  have HB := Lib.hid (And.intro hvb (And.intro hv1 (And.intro hv2 (And.intro hz1 (And.intro hz2 (And.intro hz3 hvs))))))
  have hlv : left.val = .agg #[.slice left.sA left.f.length left.sc, .slice left.lA left.L.length left.lc] := rfl
  have hrv : right.val = .agg #[.slice right.sA right.f.length right.sc, .slice right.lA right.L.length right.lc] := rfl
  rw [hlv, hrv] at y1 ⊢
  obtain ⟨d0, d1⟩ := own2 hv1
  obtain ⟨e0, e1⟩ := own2 hv2
  clear hL oL hR oR hl ol wL wR hvb hv1 hv2 hz1 hz2 hz3 hvs
  go_enter Tryz.func12, Tryz.ntmps12
  go_upto_region 1 with fail
  rw [← hV]
  clear hV
  go_wp2_with fail
  refine y1.out.mono ?_
  rintro _ w1 ⟨Z, rfl, hZ, b1⟩
  have hbw := belows HB.out.1 b1
  have o2 := HB.out.2.2.2.1.past b1 HB.out.2.2.2.1.inside
  have o3 := HB.out.2.2.2.2.1.past b1 HB.out.2.2.2.2.1.inside
  have o4 := HB.out.2.2.2.2.2.1.past b1 HB.out.2.2.2.2.2.1.inside
  have H1 := Lib.hid (And.intro hbw (And.intro hZ (And.intro o2 (And.intro o3 (And.intro o4 b1)))))
  clear hZ b1 d0 d1 e0 e1 y1 hbw
  by_cases hZ0 : Z = 0
  case neg =>
    have t1 : (Z != 0) = true := bne_iff_ne.2 hZ0
    have HN := Lib.hid hZ0
    have o3 : Own w1 (w.heap.size + 1 + 1 + 1) 36 [.slice none 0 0, .slice none 0 0] := o3
    have o2 : Own w1 (w.heap.size + 1 + 1) 36 [.slice none 0 0, .slice none 0 0] := o2
    have o4 : Own w1 (w.heap.size + 1 + 1 + 1 + 1) 26 [.int .u64 0, .int .u64 0, .int .u64 0] := o4
    obtain ⟨X2, hX2⟩ : ∃ X, X = (w1.setCell ⟨w.heap.size + 1 + 1, 0, none⟩ (.slice none 0 0)).setCell ⟨w.heap.size + 1 + 1, 1, none⟩ (.slice none 0 0) := ⟨_, rfl⟩
    have k2 : KeptK w1 X2 (fun b => b = w.heap.size + 1 + 1) := by rw [hX2]; exact kept_two _ _
    have p2 : Own X2 (w.heap.size + 1 + 1) 36 [.slice none 0 0, .slice none 0 0] := by rw [hX2]; exact (o2.set_ 0 _).set_ 1 _
    have p3 := k2.own o3 (by omega)
    have p4 := k2.own o4 (by omega)
    have b2 : Below w.heap.size w X2 := by rw [hX2]; exact below_two H1.out.1 (by omega) _ _
    obtain ⟨X3, hX3⟩ : ∃ X, X = (X2.setCell ⟨w.heap.size + 1 + 1 + 1, 0, none⟩ (.slice none 0 0)).setCell ⟨w.heap.size + 1 + 1 + 1, 1, none⟩ (.slice none 0 0) := ⟨_, rfl⟩
    have k3 : KeptK X2 X3 (fun b => b = w.heap.size + 1 + 1 + 1) := by rw [hX3]; exact kept_two _ _
    have r3 : Own X3 (w.heap.size + 1 + 1 + 1) 36 [.slice none 0 0, .slice none 0 0] := by rw [hX3]; exact (p3.set_ 0 _).set_ 1 _
    have r2 := k3.own p2 (by omega)
    have r4 := k3.own p4 (by omega)
    have b3 : Below w.heap.size w X3 := by rw [hX3]; exact below_two b2 (by omega) _ _
    have s4 := zero_three r4
    obtain ⟨X4, hX4⟩ : ∃ X, X = ((X3.setCell ⟨w.heap.size + 1 + 1 + 1 + 1, 0, none⟩ (.int .u64 0)).setCell ⟨w.heap.size + 1 + 1 + 1 + 1, 1, none⟩ (.int .u64 0)).setCell ⟨w.heap.size + 1 + 1 + 1 + 1, 2, none⟩ (.int .u64 0) := ⟨_, rfl⟩
    have k4 : KeptK X3 X4 (fun b => b = w.heap.size + 1 + 1 + 1 + 1) := by
      rw [hX4]
      exact KeptK.set_ (S := fun b => b = w.heap.size + 1 + 1 + 1 + 1) (KeptK.set_ (S := fun b => b = w.heap.size + 1 + 1 + 1 + 1) (KeptK.set_ (S := fun b => b = w.heap.size + 1 + 1 + 1 + 1) (KeptK.refl _ _) (.inl rfl) _) (.inl rfl) _) (.inl rfl) _
    rw [← hX4] at s4
    have s2 := k4.own r2 (by omega)
    have s3 := k4.own r3 (by omega)
    have b4 : Below w.heap.size w X4 := b3.trans (k4.below (fun b e => by omega) b3.size)
    obtain ⟨a0, a1⟩ := own2 o2
    have f0 := o2.open_ 0
    have f1 := o2.open_ 1
    obtain ⟨c0, c1⟩ := own2 p3
    have g0 := p3.open_ 0
    have g1 := p3.open_ 1
    obtain ⟨m0, m1, m2⟩ := own3 r4
    have h0 := r4.open_ 0
    have h1 := r4.open_ 1
    have h2 := r4.open_ 2
    obtain ⟨x0, x1⟩ := own2 s2
    obtain ⟨x2, x3⟩ := own2 s3
    obtain ⟨x4, x5, x6⟩ := own3 s4
    have HF := Lib.hid (show StepS left right port l w (.returned (.tuple #[.agg #[.slice none 0 0, .slice none 0 0], .agg #[.slice none 0 0, .slice none 0 0], .slice none 0 0, .agg #[.int .u64 0, .int .u64 0, .int .u64 0], .int .i64 Z])) X4 from ⟨Sp.nil, Sp.nil, none, 0, [], ⟨0, 0, 0⟩, Z, rfl, .inl ⟨Z, H1.out.2.1, HN.out, rfl, rfl, rfl, rfl⟩, sp_nil_in _ _, sp_nil_ok, sp_nil_lo _, sp_nil_in _ _, sp_nil_ok, sp_nil_lo _, ⟨Lies.nil_, fun u hu => (by cases hu)⟩, fun u hu => (by cases hu), b4⟩)
    clear hZ0 o2 o3 o4 k2 p2 p3 p4 b2 k3 r3 r2 r4 b3 s4 k4 s2 s3 b4
    subst hX4 hX3 hX2
    go_wp2_with fail
    exact bodyPost_ret (v := .tuple #[.agg #[.slice none 0 0, .slice none 0 0], .agg #[.slice none 0 0, .slice none 0 0], .slice none 0 0, .agg #[.int .u64 0, .int .u64 0, .int .u64 0], .int .i64 Z]) (by simp [results, Tryz.results12, go_sem, x0, x1, x2, x3, x4, x5, x6]) rfl HF.out
  subst hZ0
  have hg : (SpGood left.f left.L ∧ SpGood right.f right.L) ∧ (port = 0 ∨ port = 1) ∧ chkUs l = 0 := by
    rcases H1.out.2.1 with ⟨_, h⟩ | ⟨h, ⟨_, h2⟩ | ⟨h2, h3⟩⟩
    · exact absurd h (by decide)
    · exact absurd h2 (by decide)
    · exact ⟨h, h2, h3.symm⟩
  have v1 := HB.out.2.1.past H1.out.2.2.2.2.2 HB.out.2.1.inside
  have v2 := HB.out.2.2.1.past H1.out.2.2.2.2.2 HB.out.2.2.1.inside
  have hLw := H.out.1.keep H1.out.1
  have hRw := H.out.2.2.1.keep H1.out.1
  have z1 := fun W (h : Bl w1 W) => Lib.hid (copyS_anyC left W (hLw.keep h) H.out.2.1 hg.1.1 (by have := H.out.2.2.2.2.2.2.1; omega))
  have z2 := fun W (h : Bl w1 W) => Lib.hid (copyS_anyC right W (hRw.keep h) H.out.2.2.2.1 hg.1.2 (by have := H.out.2.2.2.2.2.2.2; omega))
  have hwz : w.heap.size < w1.heap.size := by
    have y1 := H1.out.2.2.2.2.2.size
    have y2 := HB.out.2.2.2.2.2.2
    omega
  have HG := Lib.hid hg
  have HV := Lib.hid (And.intro v1 v2)
  have hself := Bl.refl w1
  have hbs : w1.heap.size ≤ w1.heap.size := Nat.le_refl _
  have HS := Lib.hid (fun W (h : Bm w1.heap.size w1 W) => And.intro (own2 (v1.past h v1.inside)) (own2 (v2.past h v2.inside)))
  obtain ⟨d0, d1⟩ := own2 v1
  obtain ⟨e0, e1⟩ := own2 v2
  rw [hlv] at z1
  rw [hrv] at z2
  clear hg v1 v2 hLw hRw o2 o3 o4
  go_upto_region 4 with fail
  go_cut [14] (fun s14 wx => ∃ (Q : Nat) (a b : Sp), s14 = .pointer (some ⟨Q, 0, none⟩) ∧ Own wx Q 77 (a.cells ++ b.cells) ∧ w1.heap.size ≤ Q ∧ CopySC left a w1.heap.size wx ∧ CopySC right b w1.heap.size wx ∧ Below w1.heap.size w1 wx)
  case first =>
    go_region_held3 (fun w' => Bm w1.heap.size w1 w' ∧ ((w'.cell? ⟨w.heap.size, 0, none⟩ = some (.slice left.sA left.f.length left.sc) ∧ w'.cell? ⟨w.heap.size, 1, none⟩ = some (.slice left.lA left.L.length left.lc)) ∧ (w'.cell? ⟨w.heap.size + 1, 0, none⟩ = some (.slice right.sA right.f.length right.sc) ∧ w'.cell? ⟨w.heap.size + 1, 1, none⟩ = some (.slice right.lA right.L.length right.lc))))
      ((refine (fun h => And.intro h (HS.out _ h)) ?_; repeat (first | with_reducible exact Bm.of hb2 hbs | with_reducible exact Bm.of hb1 hbs | with_reducible exact Bm.of hself hbs | with_reducible refine Bm.set ?_ (by first | exact Nat.le_refl _ | exact hb1.below.size | (have z6 := hb1.below.size; simp; omega) | (have z6 := hb2.below.size; simp; omega)) _ _ | with_reducible refine Bm.more ?_ hbs _ | with_reducible refine Bm.drew ?_)))
      (first | (go_at_call 28; with_reducible refine (z2 _ ?_).out.mono ?_; (repeat (first | with_reducible exact hb1 | with_reducible refine Bl.more ?_ _ | with_reducible refine Bl.drew ?_)); intro x3 w3 hc3; unfold CopiedSC at hc3; obtain ⟨b, rfl, hcb, b3⟩ := hc3; have hb2 : Bl w1 w3 := Bl.call (by repeat (first | with_reducible exact hb1 | with_reducible refine Bl.more ?_ _ | with_reducible refine Bl.drew ?_)) b3; (rw [show b.val = .agg #[.slice b.sA b.f.length b.sc, .slice b.lA b.L.length b.lc] from rfl]); (try (have oz : Own w3 w1.heap.size 77 [.slice none 0 0, .slice none 0 0, .slice none 0 0, .slice none 0 0] := oz1.past b3 (by have := oz1.inside; simpa using this); obtain ⟨e0, e1⟩ := own4a oz; obtain ⟨e2, e3⟩ := own4l oz; have f0 := oz.open_ 0; have f1 := oz.open_ 1; have f2 := oz.open_ 2; have f3 := oz.open_ 3)); (try (have oz : Own w3 w2.heap.size 77 [.slice none 0 0, .slice none 0 0, .slice none 0 0, .slice none 0 0] := (Own.past (by first | exact Own.made _ _ [.slice none 0 0, .slice none 0 0, .slice none 0 0, .slice none 0 0] | exact own_drewKS (Own.made _ _ [.slice none 0 0, .slice none 0 0, .slice none 0 0, .slice none 0 0])) b3 (by simp)); obtain ⟨e0, e1⟩ := own4a oz; obtain ⟨e2, e3⟩ := own4l oz; have f0 := oz.open_ 0; have f1 := oz.open_ 1; have f2 := oz.open_ 2; have f3 := oz.open_ 3))) | (go_at_call 28; with_reducible refine (z1 _ ?_).out.mono ?_; (repeat (first | with_reducible exact hself | with_reducible refine Bl.more ?_ _ | with_reducible refine Bl.drew ?_)); intro x2 w2 hc2; unfold CopiedSC at hc2; obtain ⟨a, rfl, hca, b2⟩ := hc2; have hb1 : Bl w1 w2 := Bl.call (by repeat (first | with_reducible exact hself | with_reducible refine Bl.more ?_ _ | with_reducible refine Bl.drew ?_)) b2; (rw [show a.val = .agg #[.slice a.sA a.f.length a.sc, .slice a.lA a.L.length a.lc] from rfl]); (try (have oz1 : Own w2 w1.heap.size 77 [.slice none 0 0, .slice none 0 0, .slice none 0 0, .slice none 0 0] := (Own.past (by first | exact Own.made _ _ [.slice none 0 0, .slice none 0 0, .slice none 0 0, .slice none 0 0] | exact own_drewKS (Own.made _ _ [.slice none 0 0, .slice none 0 0, .slice none 0 0, .slice none 0 0])) b2 (by simp))))))
    all_goals
      go_wp2_with fail
      go_meet
    · refine ⟨_, a, b, rfl, Own.made w3 _ [.slice a.sA a.f.length a.sc, .slice a.lA a.L.length a.lc, .slice b.sA b.f.length b.sc, .slice b.lA b.L.length b.lc], hb2.below.size, (hca.kept (P := w.heap.size) ((KeptK.of_below b3 (Nat.le_refl _) _).alloc _) hwz).low (Nat.le_refl _), (hcb.kept (P := w.heap.size) ((KeptK.refl _ _).alloc _) (Nat.lt_of_lt_of_le hwz hb1.below.size)).low hb1.below.size, hb2.below.alloc hb2.below.size _⟩
    · refine ⟨_, a, b, rfl, ((((oz.set_ 0 _).set_ 1 _).set_ 2 _).set_ 3 _), hb1.below.size, (hca.kept (P := w.heap.size) (KeptK.set_ (S := (fun b => b = w.heap.size)) (KeptK.set_ (S := (fun b => b = w.heap.size)) (KeptK.set_ (S := (fun b => b = w.heap.size)) (KeptK.set_ (S := (fun b => b = w.heap.size)) (((KeptK.refl w2 (fun b => b = w.heap.size)).alloc _).trans (KeptK.of_below b3 (Nat.le_refl _) (fun b => b = w.heap.size)) (fun _ _ h => h)) (.inr (Nat.le_refl _)) _) (.inr (Nat.le_refl _)) _) (.inr (Nat.le_refl _)) _) (.inr (Nat.le_refl _)) _) hwz).low (Nat.le_refl _), (hcb.kept (P := w2.heap.size) (KeptK.set_ (S := (fun b => b = w2.heap.size)) (KeptK.set_ (S := (fun b => b = w2.heap.size)) (KeptK.set_ (S := (fun b => b = w2.heap.size)) (KeptK.set_ (S := (fun b => b = w2.heap.size)) (KeptK.refl _ _) (.inl rfl) _) (.inl rfl) _) (.inl rfl) _) (.inl rfl) _) (by simp)).low (by have := hb1.below.size; simp; omega), ((KeptK.set_ (S := (fun b => b = w2.heap.size)) (KeptK.set_ (S := (fun b => b = w2.heap.size)) (KeptK.set_ (S := (fun b => b = w2.heap.size)) (KeptK.set_ (S := (fun b => b = w2.heap.size)) (KeptK.of_below hb2.below (Nat.le_refl _) _) (.inl rfl) _) (.inl rfl) _) (.inl rfl) _) (.inl rfl) _)).below (fun b e => by have := hb1.below.size; omega) (Nat.le_refl _)⟩
    · refine ⟨_, a, b, rfl, ((((oz.set_ 0 _).set_ 1 _).set_ 2 _).set_ 3 _), Nat.le_refl _, (hca.kept (P := w1.heap.size) (KeptK.set_ (S := (fun b => b = w1.heap.size)) (KeptK.set_ (S := (fun b => b = w1.heap.size)) (KeptK.set_ (S := (fun b => b = w1.heap.size)) (KeptK.set_ (S := (fun b => b = w1.heap.size)) (KeptK.of_below b3 (Nat.le_refl _) _) (.inl rfl) _) (.inl rfl) _) (.inl rfl) _) (.inl rfl) _) (by simp)).low (by simp), (hcb.kept (P := w1.heap.size) (KeptK.set_ (S := (fun b => b = w1.heap.size)) (KeptK.set_ (S := (fun b => b = w1.heap.size)) (KeptK.set_ (S := (fun b => b = w1.heap.size)) (KeptK.set_ (S := (fun b => b = w1.heap.size)) (KeptK.refl _ _) (.inl rfl) _) (.inl rfl) _) (.inl rfl) _) (.inl rfl) _) (by have := b2.size; simp at this; omega)).low hb1.below.size, ((KeptK.set_ (S := (fun b => b = w1.heap.size)) (KeptK.set_ (S := (fun b => b = w1.heap.size)) (KeptK.set_ (S := (fun b => b = w1.heap.size)) (KeptK.set_ (S := (fun b => b = w1.heap.size)) (KeptK.of_below hb2.below (Nat.le_refl _) _) (.inl rfl) _) (.inl rfl) _) (.inl rfl) _) (.inl rfl) _)).below (fun b e => by omega) (Nat.le_refl _)⟩
  case rest =>
    obtain ⟨Q, a, b, rfl, hq, hQ, ca, cb, hcb⟩ := hcut
    have hB5 : w.heap.size + 5 ≤ w1.heap.size := by
      have h1 := H1.out.2.2.2.2.2.size
      have h2 := HB.out.2.2.2.2.2.2
      omega
    have hm : Mid w w.heap.size Q a b wc := ⟨hq, ca.in_, ca.ok, (ca.low hB5).lo, cb.in_, cb.ok, (cb.low hB5).lo, H1.out.2.2.1.past hcb H1.out.2.2.1.inside, H1.out.2.2.2.1.past hcb H1.out.2.2.2.1.inside, H1.out.2.2.2.2.1.past hcb H1.out.2.2.2.2.1.inside, belows H1.out.1 hcb, by omega⟩
    have ga : SpGood a.f a.L := by rw [ca.f]; exact pl_good ca.L.symm HG.out.1.1
    have gb : SpGood b.f b.L := by rw [cb.f]; exact pl_good cb.L.symm HG.out.1.2
    have wa : wtS a.L ≤ 1048576 := by rw [(pl_parts ca.L).2.2.1]; exact H.out.2.2.2.2.2.2.1
    have wb : wtS b.L ≤ 1048576 := by rw [(pl_parts cb.L).2.2.1]; exact H.out.2.2.2.2.2.2.2
    rcases HG.out.2.1 with rfl | rfl
    case inl =>
      have ym := Lib.hid (matching_any b A c l wc hm.inb hm.okb cb.rm gb (Nat.le_trans (parts_wt _) (by omega)) (H.out.2.2.2.2.1.keep hm.low) H.out.2.2.2.2.2.1 (by omega) (keys_short HG.out.2.2))
      rw [show b.val = .agg #[.slice b.sA b.f.length b.sc, .slice b.lA b.L.length b.lc] from rfl] at ym
      have HC := Lib.hid (And.intro hm (And.intro ca.rm (And.intro cb.rm (And.intro (show LikeS left a from ⟨ca.f, ca.L⟩) (And.intro (show LikeS right b from ⟨cb.f, cb.L⟩) (And.intro ga (And.intro gb (And.intro wa wb))))))))
      obtain ⟨e2, e3⟩ := own4l hm.own
      clear hq hQ hm ca cb hcb ga gb wa wb hB5 z1 z2 HS hself hbs d0 d1 e0 e1
      go_wp2_with fail
      refine ym.out.mono ?_
      rintro _ w2 ⟨Ao, co, oth, E, rfl, hr, hou, hoo, hol, hoc, b2⟩
      have hm2 := HC.out.1.keep b2
      have HO := Lib.hid (And.intro hr (And.intro hou (And.intro hoo (And.intro hol (And.intro hoc b2)))))
      clear hr hou hoo hol hoc b2 ym e2 e3
      by_cases hE : E = 0
      case neg =>
        have t1 : (E == 0) = false := beq_eq_false_iff_ne.2 hE
        have t2 : (E != 0) = true := bne_iff_ne.2 hE
        have HE := Lib.hid hE
        clear hE
        have hm3 := hm2
        obtain ⟨V4, hV4, hb4, hs4, hp4⟩ := jbox w2
        have hsz : w2.heap.size = w2.heap.size := rfl
        have hlX := H.out.2.2.2.2.1.keep hm3.low
        have yf := Lib.hid (failAll_any w2.heap.size ⟨0, 0, 0⟩ 0 (.slice none 0 0) A c l V4 hp4.own (.inl rfl) (hlX.past hb4 (Nat.le_refl _)).head (by omega) (by omega))
        clear hm2 hlX hp4
        go_upto_region 10 with fail
        rw [← hV4]
        clear hV4
        go_wp2_with fail
        refine yf.out.mono ?_
        rintro _ w5 ⟨rfl, t, y, ho5, hy, hk5⟩
        have hp5 : Prod w5 w2.heap.size t y (.slice none 0 0) [] := ⟨ho5, World.ownsRow_nil _ _ _ _, (fun u hu => by cases hu), fun hy0 => by
          rcases hy with e | ⟨_, _, e⟩
          · omega
          · exact e⟩
        have hwy : y = 0 ∨ y = 10 := by
          rcases hy with e | ⟨_, e, _⟩
          · exact .inr e
          · exact .inl e
        have HYf := Lib.hid hy
        have hfar : ∀ j, (Value.slice none 0 0).ownBlock = some j → V4.heap.size ≤ j := fun j e => (by cases e)
        clear yf ho5 hy

        have ye := Lib.hid (lend_any w2.heap.size t y (.slice none 0 0) [] w5 hp5 hwy (fun u hu => by cases hu) (Nat.zero_le _))
        have HK5 := Lib.hid (And.intro hk5 (And.intro hm3 (And.intro hs4 (And.intro hb4 (And.intro hfar hsz)))))
        clear hp5 hk5 hm3 hs4 hb4 hfar hsz
        go_wp2_with fail
        refine ye.out.mono ?_
        rintro _ w6 ⟨A6, c6, out, t6, E6, rfl, hE6, hE0, hEo, hou6, hoo6, hk6, hA6, haw6, hln6⟩
        clear ye
        have HSE := Lib.hid (show StepE left right 0 l a b out t6 E6 from stepE_fail H1.out.2.1 hE6 (fun h => (hEo h).2) HC.out.2.2.2.1 HC.out.2.2.2.2.1 HC.out.2.2.2.1 HC.out.2.2.2.2.1 (fun h => by
            have h1 := (hE0.1 h).1
            have h2 : out.map Up.p = [] := (hEo h).1
            rcases HYf.out with e | ⟨e, _, _⟩
            · omega
            · exact ⟨e, List.map_eq_nil_iff.1 h2⟩) (fun _ => .inl (by rcases HO.out.1 with ⟨e, _⟩ | ⟨e, k, hk⟩; exact absurd e HE.out; exact ⟨k, by rw [← hk]; exact e⟩)) (fun h => absurd h (by decide)))
        have hk := pk_far HK5.out.1 hk6 HK5.out.2.2.2.2.1
        have hb6 : Below w2.heap.size w2 w6 := HK5.out.2.2.2.1.trans (hk.below (B := w2.heap.size) (by have h1 := HK5.out.2.2.1; omega) (Nat.le_refl _) (fun k e => (by cases e)))
        have hm6 := HK5.out.2.1.keep hb6
        have hof : ∀ S : Nat → Prop, (∀ k, S k → k < w6.heap.size ∧ k < w5.heap.size) → OfU S A6 out := fun S hS => ⟨fun _ b o e hs => (by have h1 := hA6 b o e; have h2 := hS b hs; omega), fun u hu => ⟨fun hp b o e hs => (by have h1 := (haw6 u hu).1 hp b o e; have h2 := hS b hs; omega), fun hp b o e hs => (by have h1 := (haw6 u hu).2 hp b o e; have h2 := hS b hs; omega)⟩⟩
        have H6 := Lib.hid (And.intro hm6 (And.intro hou6 (And.intro hoo6 (And.intro hof (And.intro hE6 (And.intro hE0 hEo))))))
        clear hk hb6 hm6 hof hou6 hoo6 hk6 hA6 haw6 hln6 hE6 hE0 hEo
        obtain ⟨W7, hW7, hb7, hs7, ho7⟩ := tbox3 w6 t6
        have hbd : Below w6.heap.size w6 W7.drew := hb7.drew
        have hm7 := H6.out.1.keep hbd
        have hou7 := H6.out.2.1.keep hbd
        have ho7d : Own W7.drew w6.heap.size 26 [.int .u64 (t6.e : Int), .int .u64 (t6.a : Int), .int .u64 (t6.b : Int)] := ho7
        obtain ⟨X, hX, x2, x3, x4, kx, g2, g3, g4⟩ := step_fin hm7.z2 hm7.z3 hm7.z4 (.slice a.sA a.f.length a.sc) (.slice a.lA a.L.length a.lc) (.slice b.sA b.f.length b.sc) (.slice b.lA b.L.length b.lc) (.int .u64 (t6.e : Int)) (.int .u64 (t6.a : Int)) (.int .u64 (t6.b : Int))
        have hP5 : w.heap.size + 5 ≤ w6.heap.size := by have h1 := H6.out.1.own.inside; have h2 := H6.out.1.q; omega
        have HS := Lib.hid (fun W (h : Kp w.heap.size W7.drew W) => h.open_ hm7.own ho7d hm7.q hP5)
        have hk0 : Kp w.heap.size W7.drew W7.drew := ⟨KeptK.refl _ _, ⟨_, _, hm7.z2⟩, ⟨_, _, hm7.z3⟩, ⟨_, _, _, hm7.z4⟩⟩
        have hS0 := HS.out W7.drew hk0
        have hof7 := H6.out.2.2.2.1 (fun k => k = w.heap.size + 2 ∨ k = w.heap.size + 3 ∨ k = w.heap.size + 4) (fun k hk => by have h1 := HK5.out.1.size; have h2 := HK5.out.2.1.own.inside; have h3 := HK5.out.2.1.q; have h4 := HK5.out.2.2.1; omega)
        unfold KpS at hS0 HS
        have HF := Lib.hid (step_done (A := A6) (c := c6) hm7 kx HSE.out hou7 H6.out.2.2.1 hof7)
        obtain ⟨q0, q1⟩ := own2 g2
        obtain ⟨q2, q3⟩ := own2 g3
        obtain ⟨q4, q5, q6⟩ := own3 g4
        have f0 := g2.open_ 0
        have f1 := g2.open_ 1
        have f2 := g3.open_ 0
        have f3 := g3.open_ 1
        have f4 := g4.open_ 0
        have f5 := g4.open_ 1
        have f6 := g4.open_ 2
        obtain ⟨y0, y1⟩ := own2 x2
        obtain ⟨y2, y3⟩ := own2 x3
        obtain ⟨y4, y5, y6⟩ := own3 x4
        have HY := Lib.hid hX
        clear hm7 hou7 x2 x3 x4 kx g2 g3 g4 hP5 hof7 ho7 ho7d hs7 hb7 hbd hX
        go_upto_region 15 with fail
        rw [← hW7]
        clear hW7
        refine wp_region_held_drew (S := fun w' => Kp w.heap.size W7.drew w') (by kernel_rfl) hk0 (fun hS => ?_)
        generalize W7.drew = W8 at *
        refine wpAnyH_take (i := 0) (v := .pointer (some ⟨Q, 0, none⟩)) rfl (by kernel_rfl) (by kernel_rfl) (by kernel_rfl) (fun _ _ _ h => h) (Or.inl ⟨by rfl, fun w hSw => ?_⟩) hS ?_
        · go_simp
        simp only [Act.put, List.setIfInBounds_toArray, List.set_cons_zero, List.set_cons_succ]
        refine wpAnyH_take (i := 1) (v := .agg #[.slice a.sA a.f.length a.sc, .slice a.lA a.L.length a.lc]) rfl (by kernel_rfl) (by kernel_rfl) (by kernel_rfl) (fun _ _ _ h => h) (Or.inl ⟨by rfl, fun w hSw => ?_⟩) hS ?_
        · obtain ⟨⟨n0, n1, n2, n3⟩, m0, m1, m2⟩ := HS.out _ hSw
          go_simp
        simp only [Act.put, List.setIfInBounds_toArray, List.set_cons_zero, List.set_cons_succ]
        refine wpAnyH_take (i := 2) (v := .pointer (some ⟨Q, 2, none⟩)) rfl (by kernel_rfl) (by kernel_rfl) (by kernel_rfl) (fun _ _ _ h => h) (Or.inl ⟨by rfl, fun w hSw => ?_⟩) hS ?_
        · go_simp
        simp only [Act.put, List.setIfInBounds_toArray, List.set_cons_zero, List.set_cons_succ]
        refine wpAnyH_take (i := 3) (v := .agg #[.slice b.sA b.f.length b.sc, .slice b.lA b.L.length b.lc]) rfl (by kernel_rfl) (by kernel_rfl) (by kernel_rfl) (fun _ _ _ h => h) (Or.inl ⟨by rfl, fun w hSw => ?_⟩) hS ?_
        · obtain ⟨⟨n0, n1, n2, n3⟩, m0, m1, m2⟩ := HS.out _ hSw
          go_simp
        simp only [Act.put, List.setIfInBounds_toArray, List.set_cons_zero, List.set_cons_succ]
        refine wpAnyH_take (i := 4) (v := .slice A6 out.length c6) rfl (by kernel_rfl) (by kernel_rfl) (by kernel_rfl) (fun _ _ _ h => h) (Or.inl ⟨by rfl, fun w hSw => ?_⟩) hS ?_
        · go_simp
        simp only [Act.put, List.setIfInBounds_toArray, List.set_cons_zero, List.set_cons_succ]
        refine wpAnyH_take (i := 5) (v := .agg #[.int .u64 (t6.e : Int), .int .u64 (t6.a : Int), .int .u64 (t6.b : Int)]) rfl (by kernel_rfl) (by kernel_rfl) (by kernel_rfl) (fun _ _ _ h => h) (Or.inl ⟨by rfl, fun w hSw => ?_⟩) hS ?_
        · obtain ⟨⟨n0, n1, n2, n3⟩, m0, m1, m2⟩ := HS.out _ hSw
          go_simp
        simp only [Act.put, List.setIfInBounds_toArray, List.set_cons_zero, List.set_cons_succ]
        refine wpAnyH_take (i := 6) (v := .int .i64 E6) rfl (by kernel_rfl) (by kernel_rfl) (by kernel_rfl) (fun _ _ _ h => h) (Or.inl ⟨by rfl, fun w hSw => ?_⟩) hS ?_
        · go_simp
        simp only [Act.put, List.setIfInBounds_toArray, List.set_cons_zero, List.set_cons_succ]
        refine wpAnyH_ready (rs := [7]) (by kernel_rfl) (by simp) ?_
        refine AllReadyH.cons rfl (fun K hK => ?_) AllReadyH.nil
        go_simp
        refine hK.out _ _ ((hk0.s2 _).s2 _) (fun _ => ?_)
        clear hK K
        try simp only [Act.put, List.setIfInBounds_toArray, List.set_cons_zero, List.set_cons_succ]
        refine wpAnyH_ready (rs := [8]) (by kernel_rfl) (by simp) ?_
        refine AllReadyH.cons rfl (fun K hK => ?_) AllReadyH.nil
        go_simp
        refine hK.out _ _ ((((hk0.s2 _).s2 _).s3 _).s3 _) (fun _ => ?_)
        clear hK K
        try simp only [Act.put, List.setIfInBounds_toArray, List.set_cons_zero, List.set_cons_succ]
        refine wpAnyH_ready (rs := [9]) (by kernel_rfl) (by simp) ?_
        refine AllReadyH.cons rfl (fun K hK => ?_) AllReadyH.nil
        go_simp
        refine hK.out _ _ ((((hk0.s2 _).s2 _).s3 _).s3 _) (fun _ => ?_)
        clear hK K
        try simp only [Act.put, List.setIfInBounds_toArray, List.set_cons_zero, List.set_cons_succ]
        refine wpAnyH_ready (rs := [10]) (by kernel_rfl) (by simp) ?_
        refine AllReadyH.cons rfl (fun K hK => ?_) AllReadyH.nil
        go_simp
        refine hK.out _ _ (((((((hk0.s2 _).s2 _).s3 _).s3 _).s4 _).s4 _).s4 _) (fun _ => ?_)
        clear hK K
        try simp only [Act.put, List.setIfInBounds_toArray, List.set_cons_zero, List.set_cons_succ]
        refine wpAnyH_ready (rs := [11]) (by kernel_rfl) (by simp) ?_
        refine AllReadyH.cons rfl (fun K hK => ?_) AllReadyH.nil
        go_simp
        refine hK.out _ _ (((((((hk0.s2 _).s2 _).s3 _).s3 _).s4 _).s4 _).s4 _) (fun _ => ?_)
        clear hK K
        try simp only [Act.put, List.setIfInBounds_toArray, List.set_cons_zero, List.set_cons_succ]
        refine wpAnyH_done (by kernel_rfl) ?_ _
        rw [← HY.out]
        go_wp2_with fail
        exact bodyPost_ret (v := .tuple #[.agg #[.slice a.sA a.f.length a.sc, .slice a.lA a.L.length a.lc], .agg #[.slice b.sA b.f.length b.sc, .slice b.lA b.L.length b.lc], .slice A6 out.length c6, .agg #[.int .u64 (t6.e : Int), .int .u64 (t6.a : Int), .int .u64 (t6.b : Int)], .int .i64 E6]) (by simp [results, Tryz.results12, go_sem, y0, y1, y2, y3, y4, y5, y6]) rfl HF.out
      subst hE
      have hmo : MatchOk b.f (partsS b.L) l oth := by
        rcases HO.out.1 with ⟨_, h⟩ | ⟨h, _⟩
        · exact h
        · exact absurd rfl h
      have HMO := Lib.hid hmo
      obtain ⟨e0, e1⟩ := own4a hm2.own
      obtain ⟨V2, hV2, hb2, hu2⟩ := one_list w2 A c l (H.out.2.2.2.2.1.keep hm2.low)
      have hmv := hm2.keep hb2
      have hfl : flatR [⟨A, c, l⟩] = l := by unfold flatR; simp
      have yi := Lib.hid (insert_sp a (some ⟨w2.heap.size, 0, none⟩) 1 [⟨A, c, l⟩] V2 hmv.ina hmv.oka hu2 (fun r hr => by obtain rfl := List.mem_singleton.1 hr; exact H.out.2.2.2.2.2.1) (by rw [hfl]; have := HC.out.2.2.2.2.2.2.2.1; omega) (by simp))
      rw [hfl, show a.val = .agg #[.slice a.sA a.f.length a.sc, .slice a.lA a.L.length a.lc] from rfl] at yi
      have hov := HO.out.2.1.keep hb2
      have HV2 := Lib.hid (And.intro hmv hov)
      clear hmo hm2 hb2 hu2 hmv hfl hov
      go_wp2_with fail
      rw [← hV2]
      clear hV2
      refine yi.out.mono ?_
      rintro _ w3 ⟨s, E2, rfl, hI, si, so, sl, b3⟩
      rw [show s.val = .agg #[.slice s.sA s.f.length s.sc, .slice s.lA s.L.length s.lc] from rfl]
      have hm3w := HV2.out.1.keep b3
      have ho3 := HV2.out.2.keep b3
      have hB5 : w.heap.size + 5 ≤ V2.heap.size := by have h1 := HV2.out.1.own.inside; have h2 := HV2.out.1.q; omega
      obtain ⟨hm3, kX⟩ := hm3w.turnA si so (sl.mono hB5) (by have := hm3w.q; omega)
      have hoX := slices_turn hm3w ho3 kX
      have r0 := hm3w.own.at_ 0
      have r1 := hm3w.own.at_ 1
      have r2 := hm3w.own.open_ 0
      have r3 := hm3w.own.open_ 1
      simp only [List.getElem?_cons_zero, List.getElem?_cons_succ] at r0 r1
      obtain ⟨X3, hX3⟩ : ∃ X, X = ((w3.setCell ⟨Q, 0, none⟩ (.slice s.sA s.f.length s.sc)).setCell ⟨Q, 1, none⟩ (.slice s.lA s.L.length s.lc)) := ⟨_, rfl⟩
      rw [← hX3] at hm3 kX hoX
      obtain ⟨V4, hV4, hb4, hs4, hp4⟩ := jbox X3
      have hsz : X3.heap.size = w3.heap.size := by rw [hX3]; simp [World.setCell]
      have hlX := H.out.2.2.2.2.1.keep hm3.low
      have hlV := hlX.past hb4 (Nat.le_refl _)
      have hoV := hoX.past hb4 (Nat.le_refl _)
      rw [hsz] at hlV hoV hp4
      have HI := Lib.hid hI
      have HX := Lib.hid (And.intro hoV (And.intro hlV hsz))
      clear hI si so sl b3 hm3w ho3 hB5 kX e0 e1 yi hoX hoV hlV hsz hlX
      by_cases hE2 : E2 = 0
      case neg =>
        have t1 : (E2 != 0) = true := bne_iff_ne.2 hE2
        have hwi : LikeS left s ∧ WhyI a l := by
          rcases HI.out with ⟨h, _⟩ | ⟨_, hf, ⟨h, _⟩ | ⟨_, hp, hy⟩⟩
          · exact absurd HC.out.2.2.2.2.2.1 h
          · exact absurd h hE2
          · exact ⟨⟨hf.trans HC.out.2.2.2.1.1, hp.trans HC.out.2.2.2.1.2⟩, hy⟩
        have HE := Lib.hid hwi
        clear hE2 hwi
        have yf := Lib.hid (failAll_any w3.heap.size ⟨0, 0, 0⟩ 0 (.slice none 0 0) A c l V4 hp4.own (.inl rfl) HX.out.2.1.head (by have h1 := HX.out.2.2; omega) (by omega))
        clear hp4
        go_upto_region 10 with fail
        rw [← hX3, ← hV4]
        clear hX3 hV4
        go_wp2_with fail
        refine yf.out.mono ?_
        rintro _ w5 ⟨rfl, t, y, ho5, hy, hk5⟩
        have hp5 : Prod w5 w3.heap.size t y (.slice none 0 0) [] := ⟨ho5, World.ownsRow_nil _ _ _ _, (fun u hu => by cases hu), fun hy0 => by
          rcases hy with e | ⟨_, _, e⟩
          · omega
          · exact e⟩
        have hwy : y = 0 ∨ y = 10 := by
          rcases hy with e | ⟨_, e, _⟩
          · exact .inr e
          · exact .inl e
        have HYf := Lib.hid hy
        have hfar : ∀ j, (Value.slice none 0 0).ownBlock = some j → V4.heap.size ≤ j := fun j e => (by cases e)
        clear yf ho5 hy
        have hsz := HX.out.2.2

        have ye := Lib.hid (lend_any w3.heap.size t y (.slice none 0 0) [] w5 hp5 hwy (fun u hu => by cases hu) (Nat.zero_le _))
        have HK5 := Lib.hid (And.intro hk5 (And.intro hm3 (And.intro hs4 (And.intro hb4 (And.intro hfar hsz)))))
        clear hp5 hk5 hm3 hs4 hb4 hfar hsz
        go_wp2_with fail
        refine ye.out.mono ?_
        rintro _ w6 ⟨A6, c6, out, t6, E6, rfl, hE6, hE0, hEo, hou6, hoo6, hk6, hA6, haw6, hln6⟩
        clear ye
        have HSE := Lib.hid (show StepE left right 0 l s b out t6 E6 from stepE_fail H1.out.2.1 hE6 (fun h => (hEo h).2) HC.out.2.2.2.1 HC.out.2.2.2.2.1 HE.out.1 HC.out.2.2.2.2.1 (fun h => by
            have h1 := (hE0.1 h).1
            have h2 : out.map Up.p = [] := (hEo h).1
            rcases HYf.out with e | ⟨e, _, _⟩
            · omega
            · exact ⟨e, List.map_eq_nil_iff.1 h2⟩) (fun _ => .inr HE.out.2) (fun h => absurd h (by decide)))
        have hk := pk_far HK5.out.1 hk6 HK5.out.2.2.2.2.1
        have hb6 : Below X3.heap.size X3 w6 := HK5.out.2.2.2.1.trans (hk.below (B := X3.heap.size) (by have h1 := HK5.out.2.2.1; omega) (Nat.le_of_eq HK5.out.2.2.2.2.2) (fun k e => (by cases e)))
        have hm6 := HK5.out.2.1.keep hb6
        have hof : ∀ S : Nat → Prop, (∀ k, S k → k < w6.heap.size ∧ k < w5.heap.size) → OfU S A6 out := fun S hS => ⟨fun _ b o e hs => (by have h1 := hA6 b o e; have h2 := hS b hs; omega), fun u hu => ⟨fun hp b o e hs => (by have h1 := (haw6 u hu).1 hp b o e; have h2 := hS b hs; omega), fun hp b o e hs => (by have h1 := (haw6 u hu).2 hp b o e; have h2 := hS b hs; omega)⟩⟩
        have H6 := Lib.hid (And.intro hm6 (And.intro hou6 (And.intro hoo6 (And.intro hof (And.intro hE6 (And.intro hE0 hEo))))))
        clear hk hb6 hm6 hof hou6 hoo6 hk6 hA6 haw6 hln6 hE6 hE0 hEo
        obtain ⟨W7, hW7, hb7, hs7, ho7⟩ := tbox3 w6 t6
        have hbd : Below w6.heap.size w6 W7.drew := hb7.drew
        have hm7 := H6.out.1.keep hbd
        have hou7 := H6.out.2.1.keep hbd
        have ho7d : Own W7.drew w6.heap.size 26 [.int .u64 (t6.e : Int), .int .u64 (t6.a : Int), .int .u64 (t6.b : Int)] := ho7
        obtain ⟨X, hX, x2, x3, x4, kx, g2, g3, g4⟩ := step_fin hm7.z2 hm7.z3 hm7.z4 (.slice s.sA s.f.length s.sc) (.slice s.lA s.L.length s.lc) (.slice b.sA b.f.length b.sc) (.slice b.lA b.L.length b.lc) (.int .u64 (t6.e : Int)) (.int .u64 (t6.a : Int)) (.int .u64 (t6.b : Int))
        have hP5 : w.heap.size + 5 ≤ w6.heap.size := by have h1 := H6.out.1.own.inside; have h2 := H6.out.1.q; omega
        have HS := Lib.hid (fun W (h : Kp w.heap.size W7.drew W) => h.open_ hm7.own ho7d hm7.q hP5)
        have hk0 : Kp w.heap.size W7.drew W7.drew := ⟨KeptK.refl _ _, ⟨_, _, hm7.z2⟩, ⟨_, _, hm7.z3⟩, ⟨_, _, _, hm7.z4⟩⟩
        have hS0 := HS.out W7.drew hk0
        have hof7 := H6.out.2.2.2.1 (fun k => k = w.heap.size + 2 ∨ k = w.heap.size + 3 ∨ k = w.heap.size + 4) (fun k hk => by have h1 := HK5.out.1.size; have h2 := HK5.out.2.1.own.inside; have h3 := HK5.out.2.1.q; have h4 := HK5.out.2.2.1; omega)
        unfold KpS at hS0 HS
        have HF := Lib.hid (step_done (A := A6) (c := c6) hm7 kx HSE.out hou7 H6.out.2.2.1 hof7)
        obtain ⟨q0, q1⟩ := own2 g2
        obtain ⟨q2, q3⟩ := own2 g3
        obtain ⟨q4, q5, q6⟩ := own3 g4
        have f0 := g2.open_ 0
        have f1 := g2.open_ 1
        have f2 := g3.open_ 0
        have f3 := g3.open_ 1
        have f4 := g4.open_ 0
        have f5 := g4.open_ 1
        have f6 := g4.open_ 2
        obtain ⟨y0, y1⟩ := own2 x2
        obtain ⟨y2, y3⟩ := own2 x3
        obtain ⟨y4, y5, y6⟩ := own3 x4
        have HY := Lib.hid hX
        clear hm7 hou7 x2 x3 x4 kx g2 g3 g4 hP5 hof7 ho7 ho7d hs7 hb7 hbd hX
        go_upto_region 15 with fail
        rw [← hW7]
        clear hW7
        refine wp_region_held_drew (S := fun w' => Kp w.heap.size W7.drew w') (by kernel_rfl) hk0 (fun hS => ?_)
        generalize W7.drew = W8 at *
        refine wpAnyH_take (i := 0) (v := .pointer (some ⟨Q, 0, none⟩)) rfl (by kernel_rfl) (by kernel_rfl) (by kernel_rfl) (fun _ _ _ h => h) (Or.inl ⟨by rfl, fun w hSw => ?_⟩) hS ?_
        · go_simp
        simp only [Act.put, List.setIfInBounds_toArray, List.set_cons_zero, List.set_cons_succ]
        refine wpAnyH_take (i := 1) (v := .agg #[.slice s.sA s.f.length s.sc, .slice s.lA s.L.length s.lc]) rfl (by kernel_rfl) (by kernel_rfl) (by kernel_rfl) (fun _ _ _ h => h) (Or.inl ⟨by rfl, fun w hSw => ?_⟩) hS ?_
        · obtain ⟨⟨n0, n1, n2, n3⟩, m0, m1, m2⟩ := HS.out _ hSw
          go_simp
        simp only [Act.put, List.setIfInBounds_toArray, List.set_cons_zero, List.set_cons_succ]
        refine wpAnyH_take (i := 2) (v := .pointer (some ⟨Q, 2, none⟩)) rfl (by kernel_rfl) (by kernel_rfl) (by kernel_rfl) (fun _ _ _ h => h) (Or.inl ⟨by rfl, fun w hSw => ?_⟩) hS ?_
        · go_simp
        simp only [Act.put, List.setIfInBounds_toArray, List.set_cons_zero, List.set_cons_succ]
        refine wpAnyH_take (i := 3) (v := .agg #[.slice b.sA b.f.length b.sc, .slice b.lA b.L.length b.lc]) rfl (by kernel_rfl) (by kernel_rfl) (by kernel_rfl) (fun _ _ _ h => h) (Or.inl ⟨by rfl, fun w hSw => ?_⟩) hS ?_
        · obtain ⟨⟨n0, n1, n2, n3⟩, m0, m1, m2⟩ := HS.out _ hSw
          go_simp
        simp only [Act.put, List.setIfInBounds_toArray, List.set_cons_zero, List.set_cons_succ]
        refine wpAnyH_take (i := 4) (v := .slice A6 out.length c6) rfl (by kernel_rfl) (by kernel_rfl) (by kernel_rfl) (fun _ _ _ h => h) (Or.inl ⟨by rfl, fun w hSw => ?_⟩) hS ?_
        · go_simp
        simp only [Act.put, List.setIfInBounds_toArray, List.set_cons_zero, List.set_cons_succ]
        refine wpAnyH_take (i := 5) (v := .agg #[.int .u64 (t6.e : Int), .int .u64 (t6.a : Int), .int .u64 (t6.b : Int)]) rfl (by kernel_rfl) (by kernel_rfl) (by kernel_rfl) (fun _ _ _ h => h) (Or.inl ⟨by rfl, fun w hSw => ?_⟩) hS ?_
        · obtain ⟨⟨n0, n1, n2, n3⟩, m0, m1, m2⟩ := HS.out _ hSw
          go_simp
        simp only [Act.put, List.setIfInBounds_toArray, List.set_cons_zero, List.set_cons_succ]
        refine wpAnyH_take (i := 6) (v := .int .i64 E6) rfl (by kernel_rfl) (by kernel_rfl) (by kernel_rfl) (fun _ _ _ h => h) (Or.inl ⟨by rfl, fun w hSw => ?_⟩) hS ?_
        · go_simp
        simp only [Act.put, List.setIfInBounds_toArray, List.set_cons_zero, List.set_cons_succ]
        refine wpAnyH_ready (rs := [7]) (by kernel_rfl) (by simp) ?_
        refine AllReadyH.cons rfl (fun K hK => ?_) AllReadyH.nil
        go_simp
        refine hK.out _ _ ((hk0.s2 _).s2 _) (fun _ => ?_)
        clear hK K
        try simp only [Act.put, List.setIfInBounds_toArray, List.set_cons_zero, List.set_cons_succ]
        refine wpAnyH_ready (rs := [8]) (by kernel_rfl) (by simp) ?_
        refine AllReadyH.cons rfl (fun K hK => ?_) AllReadyH.nil
        go_simp
        refine hK.out _ _ ((((hk0.s2 _).s2 _).s3 _).s3 _) (fun _ => ?_)
        clear hK K
        try simp only [Act.put, List.setIfInBounds_toArray, List.set_cons_zero, List.set_cons_succ]
        refine wpAnyH_ready (rs := [9]) (by kernel_rfl) (by simp) ?_
        refine AllReadyH.cons rfl (fun K hK => ?_) AllReadyH.nil
        go_simp
        refine hK.out _ _ ((((hk0.s2 _).s2 _).s3 _).s3 _) (fun _ => ?_)
        clear hK K
        try simp only [Act.put, List.setIfInBounds_toArray, List.set_cons_zero, List.set_cons_succ]
        refine wpAnyH_ready (rs := [10]) (by kernel_rfl) (by simp) ?_
        refine AllReadyH.cons rfl (fun K hK => ?_) AllReadyH.nil
        go_simp
        refine hK.out _ _ (((((((hk0.s2 _).s2 _).s3 _).s3 _).s4 _).s4 _).s4 _) (fun _ => ?_)
        clear hK K
        try simp only [Act.put, List.setIfInBounds_toArray, List.set_cons_zero, List.set_cons_succ]
        refine wpAnyH_ready (rs := [11]) (by kernel_rfl) (by simp) ?_
        refine AllReadyH.cons rfl (fun K hK => ?_) AllReadyH.nil
        go_simp
        refine hK.out _ _ (((((((hk0.s2 _).s2 _).s3 _).s3 _).s4 _).s4 _).s4 _) (fun _ => ?_)
        clear hK K
        try simp only [Act.put, List.setIfInBounds_toArray, List.set_cons_zero, List.set_cons_succ]
        refine wpAnyH_done (by kernel_rfl) ?_ _
        rw [← HY.out]
        go_wp2_with fail
        exact bodyPost_ret (v := .tuple #[.agg #[.slice s.sA s.f.length s.sc, .slice s.lA s.L.length s.lc], .agg #[.slice b.sA b.f.length b.sc, .slice b.lA b.L.length b.lc], .slice A6 out.length c6, .agg #[.int .u64 (t6.e : Int), .int .u64 (t6.a : Int), .int .u64 (t6.b : Int)], .int .i64 E6]) (by simp [results, Tryz.results12, go_sem, y0, y1, y2, y3, y4, y5, y6]) rfl HF.out
      subst hE2
      have hpt : s.f = a.f ∧ PutTo a.f a.L s.L l 1 l.length := by
        rcases HI.out with ⟨h, _⟩ | ⟨_, hf, ⟨_, _, hp, _⟩ | ⟨h, _⟩⟩
        · exact absurd HC.out.2.2.2.2.2.1 h
        · exact ⟨hf, hp⟩
        · exact absurd rfl h
      have HPT := Lib.hid hpt
      have hol : oth.length ≤ 1048576 := Nat.le_trans HO.out.2.2.2.1 (Nat.le_trans (parts_wt _) HC.out.2.2.2.2.2.2.2.2)
      have ymt := Lib.hid (match_any w3.heap.size A c l Ao co oth V4 hp4 HX.out.2.1 H.out.2.2.2.2.2.1 HG.out.2.2 HX.out.1 HO.out.2.2.1 HO.out.2.2.2.2.1 (by omega) (by omega) (Nat.le_trans (Nat.mul_le_mul hn hol) (by decide)))
      have HLN := Lib.hid hol
      clear hpt hp4 hol
      go_upto_region 10 with fail
      rw [← hX3, ← hV4]
      clear hX3 hV4
      go_wp2_with fail
      refine ymt.out.mono ?_
      rintro _ w5 ⟨rfl, t, why, v, M, hp5, hk5, hfar, hwy, hok, hper, hchk, hlen⟩
      have HM := Lib.hid (And.intro hok (And.intro hper hchk))
      have hmlen : M.length ≤ 1099511627776 := Nat.le_trans hlen (Nat.le_trans (Nat.mul_le_mul hn HLN.out) (by decide))
      clear ymt hok hper hlen
      have hsz := HX.out.2.2
      have ye := Lib.hid (lend_any w3.heap.size t why v M w5 hp5 hwy hchk hmlen)
      have HK5 := Lib.hid (And.intro hk5 (And.intro hm3 (And.intro hs4 (And.intro hb4 (And.intro hfar hsz)))))
      clear hp5 hk5 hm3 hs4 hb4 hfar hsz
      go_wp2_with fail
      refine ye.out.mono ?_
      rintro _ w6 ⟨A6, c6, out, t6, E6, rfl, hE6, hE0, hEo, hou6, hoo6, hk6, hA6, haw6, hln6⟩
      clear ye
      have HSE := Lib.hid (show StepE left right 0 l s b out t6 E6 from stepE_ok0 H1.out.2.1 hE6 (fun h => (hEo h).2) HC.out.2.2.2.1 HC.out.2.2.2.2.1 HPT.out.1 HPT.out.2 HMO.out HO.out.2.2.2.2.1 (made_is HG.out.2.2 HO.out.2.2.2.2.1 HM.out.1 HM.out.2.1 HM.out.2.2 hE0 hEo).1 (made_is HG.out.2.2 HO.out.2.2.2.2.1 HM.out.1 HM.out.2.1 HM.out.2.2 hE0 hEo).2)
      have hk := pk_far HK5.out.1 hk6 HK5.out.2.2.2.2.1
      have hb6 : Below X3.heap.size X3 w6 := HK5.out.2.2.2.1.trans (hk.below (B := X3.heap.size) (by have h1 := HK5.out.2.2.1; omega) (Nat.le_of_eq HK5.out.2.2.2.2.2) (fun k e => (by cases e)))
      have hm6 := HK5.out.2.1.keep hb6
      have hof : ∀ S : Nat → Prop, (∀ k, S k → k < w6.heap.size ∧ k < w5.heap.size) → OfU S A6 out := fun S hS => ⟨fun _ b o e hs => (by have h1 := hA6 b o e; have h2 := hS b hs; omega), fun u hu => ⟨fun hp b o e hs => (by have h1 := (haw6 u hu).1 hp b o e; have h2 := hS b hs; omega), fun hp b o e hs => (by have h1 := (haw6 u hu).2 hp b o e; have h2 := hS b hs; omega)⟩⟩
      have H6 := Lib.hid (And.intro hm6 (And.intro hou6 (And.intro hoo6 (And.intro hof (And.intro hE6 (And.intro hE0 hEo))))))
      clear hk hb6 hm6 hof hou6 hoo6 hk6 hA6 haw6 hln6 hE6 hE0 hEo
      obtain ⟨W7, hW7, hb7, hs7, ho7⟩ := tbox3 w6 t6
      have hbd : Below w6.heap.size w6 W7.drew := hb7.drew
      have hm7 := H6.out.1.keep hbd
      have hou7 := H6.out.2.1.keep hbd
      have ho7d : Own W7.drew w6.heap.size 26 [.int .u64 (t6.e : Int), .int .u64 (t6.a : Int), .int .u64 (t6.b : Int)] := ho7
      obtain ⟨X, hX, x2, x3, x4, kx, g2, g3, g4⟩ := step_fin hm7.z2 hm7.z3 hm7.z4 (.slice s.sA s.f.length s.sc) (.slice s.lA s.L.length s.lc) (.slice b.sA b.f.length b.sc) (.slice b.lA b.L.length b.lc) (.int .u64 (t6.e : Int)) (.int .u64 (t6.a : Int)) (.int .u64 (t6.b : Int))
      have hP5 : w.heap.size + 5 ≤ w6.heap.size := by have h1 := H6.out.1.own.inside; have h2 := H6.out.1.q; omega
      have HS := Lib.hid (fun W (h : Kp w.heap.size W7.drew W) => h.open_ hm7.own ho7d hm7.q hP5)
      have hk0 : Kp w.heap.size W7.drew W7.drew := ⟨KeptK.refl _ _, ⟨_, _, hm7.z2⟩, ⟨_, _, hm7.z3⟩, ⟨_, _, _, hm7.z4⟩⟩
      have hS0 := HS.out W7.drew hk0
      have hof7 := H6.out.2.2.2.1 (fun k => k = w.heap.size + 2 ∨ k = w.heap.size + 3 ∨ k = w.heap.size + 4) (fun k hk => by have h1 := HK5.out.1.size; have h2 := HK5.out.2.1.own.inside; have h3 := HK5.out.2.1.q; have h4 := HK5.out.2.2.1; omega)
      unfold KpS at hS0 HS
      have HF := Lib.hid (step_done (A := A6) (c := c6) hm7 kx HSE.out hou7 H6.out.2.2.1 hof7)
      obtain ⟨q0, q1⟩ := own2 g2
      obtain ⟨q2, q3⟩ := own2 g3
      obtain ⟨q4, q5, q6⟩ := own3 g4
      have f0 := g2.open_ 0
      have f1 := g2.open_ 1
      have f2 := g3.open_ 0
      have f3 := g3.open_ 1
      have f4 := g4.open_ 0
      have f5 := g4.open_ 1
      have f6 := g4.open_ 2
      obtain ⟨y0, y1⟩ := own2 x2
      obtain ⟨y2, y3⟩ := own2 x3
      obtain ⟨y4, y5, y6⟩ := own3 x4
      have HY := Lib.hid hX
      clear hm7 hou7 x2 x3 x4 kx g2 g3 g4 hP5 hof7 ho7 ho7d hs7 hb7 hbd hX
      go_upto_region 15 with fail
      rw [← hW7]
      clear hW7
      refine wp_region_held_drew (S := fun w' => Kp w.heap.size W7.drew w') (by kernel_rfl) hk0 (fun hS => ?_)
      generalize W7.drew = W8 at *
      refine wpAnyH_take (i := 0) (v := .pointer (some ⟨Q, 0, none⟩)) rfl (by kernel_rfl) (by kernel_rfl) (by kernel_rfl) (fun _ _ _ h => h) (Or.inl ⟨by rfl, fun w hSw => ?_⟩) hS ?_
      · go_simp
      simp only [Act.put, List.setIfInBounds_toArray, List.set_cons_zero, List.set_cons_succ]
      refine wpAnyH_take (i := 1) (v := .agg #[.slice s.sA s.f.length s.sc, .slice s.lA s.L.length s.lc]) rfl (by kernel_rfl) (by kernel_rfl) (by kernel_rfl) (fun _ _ _ h => h) (Or.inl ⟨by rfl, fun w hSw => ?_⟩) hS ?_
      · obtain ⟨⟨n0, n1, n2, n3⟩, m0, m1, m2⟩ := HS.out _ hSw
        go_simp
      simp only [Act.put, List.setIfInBounds_toArray, List.set_cons_zero, List.set_cons_succ]
      refine wpAnyH_take (i := 2) (v := .pointer (some ⟨Q, 2, none⟩)) rfl (by kernel_rfl) (by kernel_rfl) (by kernel_rfl) (fun _ _ _ h => h) (Or.inl ⟨by rfl, fun w hSw => ?_⟩) hS ?_
      · go_simp
      simp only [Act.put, List.setIfInBounds_toArray, List.set_cons_zero, List.set_cons_succ]
      refine wpAnyH_take (i := 3) (v := .agg #[.slice b.sA b.f.length b.sc, .slice b.lA b.L.length b.lc]) rfl (by kernel_rfl) (by kernel_rfl) (by kernel_rfl) (fun _ _ _ h => h) (Or.inl ⟨by rfl, fun w hSw => ?_⟩) hS ?_
      · obtain ⟨⟨n0, n1, n2, n3⟩, m0, m1, m2⟩ := HS.out _ hSw
        go_simp
      simp only [Act.put, List.setIfInBounds_toArray, List.set_cons_zero, List.set_cons_succ]
      refine wpAnyH_take (i := 4) (v := .slice A6 out.length c6) rfl (by kernel_rfl) (by kernel_rfl) (by kernel_rfl) (fun _ _ _ h => h) (Or.inl ⟨by rfl, fun w hSw => ?_⟩) hS ?_
      · go_simp
      simp only [Act.put, List.setIfInBounds_toArray, List.set_cons_zero, List.set_cons_succ]
      refine wpAnyH_take (i := 5) (v := .agg #[.int .u64 (t6.e : Int), .int .u64 (t6.a : Int), .int .u64 (t6.b : Int)]) rfl (by kernel_rfl) (by kernel_rfl) (by kernel_rfl) (fun _ _ _ h => h) (Or.inl ⟨by rfl, fun w hSw => ?_⟩) hS ?_
      · obtain ⟨⟨n0, n1, n2, n3⟩, m0, m1, m2⟩ := HS.out _ hSw
        go_simp
      simp only [Act.put, List.setIfInBounds_toArray, List.set_cons_zero, List.set_cons_succ]
      refine wpAnyH_take (i := 6) (v := .int .i64 E6) rfl (by kernel_rfl) (by kernel_rfl) (by kernel_rfl) (fun _ _ _ h => h) (Or.inl ⟨by rfl, fun w hSw => ?_⟩) hS ?_
      · go_simp
      simp only [Act.put, List.setIfInBounds_toArray, List.set_cons_zero, List.set_cons_succ]
      refine wpAnyH_ready (rs := [7]) (by kernel_rfl) (by simp) ?_
      refine AllReadyH.cons rfl (fun K hK => ?_) AllReadyH.nil
      go_simp
      refine hK.out _ _ ((hk0.s2 _).s2 _) (fun _ => ?_)
      clear hK K
      try simp only [Act.put, List.setIfInBounds_toArray, List.set_cons_zero, List.set_cons_succ]
      refine wpAnyH_ready (rs := [8]) (by kernel_rfl) (by simp) ?_
      refine AllReadyH.cons rfl (fun K hK => ?_) AllReadyH.nil
      go_simp
      refine hK.out _ _ ((((hk0.s2 _).s2 _).s3 _).s3 _) (fun _ => ?_)
      clear hK K
      try simp only [Act.put, List.setIfInBounds_toArray, List.set_cons_zero, List.set_cons_succ]
      refine wpAnyH_ready (rs := [9]) (by kernel_rfl) (by simp) ?_
      refine AllReadyH.cons rfl (fun K hK => ?_) AllReadyH.nil
      go_simp
      refine hK.out _ _ ((((hk0.s2 _).s2 _).s3 _).s3 _) (fun _ => ?_)
      clear hK K
      try simp only [Act.put, List.setIfInBounds_toArray, List.set_cons_zero, List.set_cons_succ]
      refine wpAnyH_ready (rs := [10]) (by kernel_rfl) (by simp) ?_
      refine AllReadyH.cons rfl (fun K hK => ?_) AllReadyH.nil
      go_simp
      refine hK.out _ _ (((((((hk0.s2 _).s2 _).s3 _).s3 _).s4 _).s4 _).s4 _) (fun _ => ?_)
      clear hK K
      try simp only [Act.put, List.setIfInBounds_toArray, List.set_cons_zero, List.set_cons_succ]
      refine wpAnyH_ready (rs := [11]) (by kernel_rfl) (by simp) ?_
      refine AllReadyH.cons rfl (fun K hK => ?_) AllReadyH.nil
      go_simp
      refine hK.out _ _ (((((((hk0.s2 _).s2 _).s3 _).s3 _).s4 _).s4 _).s4 _) (fun _ => ?_)
      clear hK K
      try simp only [Act.put, List.setIfInBounds_toArray, List.set_cons_zero, List.set_cons_succ]
      refine wpAnyH_done (by kernel_rfl) ?_ _
      rw [← HY.out]
      go_wp2_with fail
      exact bodyPost_ret (v := .tuple #[.agg #[.slice s.sA s.f.length s.sc, .slice s.lA s.L.length s.lc], .agg #[.slice b.sA b.f.length b.sc, .slice b.lA b.L.length b.lc], .slice A6 out.length c6, .agg #[.int .u64 (t6.e : Int), .int .u64 (t6.a : Int), .int .u64 (t6.b : Int)], .int .i64 E6]) (by simp [results, Tryz.results12, go_sem, y0, y1, y2, y3, y4, y5, y6]) rfl HF.out
    case inr =>
      have ym := Lib.hid (matching_any a A c l wc hm.ina hm.oka ca.rm ga (Nat.le_trans (parts_wt _) (by omega)) (H.out.2.2.2.2.1.keep hm.low) H.out.2.2.2.2.2.1 (by omega) (keys_short HG.out.2.2))
      rw [show a.val = .agg #[.slice a.sA a.f.length a.sc, .slice a.lA a.L.length a.lc] from rfl] at ym
      have HC := Lib.hid (And.intro hm (And.intro ca.rm (And.intro cb.rm (And.intro (show LikeS left a from ⟨ca.f, ca.L⟩) (And.intro (show LikeS right b from ⟨cb.f, cb.L⟩) (And.intro ga (And.intro gb (And.intro wa wb))))))))
      obtain ⟨e2, e3⟩ := own4a hm.own
      clear hq hQ hm ca cb hcb ga gb wa wb hB5 z1 z2 HS hself hbs d0 d1 e0 e1
      go_wp2_with fail
      refine ym.out.mono ?_
      rintro _ w2 ⟨Ao, co, oth, E, rfl, hr, hou, hoo, hol, hoc, b2⟩
      have hm2 := HC.out.1.keep b2
      have HO := Lib.hid (And.intro hr (And.intro hou (And.intro hoo (And.intro hol (And.intro hoc b2)))))
      clear hr hou hoo hol hoc b2 ym e2 e3
      by_cases hE : E = 0
      case neg =>
        have t1 : (E == 0) = false := beq_eq_false_iff_ne.2 hE
        have t2 : (E != 0) = true := bne_iff_ne.2 hE
        have HE := Lib.hid hE
        clear hE
        have hm3 := hm2
        obtain ⟨V4, hV4, hb4, hs4, hp4⟩ := jbox w2
        have hsz : w2.heap.size = w2.heap.size := rfl
        have hlX := H.out.2.2.2.2.1.keep hm3.low
        have yf := Lib.hid (failAll_any w2.heap.size ⟨0, 0, 0⟩ 0 (.slice none 0 0) A c l V4 hp4.own (.inl rfl) (hlX.past hb4 (Nat.le_refl _)).head (by omega) (by omega))
        clear hm2 hlX hp4
        go_upto_region 10 with fail
        rw [← hV4]
        clear hV4
        go_wp2_with fail
        refine yf.out.mono ?_
        rintro _ w5 ⟨rfl, t, y, ho5, hy, hk5⟩
        have hp5 : Prod w5 w2.heap.size t y (.slice none 0 0) [] := ⟨ho5, World.ownsRow_nil _ _ _ _, (fun u hu => by cases hu), fun hy0 => by
          rcases hy with e | ⟨_, _, e⟩
          · omega
          · exact e⟩
        have hwy : y = 0 ∨ y = 10 := by
          rcases hy with e | ⟨_, e, _⟩
          · exact .inr e
          · exact .inl e
        have HYf := Lib.hid hy
        have hfar : ∀ j, (Value.slice none 0 0).ownBlock = some j → V4.heap.size ≤ j := fun j e => (by cases e)
        clear yf ho5 hy

        have ye := Lib.hid (lend_any w2.heap.size t y (.slice none 0 0) [] w5 hp5 hwy (fun u hu => by cases hu) (Nat.zero_le _))
        have HK5 := Lib.hid (And.intro hk5 (And.intro hm3 (And.intro hs4 (And.intro hb4 (And.intro hfar hsz)))))
        clear hp5 hk5 hm3 hs4 hb4 hfar hsz
        go_wp2_with fail
        refine ye.out.mono ?_
        rintro _ w6 ⟨A6, c6, out, t6, E6, rfl, hE6, hE0, hEo, hou6, hoo6, hk6, hA6, haw6, hln6⟩
        clear ye
        have HSE := Lib.hid (show StepE left right 1 l a b out t6 E6 from stepE_fail H1.out.2.1 hE6 (fun h => (hEo h).2) HC.out.2.2.2.1 HC.out.2.2.2.2.1 HC.out.2.2.2.1 HC.out.2.2.2.2.1 (fun h => by
            have h1 := (hE0.1 h).1
            have h2 : out.map Up.p = [] := (hEo h).1
            rcases HYf.out with e | ⟨e, _, _⟩
            · omega
            · exact ⟨e, List.map_eq_nil_iff.1 h2⟩) (fun h => absurd h (by decide)) (fun _ => .inl (by rcases HO.out.1 with ⟨e, _⟩ | ⟨e, k, hk⟩; exact absurd e HE.out; exact ⟨k, by rw [← hk]; exact e⟩)))
        have hk := pk_far HK5.out.1 hk6 HK5.out.2.2.2.2.1
        have hb6 : Below w2.heap.size w2 w6 := HK5.out.2.2.2.1.trans (hk.below (B := w2.heap.size) (by have h1 := HK5.out.2.2.1; omega) (Nat.le_refl _) (fun k e => (by cases e)))
        have hm6 := HK5.out.2.1.keep hb6
        have hof : ∀ S : Nat → Prop, (∀ k, S k → k < w6.heap.size ∧ k < w5.heap.size) → OfU S A6 out := fun S hS => ⟨fun _ b o e hs => (by have h1 := hA6 b o e; have h2 := hS b hs; omega), fun u hu => ⟨fun hp b o e hs => (by have h1 := (haw6 u hu).1 hp b o e; have h2 := hS b hs; omega), fun hp b o e hs => (by have h1 := (haw6 u hu).2 hp b o e; have h2 := hS b hs; omega)⟩⟩
        have H6 := Lib.hid (And.intro hm6 (And.intro hou6 (And.intro hoo6 (And.intro hof (And.intro hE6 (And.intro hE0 hEo))))))
        clear hk hb6 hm6 hof hou6 hoo6 hk6 hA6 haw6 hln6 hE6 hE0 hEo
        obtain ⟨W7, hW7, hb7, hs7, ho7⟩ := tbox3 w6 t6
        have hbd : Below w6.heap.size w6 W7.drew := hb7.drew
        have hm7 := H6.out.1.keep hbd
        have hou7 := H6.out.2.1.keep hbd
        have ho7d : Own W7.drew w6.heap.size 26 [.int .u64 (t6.e : Int), .int .u64 (t6.a : Int), .int .u64 (t6.b : Int)] := ho7
        obtain ⟨X, hX, x2, x3, x4, kx, g2, g3, g4⟩ := step_fin hm7.z2 hm7.z3 hm7.z4 (.slice a.sA a.f.length a.sc) (.slice a.lA a.L.length a.lc) (.slice b.sA b.f.length b.sc) (.slice b.lA b.L.length b.lc) (.int .u64 (t6.e : Int)) (.int .u64 (t6.a : Int)) (.int .u64 (t6.b : Int))
        have hP5 : w.heap.size + 5 ≤ w6.heap.size := by have h1 := H6.out.1.own.inside; have h2 := H6.out.1.q; omega
        have HS := Lib.hid (fun W (h : Kp w.heap.size W7.drew W) => h.open_ hm7.own ho7d hm7.q hP5)
        have hk0 : Kp w.heap.size W7.drew W7.drew := ⟨KeptK.refl _ _, ⟨_, _, hm7.z2⟩, ⟨_, _, hm7.z3⟩, ⟨_, _, _, hm7.z4⟩⟩
        have hS0 := HS.out W7.drew hk0
        have hof7 := H6.out.2.2.2.1 (fun k => k = w.heap.size + 2 ∨ k = w.heap.size + 3 ∨ k = w.heap.size + 4) (fun k hk => by have h1 := HK5.out.1.size; have h2 := HK5.out.2.1.own.inside; have h3 := HK5.out.2.1.q; have h4 := HK5.out.2.2.1; omega)
        unfold KpS at hS0 HS
        have HF := Lib.hid (step_done (A := A6) (c := c6) hm7 kx HSE.out hou7 H6.out.2.2.1 hof7)
        obtain ⟨q0, q1⟩ := own2 g2
        obtain ⟨q2, q3⟩ := own2 g3
        obtain ⟨q4, q5, q6⟩ := own3 g4
        have f0 := g2.open_ 0
        have f1 := g2.open_ 1
        have f2 := g3.open_ 0
        have f3 := g3.open_ 1
        have f4 := g4.open_ 0
        have f5 := g4.open_ 1
        have f6 := g4.open_ 2
        obtain ⟨y0, y1⟩ := own2 x2
        obtain ⟨y2, y3⟩ := own2 x3
        obtain ⟨y4, y5, y6⟩ := own3 x4
        have HY := Lib.hid hX
        clear hm7 hou7 x2 x3 x4 kx g2 g3 g4 hP5 hof7 ho7 ho7d hs7 hb7 hbd hX
        go_upto_region 15 with fail
        rw [← hW7]
        clear hW7
        refine wp_region_held_drew (S := fun w' => Kp w.heap.size W7.drew w') (by kernel_rfl) hk0 (fun hS => ?_)
        generalize W7.drew = W8 at *
        refine wpAnyH_take (i := 0) (v := .pointer (some ⟨Q, 0, none⟩)) rfl (by kernel_rfl) (by kernel_rfl) (by kernel_rfl) (fun _ _ _ h => h) (Or.inl ⟨by rfl, fun w hSw => ?_⟩) hS ?_
        · go_simp
        simp only [Act.put, List.setIfInBounds_toArray, List.set_cons_zero, List.set_cons_succ]
        refine wpAnyH_take (i := 1) (v := .agg #[.slice a.sA a.f.length a.sc, .slice a.lA a.L.length a.lc]) rfl (by kernel_rfl) (by kernel_rfl) (by kernel_rfl) (fun _ _ _ h => h) (Or.inl ⟨by rfl, fun w hSw => ?_⟩) hS ?_
        · obtain ⟨⟨n0, n1, n2, n3⟩, m0, m1, m2⟩ := HS.out _ hSw
          go_simp
        simp only [Act.put, List.setIfInBounds_toArray, List.set_cons_zero, List.set_cons_succ]
        refine wpAnyH_take (i := 2) (v := .pointer (some ⟨Q, 2, none⟩)) rfl (by kernel_rfl) (by kernel_rfl) (by kernel_rfl) (fun _ _ _ h => h) (Or.inl ⟨by rfl, fun w hSw => ?_⟩) hS ?_
        · go_simp
        simp only [Act.put, List.setIfInBounds_toArray, List.set_cons_zero, List.set_cons_succ]
        refine wpAnyH_take (i := 3) (v := .agg #[.slice b.sA b.f.length b.sc, .slice b.lA b.L.length b.lc]) rfl (by kernel_rfl) (by kernel_rfl) (by kernel_rfl) (fun _ _ _ h => h) (Or.inl ⟨by rfl, fun w hSw => ?_⟩) hS ?_
        · obtain ⟨⟨n0, n1, n2, n3⟩, m0, m1, m2⟩ := HS.out _ hSw
          go_simp
        simp only [Act.put, List.setIfInBounds_toArray, List.set_cons_zero, List.set_cons_succ]
        refine wpAnyH_take (i := 4) (v := .slice A6 out.length c6) rfl (by kernel_rfl) (by kernel_rfl) (by kernel_rfl) (fun _ _ _ h => h) (Or.inl ⟨by rfl, fun w hSw => ?_⟩) hS ?_
        · go_simp
        simp only [Act.put, List.setIfInBounds_toArray, List.set_cons_zero, List.set_cons_succ]
        refine wpAnyH_take (i := 5) (v := .agg #[.int .u64 (t6.e : Int), .int .u64 (t6.a : Int), .int .u64 (t6.b : Int)]) rfl (by kernel_rfl) (by kernel_rfl) (by kernel_rfl) (fun _ _ _ h => h) (Or.inl ⟨by rfl, fun w hSw => ?_⟩) hS ?_
        · obtain ⟨⟨n0, n1, n2, n3⟩, m0, m1, m2⟩ := HS.out _ hSw
          go_simp
        simp only [Act.put, List.setIfInBounds_toArray, List.set_cons_zero, List.set_cons_succ]
        refine wpAnyH_take (i := 6) (v := .int .i64 E6) rfl (by kernel_rfl) (by kernel_rfl) (by kernel_rfl) (fun _ _ _ h => h) (Or.inl ⟨by rfl, fun w hSw => ?_⟩) hS ?_
        · go_simp
        simp only [Act.put, List.setIfInBounds_toArray, List.set_cons_zero, List.set_cons_succ]
        refine wpAnyH_ready (rs := [7]) (by kernel_rfl) (by simp) ?_
        refine AllReadyH.cons rfl (fun K hK => ?_) AllReadyH.nil
        go_simp
        refine hK.out _ _ ((hk0.s2 _).s2 _) (fun _ => ?_)
        clear hK K
        try simp only [Act.put, List.setIfInBounds_toArray, List.set_cons_zero, List.set_cons_succ]
        refine wpAnyH_ready (rs := [8]) (by kernel_rfl) (by simp) ?_
        refine AllReadyH.cons rfl (fun K hK => ?_) AllReadyH.nil
        go_simp
        refine hK.out _ _ ((((hk0.s2 _).s2 _).s3 _).s3 _) (fun _ => ?_)
        clear hK K
        try simp only [Act.put, List.setIfInBounds_toArray, List.set_cons_zero, List.set_cons_succ]
        refine wpAnyH_ready (rs := [9]) (by kernel_rfl) (by simp) ?_
        refine AllReadyH.cons rfl (fun K hK => ?_) AllReadyH.nil
        go_simp
        refine hK.out _ _ ((((hk0.s2 _).s2 _).s3 _).s3 _) (fun _ => ?_)
        clear hK K
        try simp only [Act.put, List.setIfInBounds_toArray, List.set_cons_zero, List.set_cons_succ]
        refine wpAnyH_ready (rs := [10]) (by kernel_rfl) (by simp) ?_
        refine AllReadyH.cons rfl (fun K hK => ?_) AllReadyH.nil
        go_simp
        refine hK.out _ _ (((((((hk0.s2 _).s2 _).s3 _).s3 _).s4 _).s4 _).s4 _) (fun _ => ?_)
        clear hK K
        try simp only [Act.put, List.setIfInBounds_toArray, List.set_cons_zero, List.set_cons_succ]
        refine wpAnyH_ready (rs := [11]) (by kernel_rfl) (by simp) ?_
        refine AllReadyH.cons rfl (fun K hK => ?_) AllReadyH.nil
        go_simp
        refine hK.out _ _ (((((((hk0.s2 _).s2 _).s3 _).s3 _).s4 _).s4 _).s4 _) (fun _ => ?_)
        clear hK K
        try simp only [Act.put, List.setIfInBounds_toArray, List.set_cons_zero, List.set_cons_succ]
        refine wpAnyH_done (by kernel_rfl) ?_ _
        rw [← HY.out]
        go_wp2_with fail
        exact bodyPost_ret (v := .tuple #[.agg #[.slice a.sA a.f.length a.sc, .slice a.lA a.L.length a.lc], .agg #[.slice b.sA b.f.length b.sc, .slice b.lA b.L.length b.lc], .slice A6 out.length c6, .agg #[.int .u64 (t6.e : Int), .int .u64 (t6.a : Int), .int .u64 (t6.b : Int)], .int .i64 E6]) (by simp [results, Tryz.results12, go_sem, y0, y1, y2, y3, y4, y5, y6]) rfl HF.out
      subst hE
      have hmo : MatchOk a.f (partsS a.L) l oth := by
        rcases HO.out.1 with ⟨_, h⟩ | ⟨h, _⟩
        · exact h
        · exact absurd rfl h
      have HMO := Lib.hid hmo
      obtain ⟨e0, e1⟩ := own4l hm2.own
      obtain ⟨V2, hV2, hb2, hu2⟩ := one_list w2 A c l (H.out.2.2.2.2.1.keep hm2.low)
      have hmv := hm2.keep hb2
      have hfl : flatR [⟨A, c, l⟩] = l := by unfold flatR; simp
      have yi := Lib.hid (insert_sp b (some ⟨w2.heap.size, 0, none⟩) 1 [⟨A, c, l⟩] V2 hmv.inb hmv.okb hu2 (fun r hr => by obtain rfl := List.mem_singleton.1 hr; exact H.out.2.2.2.2.2.1) (by rw [hfl]; have := HC.out.2.2.2.2.2.2.2.2; omega) (by simp))
      rw [hfl, show b.val = .agg #[.slice b.sA b.f.length b.sc, .slice b.lA b.L.length b.lc] from rfl] at yi
      have hov := HO.out.2.1.keep hb2
      have HV2 := Lib.hid (And.intro hmv hov)
      clear hmo hm2 hb2 hu2 hmv hfl hov
      go_wp2_with fail
      rw [← hV2]
      clear hV2
      refine yi.out.mono ?_
      rintro _ w3 ⟨s, E2, rfl, hI, si, so, sl, b3⟩
      rw [show s.val = .agg #[.slice s.sA s.f.length s.sc, .slice s.lA s.L.length s.lc] from rfl]
      have hm3w := HV2.out.1.keep b3
      have ho3 := HV2.out.2.keep b3
      have hB5 : w.heap.size + 5 ≤ V2.heap.size := by have h1 := HV2.out.1.own.inside; have h2 := HV2.out.1.q; omega
      obtain ⟨hm3, kX⟩ := hm3w.turnB si so (sl.mono hB5) (by have := hm3w.q; omega)
      have hoX := slices_turn hm3w ho3 kX
      have r0 := hm3w.own.at_ 2
      have r1 := hm3w.own.at_ 3
      have r2 := hm3w.own.open_ 2
      have r3 := hm3w.own.open_ 3
      simp only [List.getElem?_cons_zero, List.getElem?_cons_succ] at r0 r1
      obtain ⟨X3, hX3⟩ : ∃ X, X = ((w3.setCell ⟨Q, 2, none⟩ (.slice s.sA s.f.length s.sc)).setCell ⟨Q, 3, none⟩ (.slice s.lA s.L.length s.lc)) := ⟨_, rfl⟩
      rw [← hX3] at hm3 kX hoX
      obtain ⟨V4, hV4, hb4, hs4, hp4⟩ := jbox X3
      have hsz : X3.heap.size = w3.heap.size := by rw [hX3]; simp [World.setCell]
      have hlX := H.out.2.2.2.2.1.keep hm3.low
      have hlV := hlX.past hb4 (Nat.le_refl _)
      have hoV := hoX.past hb4 (Nat.le_refl _)
      rw [hsz] at hlV hoV hp4
      have HI := Lib.hid hI
      have HX := Lib.hid (And.intro hoV (And.intro hlV hsz))
      clear hI si so sl b3 hm3w ho3 hB5 kX e0 e1 yi hoX hoV hlV hsz hlX
      by_cases hE2 : E2 = 0
      case neg =>
        have t1 : (E2 != 0) = true := bne_iff_ne.2 hE2
        have hwi : LikeS right s ∧ WhyI b l := by
          rcases HI.out with ⟨h, _⟩ | ⟨_, hf, ⟨h, _⟩ | ⟨_, hp, hy⟩⟩
          · exact absurd HC.out.2.2.2.2.2.2.1 h
          · exact absurd h hE2
          · exact ⟨⟨hf.trans HC.out.2.2.2.2.1.1, hp.trans HC.out.2.2.2.2.1.2⟩, hy⟩
        have HE := Lib.hid hwi
        clear hE2 hwi
        have yf := Lib.hid (failAll_any w3.heap.size ⟨0, 0, 0⟩ 0 (.slice none 0 0) A c l V4 hp4.own (.inl rfl) HX.out.2.1.head (by have h1 := HX.out.2.2; omega) (by omega))
        clear hp4
        go_upto_region 10 with fail
        rw [← hX3, ← hV4]
        clear hX3 hV4
        go_wp2_with fail
        refine yf.out.mono ?_
        rintro _ w5 ⟨rfl, t, y, ho5, hy, hk5⟩
        have hp5 : Prod w5 w3.heap.size t y (.slice none 0 0) [] := ⟨ho5, World.ownsRow_nil _ _ _ _, (fun u hu => by cases hu), fun hy0 => by
          rcases hy with e | ⟨_, _, e⟩
          · omega
          · exact e⟩
        have hwy : y = 0 ∨ y = 10 := by
          rcases hy with e | ⟨_, e, _⟩
          · exact .inr e
          · exact .inl e
        have HYf := Lib.hid hy
        have hfar : ∀ j, (Value.slice none 0 0).ownBlock = some j → V4.heap.size ≤ j := fun j e => (by cases e)
        clear yf ho5 hy
        have hsz := HX.out.2.2

        have ye := Lib.hid (lend_any w3.heap.size t y (.slice none 0 0) [] w5 hp5 hwy (fun u hu => by cases hu) (Nat.zero_le _))
        have HK5 := Lib.hid (And.intro hk5 (And.intro hm3 (And.intro hs4 (And.intro hb4 (And.intro hfar hsz)))))
        clear hp5 hk5 hm3 hs4 hb4 hfar hsz
        go_wp2_with fail
        refine ye.out.mono ?_
        rintro _ w6 ⟨A6, c6, out, t6, E6, rfl, hE6, hE0, hEo, hou6, hoo6, hk6, hA6, haw6, hln6⟩
        clear ye
        have HSE := Lib.hid (show StepE left right 1 l a s out t6 E6 from stepE_fail H1.out.2.1 hE6 (fun h => (hEo h).2) HC.out.2.2.2.1 HC.out.2.2.2.2.1 HC.out.2.2.2.1 HE.out.1 (fun h => by
            have h1 := (hE0.1 h).1
            have h2 : out.map Up.p = [] := (hEo h).1
            rcases HYf.out with e | ⟨e, _, _⟩
            · omega
            · exact ⟨e, List.map_eq_nil_iff.1 h2⟩) (fun h => absurd h (by decide)) (fun _ => .inr HE.out.2))
        have hk := pk_far HK5.out.1 hk6 HK5.out.2.2.2.2.1
        have hb6 : Below X3.heap.size X3 w6 := HK5.out.2.2.2.1.trans (hk.below (B := X3.heap.size) (by have h1 := HK5.out.2.2.1; omega) (Nat.le_of_eq HK5.out.2.2.2.2.2) (fun k e => (by cases e)))
        have hm6 := HK5.out.2.1.keep hb6
        have hof : ∀ S : Nat → Prop, (∀ k, S k → k < w6.heap.size ∧ k < w5.heap.size) → OfU S A6 out := fun S hS => ⟨fun _ b o e hs => (by have h1 := hA6 b o e; have h2 := hS b hs; omega), fun u hu => ⟨fun hp b o e hs => (by have h1 := (haw6 u hu).1 hp b o e; have h2 := hS b hs; omega), fun hp b o e hs => (by have h1 := (haw6 u hu).2 hp b o e; have h2 := hS b hs; omega)⟩⟩
        have H6 := Lib.hid (And.intro hm6 (And.intro hou6 (And.intro hoo6 (And.intro hof (And.intro hE6 (And.intro hE0 hEo))))))
        clear hk hb6 hm6 hof hou6 hoo6 hk6 hA6 haw6 hln6 hE6 hE0 hEo
        obtain ⟨W7, hW7, hb7, hs7, ho7⟩ := tbox3 w6 t6
        have hbd : Below w6.heap.size w6 W7.drew := hb7.drew
        have hm7 := H6.out.1.keep hbd
        have hou7 := H6.out.2.1.keep hbd
        have ho7d : Own W7.drew w6.heap.size 26 [.int .u64 (t6.e : Int), .int .u64 (t6.a : Int), .int .u64 (t6.b : Int)] := ho7
        obtain ⟨X, hX, x2, x3, x4, kx, g2, g3, g4⟩ := step_fin hm7.z2 hm7.z3 hm7.z4 (.slice a.sA a.f.length a.sc) (.slice a.lA a.L.length a.lc) (.slice s.sA s.f.length s.sc) (.slice s.lA s.L.length s.lc) (.int .u64 (t6.e : Int)) (.int .u64 (t6.a : Int)) (.int .u64 (t6.b : Int))
        have hP5 : w.heap.size + 5 ≤ w6.heap.size := by have h1 := H6.out.1.own.inside; have h2 := H6.out.1.q; omega
        have HS := Lib.hid (fun W (h : Kp w.heap.size W7.drew W) => h.open_ hm7.own ho7d hm7.q hP5)
        have hk0 : Kp w.heap.size W7.drew W7.drew := ⟨KeptK.refl _ _, ⟨_, _, hm7.z2⟩, ⟨_, _, hm7.z3⟩, ⟨_, _, _, hm7.z4⟩⟩
        have hS0 := HS.out W7.drew hk0
        have hof7 := H6.out.2.2.2.1 (fun k => k = w.heap.size + 2 ∨ k = w.heap.size + 3 ∨ k = w.heap.size + 4) (fun k hk => by have h1 := HK5.out.1.size; have h2 := HK5.out.2.1.own.inside; have h3 := HK5.out.2.1.q; have h4 := HK5.out.2.2.1; omega)
        unfold KpS at hS0 HS
        have HF := Lib.hid (step_done (A := A6) (c := c6) hm7 kx HSE.out hou7 H6.out.2.2.1 hof7)
        obtain ⟨q0, q1⟩ := own2 g2
        obtain ⟨q2, q3⟩ := own2 g3
        obtain ⟨q4, q5, q6⟩ := own3 g4
        have f0 := g2.open_ 0
        have f1 := g2.open_ 1
        have f2 := g3.open_ 0
        have f3 := g3.open_ 1
        have f4 := g4.open_ 0
        have f5 := g4.open_ 1
        have f6 := g4.open_ 2
        obtain ⟨y0, y1⟩ := own2 x2
        obtain ⟨y2, y3⟩ := own2 x3
        obtain ⟨y4, y5, y6⟩ := own3 x4
        have HY := Lib.hid hX
        clear hm7 hou7 x2 x3 x4 kx g2 g3 g4 hP5 hof7 ho7 ho7d hs7 hb7 hbd hX
        go_upto_region 15 with fail
        rw [← hW7]
        clear hW7
        refine wp_region_held_drew (S := fun w' => Kp w.heap.size W7.drew w') (by kernel_rfl) hk0 (fun hS => ?_)
        generalize W7.drew = W8 at *
        refine wpAnyH_take (i := 0) (v := .pointer (some ⟨Q, 0, none⟩)) rfl (by kernel_rfl) (by kernel_rfl) (by kernel_rfl) (fun _ _ _ h => h) (Or.inl ⟨by rfl, fun w hSw => ?_⟩) hS ?_
        · go_simp
        simp only [Act.put, List.setIfInBounds_toArray, List.set_cons_zero, List.set_cons_succ]
        refine wpAnyH_take (i := 1) (v := .agg #[.slice a.sA a.f.length a.sc, .slice a.lA a.L.length a.lc]) rfl (by kernel_rfl) (by kernel_rfl) (by kernel_rfl) (fun _ _ _ h => h) (Or.inl ⟨by rfl, fun w hSw => ?_⟩) hS ?_
        · obtain ⟨⟨n0, n1, n2, n3⟩, m0, m1, m2⟩ := HS.out _ hSw
          go_simp
        simp only [Act.put, List.setIfInBounds_toArray, List.set_cons_zero, List.set_cons_succ]
        refine wpAnyH_take (i := 2) (v := .pointer (some ⟨Q, 2, none⟩)) rfl (by kernel_rfl) (by kernel_rfl) (by kernel_rfl) (fun _ _ _ h => h) (Or.inl ⟨by rfl, fun w hSw => ?_⟩) hS ?_
        · go_simp
        simp only [Act.put, List.setIfInBounds_toArray, List.set_cons_zero, List.set_cons_succ]
        refine wpAnyH_take (i := 3) (v := .agg #[.slice s.sA s.f.length s.sc, .slice s.lA s.L.length s.lc]) rfl (by kernel_rfl) (by kernel_rfl) (by kernel_rfl) (fun _ _ _ h => h) (Or.inl ⟨by rfl, fun w hSw => ?_⟩) hS ?_
        · obtain ⟨⟨n0, n1, n2, n3⟩, m0, m1, m2⟩ := HS.out _ hSw
          go_simp
        simp only [Act.put, List.setIfInBounds_toArray, List.set_cons_zero, List.set_cons_succ]
        refine wpAnyH_take (i := 4) (v := .slice A6 out.length c6) rfl (by kernel_rfl) (by kernel_rfl) (by kernel_rfl) (fun _ _ _ h => h) (Or.inl ⟨by rfl, fun w hSw => ?_⟩) hS ?_
        · go_simp
        simp only [Act.put, List.setIfInBounds_toArray, List.set_cons_zero, List.set_cons_succ]
        refine wpAnyH_take (i := 5) (v := .agg #[.int .u64 (t6.e : Int), .int .u64 (t6.a : Int), .int .u64 (t6.b : Int)]) rfl (by kernel_rfl) (by kernel_rfl) (by kernel_rfl) (fun _ _ _ h => h) (Or.inl ⟨by rfl, fun w hSw => ?_⟩) hS ?_
        · obtain ⟨⟨n0, n1, n2, n3⟩, m0, m1, m2⟩ := HS.out _ hSw
          go_simp
        simp only [Act.put, List.setIfInBounds_toArray, List.set_cons_zero, List.set_cons_succ]
        refine wpAnyH_take (i := 6) (v := .int .i64 E6) rfl (by kernel_rfl) (by kernel_rfl) (by kernel_rfl) (fun _ _ _ h => h) (Or.inl ⟨by rfl, fun w hSw => ?_⟩) hS ?_
        · go_simp
        simp only [Act.put, List.setIfInBounds_toArray, List.set_cons_zero, List.set_cons_succ]
        refine wpAnyH_ready (rs := [7]) (by kernel_rfl) (by simp) ?_
        refine AllReadyH.cons rfl (fun K hK => ?_) AllReadyH.nil
        go_simp
        refine hK.out _ _ ((hk0.s2 _).s2 _) (fun _ => ?_)
        clear hK K
        try simp only [Act.put, List.setIfInBounds_toArray, List.set_cons_zero, List.set_cons_succ]
        refine wpAnyH_ready (rs := [8]) (by kernel_rfl) (by simp) ?_
        refine AllReadyH.cons rfl (fun K hK => ?_) AllReadyH.nil
        go_simp
        refine hK.out _ _ ((((hk0.s2 _).s2 _).s3 _).s3 _) (fun _ => ?_)
        clear hK K
        try simp only [Act.put, List.setIfInBounds_toArray, List.set_cons_zero, List.set_cons_succ]
        refine wpAnyH_ready (rs := [9]) (by kernel_rfl) (by simp) ?_
        refine AllReadyH.cons rfl (fun K hK => ?_) AllReadyH.nil
        go_simp
        refine hK.out _ _ ((((hk0.s2 _).s2 _).s3 _).s3 _) (fun _ => ?_)
        clear hK K
        try simp only [Act.put, List.setIfInBounds_toArray, List.set_cons_zero, List.set_cons_succ]
        refine wpAnyH_ready (rs := [10]) (by kernel_rfl) (by simp) ?_
        refine AllReadyH.cons rfl (fun K hK => ?_) AllReadyH.nil
        go_simp
        refine hK.out _ _ (((((((hk0.s2 _).s2 _).s3 _).s3 _).s4 _).s4 _).s4 _) (fun _ => ?_)
        clear hK K
        try simp only [Act.put, List.setIfInBounds_toArray, List.set_cons_zero, List.set_cons_succ]
        refine wpAnyH_ready (rs := [11]) (by kernel_rfl) (by simp) ?_
        refine AllReadyH.cons rfl (fun K hK => ?_) AllReadyH.nil
        go_simp
        refine hK.out _ _ (((((((hk0.s2 _).s2 _).s3 _).s3 _).s4 _).s4 _).s4 _) (fun _ => ?_)
        clear hK K
        try simp only [Act.put, List.setIfInBounds_toArray, List.set_cons_zero, List.set_cons_succ]
        refine wpAnyH_done (by kernel_rfl) ?_ _
        rw [← HY.out]
        go_wp2_with fail
        exact bodyPost_ret (v := .tuple #[.agg #[.slice a.sA a.f.length a.sc, .slice a.lA a.L.length a.lc], .agg #[.slice s.sA s.f.length s.sc, .slice s.lA s.L.length s.lc], .slice A6 out.length c6, .agg #[.int .u64 (t6.e : Int), .int .u64 (t6.a : Int), .int .u64 (t6.b : Int)], .int .i64 E6]) (by simp [results, Tryz.results12, go_sem, y0, y1, y2, y3, y4, y5, y6]) rfl HF.out
      subst hE2
      have hpt : s.f = b.f ∧ PutTo b.f b.L s.L l 1 l.length := by
        rcases HI.out with ⟨h, _⟩ | ⟨_, hf, ⟨_, _, hp, _⟩ | ⟨h, _⟩⟩
        · exact absurd HC.out.2.2.2.2.2.2.1 h
        · exact ⟨hf, hp⟩
        · exact absurd rfl h
      have HPT := Lib.hid hpt
      have hol : oth.length ≤ 1048576 := Nat.le_trans HO.out.2.2.2.1 (Nat.le_trans (parts_wt _) HC.out.2.2.2.2.2.2.2.1)
      have ymt := Lib.hid (match_any w3.heap.size Ao co oth A c l V4 hp4 HX.out.1 HO.out.2.2.1 HO.out.2.2.2.2.1 HX.out.2.1 H.out.2.2.2.2.2.1 HG.out.2.2 (by omega) (by omega) (Nat.le_trans (Nat.mul_le_mul hol hn) (by decide)))
      have HLN := Lib.hid hol
      clear hpt hp4 hol
      go_upto_region 10 with fail
      rw [← hX3, ← hV4]
      clear hX3 hV4
      go_wp2_with fail
      refine ymt.out.mono ?_
      rintro _ w5 ⟨rfl, t, why, v, M, hp5, hk5, hfar, hwy, hok, hper, hchk, hlen⟩
      have HM := Lib.hid (And.intro hok (And.intro hper hchk))
      have hmlen : M.length ≤ 1099511627776 := Nat.le_trans hlen (Nat.le_trans (Nat.mul_le_mul HLN.out hn) (by decide))
      clear ymt hok hper hlen
      have hsz := HX.out.2.2
      have ye := Lib.hid (lend_any w3.heap.size t why v M w5 hp5 hwy hchk hmlen)
      have HK5 := Lib.hid (And.intro hk5 (And.intro hm3 (And.intro hs4 (And.intro hb4 (And.intro hfar hsz)))))
      clear hp5 hk5 hm3 hs4 hb4 hfar hsz
      go_wp2_with fail
      refine ye.out.mono ?_
      rintro _ w6 ⟨A6, c6, out, t6, E6, rfl, hE6, hE0, hEo, hou6, hoo6, hk6, hA6, haw6, hln6⟩
      clear ye
      have HSE := Lib.hid (show StepE left right 1 l a s out t6 E6 from stepE_ok1 H1.out.2.1 hE6 (fun h => (hEo h).2) HC.out.2.2.2.1 HC.out.2.2.2.2.1 HPT.out.1 HPT.out.2 HMO.out HO.out.2.2.2.2.1 (made_is HO.out.2.2.2.2.1 HG.out.2.2 HM.out.1 HM.out.2.1 HM.out.2.2 hE0 hEo).1 (made_is HO.out.2.2.2.2.1 HG.out.2.2 HM.out.1 HM.out.2.1 HM.out.2.2 hE0 hEo).2)
      have hk := pk_far HK5.out.1 hk6 HK5.out.2.2.2.2.1
      have hb6 : Below X3.heap.size X3 w6 := HK5.out.2.2.2.1.trans (hk.below (B := X3.heap.size) (by have h1 := HK5.out.2.2.1; omega) (Nat.le_of_eq HK5.out.2.2.2.2.2) (fun k e => (by cases e)))
      have hm6 := HK5.out.2.1.keep hb6
      have hof : ∀ S : Nat → Prop, (∀ k, S k → k < w6.heap.size ∧ k < w5.heap.size) → OfU S A6 out := fun S hS => ⟨fun _ b o e hs => (by have h1 := hA6 b o e; have h2 := hS b hs; omega), fun u hu => ⟨fun hp b o e hs => (by have h1 := (haw6 u hu).1 hp b o e; have h2 := hS b hs; omega), fun hp b o e hs => (by have h1 := (haw6 u hu).2 hp b o e; have h2 := hS b hs; omega)⟩⟩
      have H6 := Lib.hid (And.intro hm6 (And.intro hou6 (And.intro hoo6 (And.intro hof (And.intro hE6 (And.intro hE0 hEo))))))
      clear hk hb6 hm6 hof hou6 hoo6 hk6 hA6 haw6 hln6 hE6 hE0 hEo
      obtain ⟨W7, hW7, hb7, hs7, ho7⟩ := tbox3 w6 t6
      have hbd : Below w6.heap.size w6 W7.drew := hb7.drew
      have hm7 := H6.out.1.keep hbd
      have hou7 := H6.out.2.1.keep hbd
      have ho7d : Own W7.drew w6.heap.size 26 [.int .u64 (t6.e : Int), .int .u64 (t6.a : Int), .int .u64 (t6.b : Int)] := ho7
      obtain ⟨X, hX, x2, x3, x4, kx, g2, g3, g4⟩ := step_fin hm7.z2 hm7.z3 hm7.z4 (.slice a.sA a.f.length a.sc) (.slice a.lA a.L.length a.lc) (.slice s.sA s.f.length s.sc) (.slice s.lA s.L.length s.lc) (.int .u64 (t6.e : Int)) (.int .u64 (t6.a : Int)) (.int .u64 (t6.b : Int))
      have hP5 : w.heap.size + 5 ≤ w6.heap.size := by have h1 := H6.out.1.own.inside; have h2 := H6.out.1.q; omega
      have HS := Lib.hid (fun W (h : Kp w.heap.size W7.drew W) => h.open_ hm7.own ho7d hm7.q hP5)
      have hk0 : Kp w.heap.size W7.drew W7.drew := ⟨KeptK.refl _ _, ⟨_, _, hm7.z2⟩, ⟨_, _, hm7.z3⟩, ⟨_, _, _, hm7.z4⟩⟩
      have hS0 := HS.out W7.drew hk0
      have hof7 := H6.out.2.2.2.1 (fun k => k = w.heap.size + 2 ∨ k = w.heap.size + 3 ∨ k = w.heap.size + 4) (fun k hk => by have h1 := HK5.out.1.size; have h2 := HK5.out.2.1.own.inside; have h3 := HK5.out.2.1.q; have h4 := HK5.out.2.2.1; omega)
      unfold KpS at hS0 HS
      have HF := Lib.hid (step_done (A := A6) (c := c6) hm7 kx HSE.out hou7 H6.out.2.2.1 hof7)
      obtain ⟨q0, q1⟩ := own2 g2
      obtain ⟨q2, q3⟩ := own2 g3
      obtain ⟨q4, q5, q6⟩ := own3 g4
      have f0 := g2.open_ 0
      have f1 := g2.open_ 1
      have f2 := g3.open_ 0
      have f3 := g3.open_ 1
      have f4 := g4.open_ 0
      have f5 := g4.open_ 1
      have f6 := g4.open_ 2
      obtain ⟨y0, y1⟩ := own2 x2
      obtain ⟨y2, y3⟩ := own2 x3
      obtain ⟨y4, y5, y6⟩ := own3 x4
      have HY := Lib.hid hX
      clear hm7 hou7 x2 x3 x4 kx g2 g3 g4 hP5 hof7 ho7 ho7d hs7 hb7 hbd hX
      go_upto_region 15 with fail
      rw [← hW7]
      clear hW7
      refine wp_region_held_drew (S := fun w' => Kp w.heap.size W7.drew w') (by kernel_rfl) hk0 (fun hS => ?_)
      generalize W7.drew = W8 at *
      refine wpAnyH_take (i := 0) (v := .pointer (some ⟨Q, 0, none⟩)) rfl (by kernel_rfl) (by kernel_rfl) (by kernel_rfl) (fun _ _ _ h => h) (Or.inl ⟨by rfl, fun w hSw => ?_⟩) hS ?_
      · go_simp
      simp only [Act.put, List.setIfInBounds_toArray, List.set_cons_zero, List.set_cons_succ]
      refine wpAnyH_take (i := 1) (v := .agg #[.slice a.sA a.f.length a.sc, .slice a.lA a.L.length a.lc]) rfl (by kernel_rfl) (by kernel_rfl) (by kernel_rfl) (fun _ _ _ h => h) (Or.inl ⟨by rfl, fun w hSw => ?_⟩) hS ?_
      · obtain ⟨⟨n0, n1, n2, n3⟩, m0, m1, m2⟩ := HS.out _ hSw
        go_simp
      simp only [Act.put, List.setIfInBounds_toArray, List.set_cons_zero, List.set_cons_succ]
      refine wpAnyH_take (i := 2) (v := .pointer (some ⟨Q, 2, none⟩)) rfl (by kernel_rfl) (by kernel_rfl) (by kernel_rfl) (fun _ _ _ h => h) (Or.inl ⟨by rfl, fun w hSw => ?_⟩) hS ?_
      · go_simp
      simp only [Act.put, List.setIfInBounds_toArray, List.set_cons_zero, List.set_cons_succ]
      refine wpAnyH_take (i := 3) (v := .agg #[.slice s.sA s.f.length s.sc, .slice s.lA s.L.length s.lc]) rfl (by kernel_rfl) (by kernel_rfl) (by kernel_rfl) (fun _ _ _ h => h) (Or.inl ⟨by rfl, fun w hSw => ?_⟩) hS ?_
      · obtain ⟨⟨n0, n1, n2, n3⟩, m0, m1, m2⟩ := HS.out _ hSw
        go_simp
      simp only [Act.put, List.setIfInBounds_toArray, List.set_cons_zero, List.set_cons_succ]
      refine wpAnyH_take (i := 4) (v := .slice A6 out.length c6) rfl (by kernel_rfl) (by kernel_rfl) (by kernel_rfl) (fun _ _ _ h => h) (Or.inl ⟨by rfl, fun w hSw => ?_⟩) hS ?_
      · go_simp
      simp only [Act.put, List.setIfInBounds_toArray, List.set_cons_zero, List.set_cons_succ]
      refine wpAnyH_take (i := 5) (v := .agg #[.int .u64 (t6.e : Int), .int .u64 (t6.a : Int), .int .u64 (t6.b : Int)]) rfl (by kernel_rfl) (by kernel_rfl) (by kernel_rfl) (fun _ _ _ h => h) (Or.inl ⟨by rfl, fun w hSw => ?_⟩) hS ?_
      · obtain ⟨⟨n0, n1, n2, n3⟩, m0, m1, m2⟩ := HS.out _ hSw
        go_simp
      simp only [Act.put, List.setIfInBounds_toArray, List.set_cons_zero, List.set_cons_succ]
      refine wpAnyH_take (i := 6) (v := .int .i64 E6) rfl (by kernel_rfl) (by kernel_rfl) (by kernel_rfl) (fun _ _ _ h => h) (Or.inl ⟨by rfl, fun w hSw => ?_⟩) hS ?_
      · go_simp
      simp only [Act.put, List.setIfInBounds_toArray, List.set_cons_zero, List.set_cons_succ]
      refine wpAnyH_ready (rs := [7]) (by kernel_rfl) (by simp) ?_
      refine AllReadyH.cons rfl (fun K hK => ?_) AllReadyH.nil
      go_simp
      refine hK.out _ _ ((hk0.s2 _).s2 _) (fun _ => ?_)
      clear hK K
      try simp only [Act.put, List.setIfInBounds_toArray, List.set_cons_zero, List.set_cons_succ]
      refine wpAnyH_ready (rs := [8]) (by kernel_rfl) (by simp) ?_
      refine AllReadyH.cons rfl (fun K hK => ?_) AllReadyH.nil
      go_simp
      refine hK.out _ _ ((((hk0.s2 _).s2 _).s3 _).s3 _) (fun _ => ?_)
      clear hK K
      try simp only [Act.put, List.setIfInBounds_toArray, List.set_cons_zero, List.set_cons_succ]
      refine wpAnyH_ready (rs := [9]) (by kernel_rfl) (by simp) ?_
      refine AllReadyH.cons rfl (fun K hK => ?_) AllReadyH.nil
      go_simp
      refine hK.out _ _ ((((hk0.s2 _).s2 _).s3 _).s3 _) (fun _ => ?_)
      clear hK K
      try simp only [Act.put, List.setIfInBounds_toArray, List.set_cons_zero, List.set_cons_succ]
      refine wpAnyH_ready (rs := [10]) (by kernel_rfl) (by simp) ?_
      refine AllReadyH.cons rfl (fun K hK => ?_) AllReadyH.nil
      go_simp
      refine hK.out _ _ (((((((hk0.s2 _).s2 _).s3 _).s3 _).s4 _).s4 _).s4 _) (fun _ => ?_)
      clear hK K
      try simp only [Act.put, List.setIfInBounds_toArray, List.set_cons_zero, List.set_cons_succ]
      refine wpAnyH_ready (rs := [11]) (by kernel_rfl) (by simp) ?_
      refine AllReadyH.cons rfl (fun K hK => ?_) AllReadyH.nil
      go_simp
      refine hK.out _ _ (((((((hk0.s2 _).s2 _).s3 _).s3 _).s4 _).s4 _).s4 _) (fun _ => ?_)
      clear hK K
      try simp only [Act.put, List.setIfInBounds_toArray, List.set_cons_zero, List.set_cons_succ]
      refine wpAnyH_done (by kernel_rfl) ?_ _
      rw [← HY.out]
      go_wp2_with fail
      exact bodyPost_ret (v := .tuple #[.agg #[.slice a.sA a.f.length a.sc, .slice a.lA a.L.length a.lc], .agg #[.slice s.sA s.f.length s.sc, .slice s.lA s.L.length s.lc], .slice A6 out.length c6, .agg #[.int .u64 (t6.e : Int), .int .u64 (t6.a : Int), .int .u64 (t6.b : Int)], .int .i64 E6]) (by simp [results, Tryz.results12, go_sem, y0, y1, y2, y3, y4, y5, y6]) rfl HF.out
end Go.Proofs.YtjffohpdjicfpaaGreat
namespace Go.Proofs.YtjffohpdjicfpaaGreat
open Go Go.RowKit

set_option maxRecDepth 100000 in
set_option maxHeartbeats 1600000 in
theorem rowJ_any (n : Int) (w : World) : Calls Tryz.prog 25 #[.int .i64 n] w fun x w' => ∃ G, x = .returned (.slice (some ⟨G, 0, none⟩) 1 1) ∧ Vals w' w'.heap.size (some ⟨G, 0, none⟩) [vnum n] ∧ Below w.heap.size w w' := by
  have hv := Lib.hid (vals_num w n)
  go_enter Tryz.func25, Tryz.ntmps25
  go_wp2_with fail
  go_ret
  exact ⟨_, rfl, hv.out, (Below.refl _ _).alloc (Nat.le_refl _) _⟩
theorem ja_ok (G1 G2 : Nat) : UOk (ja G1 G2) :=
  ⟨by show 1 ≤ 140737488351232; omega, by show 1 ≤ 140737488351232; omega, fun v hv => by
    obtain rfl : v = vnum 1 := by simpa [ja] using hv
    exact ⟨Nat.zero_le _, by decide⟩, fun v hv => by
    obtain rfl : v = vnum 1 := by simpa [ja] using hv
    exact ⟨Nat.zero_le _, by decide⟩, by show -9223372036854775808 ≤ (2 : Int) ∧ (2 : Int) ≤ 9223372036854775807; decide⟩
theorem jb_ok (G1 G2 : Nat) : UOk (jb G1 G2) :=
  ⟨by show 1 ≤ 140737488351232; omega, by show 1 ≤ 140737488351232; omega, fun v hv => by
    obtain rfl : v = vnum 1 := by simpa [jb] using hv
    exact ⟨Nat.zero_le _, by decide⟩, fun v hv => by
    obtain rfl : v = vnum 5 := by simpa [jb] using hv
    exact ⟨Nat.zero_le _, by decide⟩, by show -9223372036854775808 ≤ (3 : Int) ∧ (3 : Int) ≤ 9223372036854775807; decide⟩
theorem box_ja (w : World) (G1 G2 : Nat) (h1 : Vals w w.heap.size (some ⟨G1, 0, none⟩) [vnum 1]) (h2 : Vals w w.heap.size (some ⟨G2, 0, none⟩) [vnum 1]) :
    ∃ V, V = w.alloc (.cells #[.slice (some ⟨G1, 0, none⟩) 1 1, .slice (some ⟨G2, 0, none⟩) 1 1, .int .u64 1, .int .u64 0, .int .u64 0, .int .i64 2] 49) ∧ Below w.heap.size w V ∧ Ups V V.heap.size (some ⟨w.heap.size, 0, none⟩) [ja G1 G2] := by
  obtain ⟨W, e1, s1, b1, o1⟩ := boxd w [.slice (some ⟨G1, 0, none⟩) 1 1, .slice (some ⟨G2, 0, none⟩) 1 1, .int .u64 1, .int .u64 0, .int .u64 0, .int .i64 2] 49
  refine ⟨W, e1, b1, ups_own (t := 49) (l := [ja G1 G2]) o1 fun u hu => ?_⟩
  obtain rfl : u = ja G1 G2 := by simpa using hu
  exact ⟨vals_keep h1 b1, vals_keep h2 b1⟩
theorem box_jb (w : World) (G1 G2 : Nat) (h1 : Vals w w.heap.size (some ⟨G1, 0, none⟩) [vnum 1]) (h2 : Vals w w.heap.size (some ⟨G2, 0, none⟩) [vnum 5]) :
    ∃ V, V = w.alloc (.cells #[.slice (some ⟨G1, 0, none⟩) 1 1, .slice (some ⟨G2, 0, none⟩) 1 1, .int .u64 2, .int .u64 0, .int .u64 0, .int .i64 3] 49) ∧ Below w.heap.size w V ∧ Ups V V.heap.size (some ⟨w.heap.size, 0, none⟩) [jb G1 G2] := by
  obtain ⟨W, e1, s1, b1, o1⟩ := boxd w [.slice (some ⟨G1, 0, none⟩) 1 1, .slice (some ⟨G2, 0, none⟩) 1 1, .int .u64 2, .int .u64 0, .int .u64 0, .int .i64 3] 49
  refine ⟨W, e1, b1, ups_own (t := 49) (l := [jb G1 G2]) o1 fun u hu => ?_⟩
  obtain rfl : u = jb G1 G2 := by simpa using hu
  exact ⟨vals_keep h1 b1, vals_keep h2 b1⟩
theorem spt_box (w : World) (a b : Sp) (t : Tm) : ∃ V, V = ((w.alloc (.cells #[.slice a.sA a.f.length a.sc, .slice a.lA a.L.length a.lc] 36)).alloc (.cells #[.slice b.sA b.f.length b.sc, .slice b.lA b.L.length b.lc] 36)).alloc (.cells #[.int .u64 (t.e : Int), .int .u64 (t.a : Int), .int .u64 (t.b : Int)] 26) ∧ Below w.heap.size w V ∧ Own V w.heap.size 36 [.slice a.sA a.f.length a.sc, .slice a.lA a.L.length a.lc] ∧ Own V (w.heap.size + 1) 36 [.slice b.sA b.f.length b.sc, .slice b.lA b.L.length b.lc] := by
  obtain ⟨V1, e1, b1, s1, o1⟩ := spbox w a
  obtain ⟨V2, e2, b2, s2, o2⟩ := spbox V1 b
  obtain ⟨V3, e3, b3, s3, _⟩ := tbox3 V2 t
  have h1 : V1.heap.size = w.heap.size + 1 := s1
  rw [h1] at o2
  exact ⟨V3, by rw [e3, e2, e1], belows (belows b1 b2) b3, (o1.past b2 o1.inside).past b3 (by have := o1.inside; have := b2.size; omega), o2.past b3 o2.inside⟩
theorem up_oneJ {c : List Up} {K : Uk} {d : Int} (h : c.map Up.p = [(K, d)]) : ∃ x, c = [x] ∧ x.key = K.key ∧ x.row = K.row ∧ x.t = K.t ∧ x.d = d := by
  have hl : c.length = 1 := by have := congrArg List.length h; simpa using this
  match c, hl with
  | [x], _ =>
    have hp : x.p = (K, d) := by simpa using h
    have hk : x.k = K := congrArg Prod.fst hp
    exact ⟨x, rfl, by rw [← hk]; rfl, by rw [← hk]; rfl, by rw [← hk]; rfl, congrArg Prod.snd hp⟩
set_option maxRecDepth 100000 in
set_option maxHeartbeats 12800000 in
theorem jlives_true (w : World) : Calls Tryz.prog 10 #[] w fun e w' => e = .returned (.bool true) ∧ Below w.heap.size w w' := by
  have y1 := fun n W => Lib.hid (rowJ_any n W)
  go_enter Tryz.func10, Tryz.ntmps10
  go_wp2_with fail
  refine (y1 _ _).out.mono ?_
  rintro _ w1 ⟨G1, rfl, v1, b1⟩
  go_wp2_with fail
  refine (y1 _ _).out.mono ?_
  rintro _ w2 ⟨G2, rfl, v2, b2⟩
  obtain ⟨V2, hV2, hb2, hu2⟩ := box_ja w2 G1 G2 (vals_keep v1 b2) v2
  have H2 := Lib.hid (And.intro (belows (belows b1 b2) hb2) hu2)
  clear v1 v2 b1 b2 hb2 hu2
  go_wp2_with fail
  rw [← hV2]
  clear hV2
  refine (y1 _ _).out.mono ?_
  rintro _ w3 ⟨G3, rfl, v3, b3⟩
  go_wp2_with fail
  refine (y1 _ _).out.mono ?_
  rintro _ w4 ⟨G4, rfl, v4, b4⟩
  obtain ⟨V4, hV4, hb4, hu4⟩ := box_jb w4 G3 G4 (vals_keep v3 b4) v4
  have hbA := belows (belows b3 b4) hb4
  have H4 := Lib.hid (And.intro (belows H2.out.1 hbA) (And.intro (H2.out.2.keep hbA) hu4))
  clear v3 v4 b3 b4 hb4 hu4 hbA y1
  have oa : ∀ u ∈ [ja G1 G2], UOk u := fun u hu => by
    obtain rfl := List.mem_singleton.1 hu
    exact ja_ok G1 G2
  have ob : ∀ u ∈ [jb G3 G4], UOk u := fun u hu => by
    obtain rfl := List.mem_singleton.1 hu
    exact jb_ok G3 G4
  have HO := Lib.hid (And.intro oa ob)
  have hcall := pairs_any (some ⟨w2.heap.size, 0, none⟩) 1 [ja G1 G2] (some ⟨w4.heap.size, 0, none⟩) 1 [jb G3 G4] V4 H4.out.2.1 oa H4.out.2.2 ob (by simp) (by simp) (by simp)
  unfold PairsSays at hcall
  have HC := Lib.hid hcall
  clear oa ob hcall
  go_wp2_with fail
  rw [← hV4]
  clear hV4
  refine HC.out.mono ?_
  rintro _ w5 ⟨A5, c5, p, t5, E5, rfl, hE5, hp5, hu5, ho5, hb5, _, _, _⟩
  obtain ⟨ca, cb, ok, ft, hz⟩ := pairs_ab G1 G2 G3 G4
  have he5 : E5 = 0 := hE5.2 ⟨ca, cb, ok, ft⟩
  have hpp : p.map Up.p = [(jk, (6 : Int))] := (hp5 he5).1.trans hz
  subst he5
  obtain ⟨W5, hW5, hbW5, hsW5, hoW5⟩ := tbox3 w5 t5
  have hbB := belows hb5 hbW5
  have H5 := Lib.hid (And.intro (belows H4.out.1 hbB) (And.intro (H4.out.2.1.keep hbB) (And.intro (H4.out.2.2.keep hbB) (And.intro (hu5.keep hbW5) (And.intro ho5 hpp)))))
  have z1 := Lib.hid (show Calls Tryz.prog 12 #[.agg #[.slice none 0 0, .slice none 0 0], .agg #[.slice none 0 0, .slice none 0 0], .int .i64 0, .slice (some ⟨w2.heap.size, 0, none⟩) 1 1] W5 (StepS Sp.nil Sp.nil 0 [ja G1 G2] W5) from step_any Sp.nil Sp.nil 0 (some ⟨w2.heap.size, 0, none⟩) 1 [ja G1 G2] W5 (sp_nil_in _ _) sp_nil_ok (sp_nil_in _ _) sp_nil_ok H5.out.2.1 HO.out.1 (by decide) (by decide) (by simp))
  clear HC hE5 hp5 hu5 ho5 hb5 ca cb ok ft hz hpp hbW5 hsW5 hoW5 hbB
  go_wp2_with fail
  rw [← hW5]
  clear hW5
  refine z1.out.mono ?_
  rintro _ w6 ⟨a, b, A6, c6, o1, t6, E6, rfl, hS6, ia, oka, _, ib, okb, _, hu6, _, hb6⟩
  obtain ⟨rfl, rfl, lb, fa, ga, ea, wa⟩ := step_one hS6
  rw [show a.val = .agg #[.slice a.sA a.f.length a.sc, .slice a.lA a.L.length a.lc] from rfl, show b.val = .agg #[.slice b.sA b.f.length b.sc, .slice b.lA b.L.length b.lc] from rfl]
  obtain ⟨W6, hW6, hbW6, oA6, oB6⟩ := spt_box w6 a b t6
  have hbC := belows hb6 hbW6
  have gb : wtS b.L ≤ 1048576 := by rw [(like_nil lb).2]; decide
  have H6 := Lib.hid (And.intro (belows H5.out.1 hbC) (And.intro (H5.out.2.2.1.keep hbC) (And.intro (H5.out.2.2.2.1.keep hbC) (And.intro (ia.keep hbW6) (And.intro (ib.keep hbW6) (And.intro oka okb))))))
  have HL := Lib.hid (And.intro lb (And.intro fa (And.intro ga ea)))
  have z2 := Lib.hid (step_any a b 1 (some ⟨w4.heap.size, 0, none⟩) 1 [jb G3 G4] W6 H6.out.2.2.2.1 oka H6.out.2.2.2.2.1 okb H6.out.2.1 HO.out.2 (by omega) gb (by simp))
  have z3 := fun W (h : Below W6.heap.size W6 W) => Lib.hid (step_any a b 2 (some ⟨w4.heap.size, 0, none⟩) 1 [jb G3 G4] W (H6.out.2.2.2.1.keep h) oka (H6.out.2.2.2.2.1.keep h) okb (H6.out.2.1.keep h) HO.out.2 (by omega) gb (by simp))
  rw [show a.val = .agg #[.slice a.sA a.f.length a.sc, .slice a.lA a.L.length a.lc] from rfl, show b.val = .agg #[.slice b.sA b.f.length b.sc, .slice b.lA b.L.length b.lc] from rfl] at z2 z3
  have HB := Lib.hid (And.intro oA6 oB6)
  obtain ⟨d0, d1⟩ := own2 oA6
  obtain ⟨d2, d3⟩ := own2 oB6
  clear z1 lb fa ga ea wa gb ia oka ib okb hu6 hb6 hbW6 hbC hS6 oA6 oB6
  go_upto_region 5 with fail
  rw [← hW6]
  clear hW6
  go_wp2_with fail
  refine z2.out.mono ?_
  rintro _ w7 ⟨a7, b7, A7, c7, o2, t7, E7, rfl, hS7, ia, oka, _, ib, okb, _, hu7, ho7, hb7⟩
  obtain ⟨rfl, hp7⟩ := step_two HL.out.2.1 HL.out.2.2.1 HL.out.2.2.2 HL.out.1 hS7
  rw [show a7.val = .agg #[.slice a7.sA a7.f.length a7.sc, .slice a7.lA a7.L.length a7.lc] from rfl, show b7.val = .agg #[.slice b7.sA b7.f.length b7.sc, .slice b7.lA b7.L.length b7.lc] from rfl]
  obtain ⟨W7, hW7, hbW7, oA7, oB7⟩ := spt_box w7 a7 b7 t7
  have hbD := belows hb7 hbW7
  have H7 := Lib.hid (And.intro (belows H6.out.1 hbD) (And.intro (H6.out.2.2.1.keep hbD) (And.intro (hu7.keep hbW7) (And.intro ho7 hp7))))
  have z3 := z3 W7 hbD
  obtain ⟨e0, e1⟩ := own2 (HB.out.1.past hbD HB.out.1.inside)
  obtain ⟨e2, e3⟩ := own2 (HB.out.2.past hbD HB.out.2.inside)
  clear z2 ia oka ib okb hu7 ho7 hb7 hbW7 hbD hS7 hp7 oA7 oB7 d0 d1 d2 d3
  go_upto_region 6 with fail
  rw [← hW7]
  clear hW7
  go_wp2_with fail
  refine z3.out.mono ?_
  rintro _ w8 ⟨a8, b8, A8, c8, o3, t8, E8, rfl, hS8, _, _, _, _, _, _, _, _, hb8⟩
  obtain rfl := step_three HL.out.2.2.1 HL.out.1 hS8
  rw [show a8.val = .agg #[.slice a8.sA a8.f.length a8.sc, .slice a8.lA a8.L.length a8.lc] from rfl, show b8.val = .agg #[.slice b8.sA b8.f.length b8.sc, .slice b8.lA b8.L.length b8.lc] from rfl]
  obtain ⟨W8, hW8, hbW8, _, _⟩ := spt_box w8 a8 b8 t8
  have hbE := belows hb8 hbW8
  have H8 := Lib.hid (And.intro (belows H7.out.1 hbE) (And.intro (H7.out.2.1.keep hbE) (H7.out.2.2.1.keep hbE)))
  obtain ⟨x, hx, _, hxr, hxt, hxd⟩ := up_oneJ H5.out.2.2.2.2.2
  subst hx
  have hux := H8.out.2.1
  obtain ⟨bx, ox, rfl, hBx, hcx⟩ := hux.head (by simp)
  have k0 := hcx 0 x rfl 1 _ rfl
  have k1 := hcx 0 x rfl 2 _ rfl
  have k2 := hcx 0 x rfl 5 _ rfl
  have hlr : x.row.length = 2 := by rw [hxr]; rfl
  have hte : (x.t.e : Int) = 2 := by rw [hxt]; rfl
  have hd6 : x.d = 6 := hxd
  rw [hlr] at k0
  rw [hte] at k1
  rw [hd6] at k2
  have zs := Lib.hid (show Calls Tryz.prog 11 #[.slice A7 o2.length c7, .slice (some ⟨bx, ox, none⟩) 1 c5] W8 (fun e w' => e = .returned (.bool true) ∧ Below W8.heap.size W8 w') from (sameU_any A7 (some ⟨bx, ox, none⟩) c7 c5 o2 [x] W8 H8.out.2.2 hux H7.out.2.2.2.1 H5.out.2.2.2.2.1 (by have := congrArg List.length H7.out.2.2.2.2; rw [List.length_map] at this; rw [this]; simp) (by simp)).mono fun e w' ⟨q, h1, h2, h3⟩ => ⟨by rw [h1, h2.2 (H7.out.2.2.2.2.trans H5.out.2.2.2.2.2.symm)], h3⟩)
  clear z3 hb8 hbW8 hbE hS8 e0 e1 e2 e3 hux hcx hBx hlr hte hd6 hxr hxt hxd
  go_upto_region 7 with fail
  rw [← hW8]
  clear hW8
  go_wp2_with fail
  refine zs.out.mono ?_
  rintro _ w9 ⟨rfl, hb9⟩
  have HF := Lib.hid (belows H8.out.1 hb9)
  clear hb9 zs
  go_wp2_with fail
  go_ret
  exact ⟨rfl, HF.out⟩
end Go.Proofs.YtjffohpdjicfpaaGreat
namespace Go.Proofs.YtjffohpdjicfpaaGreat
open Go Go.RowKit

def makesR (r : List Vl) (x y : List Vl) : Int := if cmpRows (x ++ y) r = 0 then 1 else 0
end Go.Proofs.YtjffohpdjicfpaaGreat
namespace Go.Proofs.YtjffohpdjicfpaaGreat
open Go Go.RowKit

theorem row_newJ (w : World) (base : Nat) (hb : base ≤ w.heap.size) : (w.alloc (.cells #[] 49)).ownsRow base 49 6 (.slice (some ⟨w.heap.size, 0, none⟩) 0 0) 0 [] := World.ownsRow_made w #[] 0 hb (Nat.zero_le _) (by simp)
theorem parts_facts {a b c x y z : List Up} (ca : chkUs a = 0) (cb : chkUs b = 0) (cc : chkUs c = 0) (o1 : okPairs a c = true) (o2 : okPairs b c = true) (hf : fitP (pairsP (a ++ b) c) = true) (hx : x.map Up.p = nz Uk.cmp (pairsP a c)) (hy : y.map Up.p = nz Uk.cmp (pairsP b c)) (hz : z.map Up.p = nz Uk.cmp (pairsP (a ++ b) c)) :
    consE [x, y] = 0 ∧ consL [x, y] = z.map Up.p := by
  rw [pairs_left] at hf hz
  exact parts_gen (okPairs_right ca cc o1) (okPairs_right cb cc o2) (by unfold resE; exact if_pos hf) hx hy hz
set_option maxRecDepth 100000 in
set_option maxHeartbeats 12800000 in
theorem jparts_walk (A : Option Addr) (k : Nat) (a : List Up) (A' : Option Addr) (k' : Nat) (b : List Up) (A2 : Option Addr) (k2 : Nat) (c : List Up) (w : World) (ha : Ups w w.heap.size A a) (oa : ∀ u ∈ a, UOk u) (_ : a.length ≤ k) (_ : k ≤ maxLen) (hb : Ups w w.heap.size A' b) (ob : ∀ u ∈ b, UOk u) (_ : b.length ≤ k') (_ : k' ≤ maxLen) (hc : Ups w w.heap.size A2 c) (oc : ∀ u ∈ c, UOk u) (_ : c.length ≤ k2) (_ : k2 ≤ maxLen) (hn : a.length + (b.length + c.length) ≤ 1048576) :
    Calls Tryz.prog 6 #[.slice A a.length k, .slice A' b.length k', .slice A2 c.length k2] w fun e w' => e = .returned (.bool true) ∧ Below w.heap.size w w' := by
  obtain ⟨i0, hi, hz0, hz1, hz2⟩ := info_parts infoUp
  have hU := Tryz.underlying22
  have HI := Lib.hid (And.intro hU (And.intro hi (And.intro hz0 (And.intro hz1 hz2))))
  have y0 := fun W => Lib.hid (jlives_true W)
  have H := Lib.hid (And.intro (And.intro ha oa) (And.intro (And.intro hb ob) (And.intro hc oc)))
  have hm1 : a.length * c.length ≤ 1099511627776 := Nat.le_trans (Nat.mul_le_mul (show a.length ≤ 1048576 by omega) (show c.length ≤ 1048576 by omega)) (by decide)
  have hm2 : b.length * c.length ≤ 1099511627776 := Nat.le_trans (Nat.mul_le_mul (show b.length ≤ 1048576 by omega) (show c.length ≤ 1048576 by omega)) (by decide)
  have hm3 : (a ++ b).length * c.length ≤ 1099511627776 := Nat.le_trans (Nat.mul_le_mul (show (a ++ b).length ≤ 1048576 by rw [List.length_append]; omega) (show c.length ≤ 1048576 by omega)) (by decide)
  have HM := Lib.hid (And.intro hm1 (And.intro hm2 hm3))
  clear ha oa hb ob hc oc hi hz0 hz1 hz2 hU hm1 hm2 hm3
  go_enter Tryz.func6, Tryz.ntmps6
  go_wp2_with fail
  refine (y0 _).out.mono ?_
  rintro _ w1 ⟨rfl, b1⟩
  have hcall := pairs_any A k a A2 k2 c w1 (H.out.1.1.keep b1) H.out.1.2 (H.out.2.2.1.keep b1) H.out.2.2.2 (by omega) (by omega) HM.out.1
  unfold PairsSays at hcall
  have HC := Lib.hid hcall
  have H1 := Lib.hid b1
  clear b1 hcall y0
  go_wp2_with fail
  refine HC.out.mono ?_
  rintro _ w2 ⟨Ax, kx, x, t2, E2, rfl, hE2, hx2, hu2, ho2, b2, _, _, hn2⟩
  obtain ⟨W2, hW2, hb2, hs2, _⟩ := tbox3 w2 t2
  have hbb := belows b2 hb2
  have hbw := belows H1.out hbb
  have hcall := pairs_any A' k' b A2 k2 c W2 (H.out.2.1.1.keep hbw) H.out.2.1.2 (H.out.2.2.1.keep hbw) H.out.2.2.2 (by omega) (by omega) HM.out.2.1
  unfold PairsSays at hcall
  have HC2 := Lib.hid hcall
  have H2 := Lib.hid (And.intro hbw (And.intro hE2 (And.intro hx2 (And.intro (hu2.keep hb2) (And.intro ho2 hn2)))))
  clear hE2 hx2 hu2 ho2 b2 hn2 hb2 hs2 hbb hbw hcall HC
  go_upto_region 4 with fail
  rw [← hW2]
  clear hW2
  go_wp2_with fail
  refine HC2.out.mono ?_
  rintro _ w3 ⟨Ay, ky, y, t3, E3, rfl, hE3, hx3, hu3, ho3, b3, _, _, hn3⟩
  obtain ⟨W3, hW3, hb3, hs3, _⟩ := tbox3 w3 t3
  have hbb := belows b3 hb3
  have hbw := belows H2.out.1 hbb
  have H3 := Lib.hid (And.intro hbw (And.intro hE3 (And.intro hx3 (And.intro (hu3.keep hb3) (And.intro ho3 (And.intro hn3 (H2.out.2.2.2.1.keep hbb)))))))
  have hszw : w.heap.size ≤ W3.heap.size := hbw.size
  clear hE3 hx3 hu3 ho3 b3 hn3 hb3 hs3 hbb hbw HC2
  go_upto_region 5 with fail
  rw [← hW3]
  clear hW3
  have hr0 := Lib.hid (row_newJ W3 W3.heap.size (Nat.le_refl _))
  have hbe : Below W3.heap.size W3 (W3.alloc (.cells #[] 49)) := (Below.refl _ _).alloc (Nat.le_refl _) _
  have hla := Lib.hid ((H.out.1.1.head.past (belows H3.out.1 hbe) (Nat.le_refl _)))
  have HBE := Lib.hid hbe
  have hsza : W3.heap.size ≤ (W3.alloc (.cells #[] 49)).heap.size := hbe.size
  clear hbe
  go_wp2_with (at_builtin; refine wpList_append_lies _ rfl (.tmp 35) (.tmp 36) 22 49 rfl i0 _ 80 HI.out.1 HI.out.2.1 HI.out.2.2.1 HI.out.2.2.2.1 HI.out.2.2.2.2 rfl (by decide) ucells_len ucells_one W3.heap.size _ _ _ rfl hr0.out k rfl hla.out (by unfold maxLen; omega) (by omega) hsza ?_)
  intro v4 w4 ho4 hb4
  have hbw4 := H3.out.1.trans ((HBE.out.trans hb4).mono hszw)
  have hlb := Lib.hid ((H.out.2.1.1.head.past hbw4 (Nat.le_refl _)))
  have hsz4 : W3.heap.size ≤ w4.heap.size := Nat.le_trans hsza hb4.size
  have H4 := Lib.hid (And.intro ho4 (HBE.out.trans hb4))
  clear ho4 hb4 hbw4 hr0 hla hsza
  go_wp2_with (at_builtin; refine wpList_append_lies _ rfl (.tmp 37) (.tmp 38) 22 49 rfl i0 _ 80 HI.out.1 HI.out.2.1 HI.out.2.2.1 HI.out.2.2.2.1 HI.out.2.2.2.2 rfl (by decide) ucells_len ucells_one W3.heap.size _ _ _ rfl H4.out.1 k' rfl hlb.out (by unfold maxLen; omega) (by omega) hsz4 ?_)
  intro v5 w5 ho5 hb5
  have hb35 := H4.out.2.trans hb5
  have hbw5 := H3.out.1.trans (hb35.mono hszw)
  obtain ⟨all, hall⟩ : ∃ all, a ++ b = all := ⟨_, rfl⟩
  obtain ⟨Aa, ka, rfl, _, _, hl5⟩ := lies_of_own (size := 6) (cells := Up.cells) (l := all) (by decide) ucells_len (by rw [← hall, List.length_append]) (by rw [← hall, List.flatMap_append]; simpa using ho5)
  have hu5 : Ups w5 w5.heap.size Aa all := ⟨hl5, fun u hu => by
    rw [← hall] at hu
    rcases List.mem_append.1 hu with hu | hu
    · exact ((H.out.1.1.keep hbw5).each_ u hu)
    · exact ((H.out.2.1.1.keep hbw5).each_ u hu)⟩
  have hoab : ∀ u ∈ all, UOk u := fun u hu => by
    rw [← hall] at hu
    rcases List.mem_append.1 hu with hu | hu
    · exact H.out.1.2 u hu
    · exact H.out.2.1.2 u hu
  have hmul : all.length * c.length ≤ 1099511627776 := by rw [← hall]; exact HM.out.2.2
  have hcall := pairs_any Aa ka all A2 k2 c w5 hu5 hoab (H.out.2.2.1.keep hbw5) H.out.2.2.2 (by rw [← hall, List.length_append]; omega) (by omega) hmul
  have HA := Lib.hid (And.intro hall hmul)
  unfold PairsSays at hcall
  have HC3 := Lib.hid hcall
  have H5 := Lib.hid (And.intro hbw5 hb35)
  clear ho5 hb5 hb35 hbw5 hl5 hu5 hoab hcall hlb hsz4 H4 HBE hall hmul
  go_wp2_with fail
  refine HC3.out.mono ?_
  rintro _ w6 ⟨Az, kz, z, t6, E6, rfl, hE6, hx6, hu6, ho6, b6, _, _, hn6⟩
  obtain ⟨W6, hW6, hb6, hs6, _⟩ := tbox3 w6 t6
  have hbb := belows b6 hb6
  have hb3 : Below W3.heap.size W3 W6 := H5.out.2.trans (hbb.mono H5.out.2.size)
  have hbw := belows H5.out.1 hbb
  have H6 := Lib.hid (And.intro hbw (And.intro hE6 (And.intro hx6 (And.intro (hu6.keep hb6) (And.intro ho6 (And.intro (Nat.le_trans hn6 HA.out.2) (And.intro (H3.out.2.2.2.1.keep hb3) (H3.out.2.2.2.2.2.2.keep hb3))))))))
  clear hE6 hx6 hu6 ho6 b6 hn6 hb6 hs6 hbb hb3 hbw HC3 H5
  go_upto_region 6 with fail
  rw [← hW6]
  clear hW6
  by_cases h2 : E2 = 0
  case neg =>
    have t1 : (E2 != 0) = true := bne_iff_ne.2 h2
    clear h2
    go_wp2_with fail
    go_ret
    exact ⟨rfl, H6.out.1⟩
  subst h2
  by_cases h3 : E3 = 0
  case neg =>
    have t1 : (E3 != 0) = true := bne_iff_ne.2 h3
    clear h3
    go_wp2_with fail
    go_ret
    exact ⟨rfl, H6.out.1⟩
  subst h3
  by_cases h6 : E6 = 0
  case neg =>
    have t1 : (E6 != 0) = true := bne_iff_ne.2 h6
    clear h6
    go_wp2_with fail
    go_ret
    exact ⟨rfl, H6.out.1⟩
  subst h6
  obtain ⟨ca, cc, o1, _⟩ := H2.out.2.1.1 rfl
  obtain ⟨cb, _, o2, _⟩ := H3.out.2.1.1 rfl
  obtain ⟨_, _, _, f3⟩ := H6.out.2.1.1 rfl
  have hz6 := (H6.out.2.2.1 rfl).1
  rw [← HA.out.1] at f3 hz6
  obtain ⟨q1, q2⟩ := parts_facts ca cb cc o1 o2 f3 (H2.out.2.2.1 rfl).1 (H3.out.2.2.1 rfl).1 hz6
  obtain ⟨V9, hV9, hvb9, hul9⟩ := two_lists W6 Ax Ay kx ky x y H6.out.2.2.2.2.2.2.2 H6.out.2.2.2.2.2.2.1
  have hxl : x.length + y.length ≤ 1099511627776 := by
    have h1 := H2.out.2.2.2.2.2
    have h2 := H3.out.2.2.2.2.2.1
    have h3 := HM.out.2.2
    rw [List.length_append, Nat.add_mul] at h3
    omega
  have hcall := consolidate_any (some ⟨W6.heap.size, 0, none⟩) 2 [⟨Ax, kx, x⟩, ⟨Ay, ky, y⟩] V9 hul9 (fun s hs u hu => by
    rcases List.mem_cons.1 hs with rfl | hs
    · exact H2.out.2.2.2.2.1 u hu
    · obtain rfl := List.mem_singleton.1 hs
      exact H3.out.2.2.2.2.1 u hu) (by simp [flatR]; exact hxl) (by simp)
  unfold UpsSays at hcall
  rw [show ([⟨Ax, kx, x⟩, ⟨Ay, ky, y⟩] : List (Rw Up)).map Rw.l = [x, y] from rfl, q1, q2] at hcall
  have HC9 := Lib.hid hcall
  have H9 := Lib.hid (And.intro (belows H6.out.1 hvb9) (H6.out.2.2.2.1.keep hvb9))
  clear ca cc o1 cb o2 f3 q1 q2 hvb9 hul9 hcall hxl hz6
  go_wp2_with fail
  rw [← hV9]
  clear hV9
  refine HC9.out.mono ?_
  rintro _ wa ⟨Ae, ke, e, rfl, hpa, hua, hoa, ba⟩
  have hel : e.length = z.length := by have := congrArg List.length hpa; simpa using this
  have HC10 := Lib.hid (show Calls Tryz.prog 11 #[.slice Ae e.length ke, .slice Az z.length kz] wa (fun x w' => x = .returned (.bool true) ∧ Below wa.heap.size wa w') from (sameU_any Ae Az ke kz e z wa hua (H9.out.2.keep ba) hoa H6.out.2.2.2.2.1 (by rw [hel]; exact H6.out.2.2.2.2.2.1) H6.out.2.2.2.2.2.1).mono fun x w' ⟨q, h1, h2, h3⟩ => ⟨by rw [h1, h2.2 hpa], h3⟩)
  have H10 := Lib.hid (belows H9.out.1 ba)
  clear hpa hua hoa ba HC9 hel
  go_wp2_with fail
  refine HC10.out.mono ?_
  rintro _ wb ⟨rfl, bb⟩
  have H11 := Lib.hid (belows H10.out bb)
  clear bb HC10
  go_wp2_with fail
  go_ret
  exact ⟨rfl, H11.out⟩
end Go.Proofs.YtjffohpdjicfpaaGreat
namespace Go.Proofs.YtjffohpdjicfpaaGreat
open Go
variable {H : Type}
theorem bulk_pos (d : DataW H) : 1 ≤ Rows.uptoBulk d := by
  cases d with
  | lit l => cases l <;> simp [Rows.uptoBulk]
  | nil => simp [Rows.uptoBulk]
  | ptr d => simp [Rows.uptoBulk]
  | slice es sp => simp [Rows.uptoBulk]
  | agg ps => simp [Rows.uptoBulk]
  | iface t d => simp [Rows.uptoBulk]
  | map es => simp [Rows.uptoBulk]
  | held h => simp [Rows.uptoBulk]
end Go.Proofs.YtjffohpdjicfpaaGreat
