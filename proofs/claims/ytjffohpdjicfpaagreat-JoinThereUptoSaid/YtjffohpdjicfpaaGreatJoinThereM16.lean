/- Part 16 of the texts on which JoinThere rests: facts and contracts. -/
import Derived.Test.YtjffohpdjicfpaaGreatJoinThereM15
import Derived.Test.YtjffohpdjicfpaaGreatRows
namespace Go.Proofs.YtjffohpdjicfpaaGreat
open Go Go.RowKit
set_option maxRecDepth 100000 in
set_option maxHeartbeats 25600000 in
theorem step_any (left right : Sp) (port : Int) (A : Option Addr) (c : Nat) (l : List Up) (w : World) (hL : SpIn w w.heap.size left) (oL : SpOk left) (hR : SpIn w w.heap.size right) (oR : SpOk right) (hl : Ups w w.heap.size A l) (ol : ∀ u ∈ l, UOk u) (wL : wtS left.L ≤ 1048576) (wR : wtS right.L ≤ 1048576) (hn : l.length ≤ 1048576) :
    Calls Tryz.prog 12 #[left.val, right.val, .int .i64 port, .slice A l.length c] w (StepS left right port l w) := by
  obtain ⟨V, hV, hvb, hv1, hv2, hz1, hz2, hz3, hvs⟩ := step_box w left right
  have y1 := Lib.hid (jcheck_any left right port A c l V (hL.keep hvb) oL (hR.keep hvb) oR (hl.keep hvb) ol (by omega))
  have H := Lib.hid (And.intro hL (And.intro oL (And.intro hR (And.intro oR (And.intro hl (And.intro ol (And.intro wL wR)))))))
  have HB := Lib.hid (And.intro hvb (And.intro hv1 (And.intro hv2 (And.intro hz1 (And.intro hz2 (And.intro hz3 hvs))))))
  have hlv : left.val = .agg #[.slice left.sA left.f.length left.sc, .slice left.lA left.L.length left.lc] := rfl
  have hrv : right.val = .agg #[.slice right.sA right.f.length right.sc, .slice right.lA right.L.length right.lc] := rfl
  rw [hlv, hrv] at y1 ⊢
  obtain ⟨d0, d1⟩ := own2 hv1
  obtain ⟨e0, e1⟩ := own2 hv2
  clear hL oL hR oR hl ol wL wR hvb hv1 hv2 hz1 hz2 hz3 hvs
  go_enter Tryz.func12, Tryz.ntmps12
  go_upto_region 1 with fail
  rw [← hV]
  clear hV
  go_wp2_with fail
  refine y1.out.mono ?_
  rintro _ w1 ⟨Z, rfl, hZ, b1⟩
  have hbw := belows HB.out.1 b1
  have o2 := HB.out.2.2.2.1.past b1 HB.out.2.2.2.1.inside
  have o3 := HB.out.2.2.2.2.1.past b1 HB.out.2.2.2.2.1.inside
  have o4 := HB.out.2.2.2.2.2.1.past b1 HB.out.2.2.2.2.2.1.inside
  have H1 := Lib.hid (And.intro hbw (And.intro hZ (And.intro o2 (And.intro o3 (And.intro o4 b1)))))
  clear hZ b1 d0 d1 e0 e1 y1 hbw
  by_cases hZ0 : Z = 0
  case neg =>
    have t1 : (Z != 0) = true := bne_iff_ne.2 hZ0
    have HN := Lib.hid hZ0
    have o3 : Own w1 (w.heap.size + 1 + 1 + 1) 36 [.slice none 0 0, .slice none 0 0] := o3
    have o2 : Own w1 (w.heap.size + 1 + 1) 36 [.slice none 0 0, .slice none 0 0] := o2
    have o4 : Own w1 (w.heap.size + 1 + 1 + 1 + 1) 26 [.int .u64 0, .int .u64 0, .int .u64 0] := o4
    obtain ⟨X2, hX2⟩ : ∃ X, X = (w1.setCell ⟨w.heap.size + 1 + 1, 0, none⟩ (.slice none 0 0)).setCell ⟨w.heap.size + 1 + 1, 1, none⟩ (.slice none 0 0) := ⟨_, rfl⟩
    have k2 : KeptK w1 X2 (fun b => b = w.heap.size + 1 + 1) := by rw [hX2]; exact kept_two _ _
    have p2 : Own X2 (w.heap.size + 1 + 1) 36 [.slice none 0 0, .slice none 0 0] := by rw [hX2]; exact (o2.set_ 0 _).set_ 1 _
    have p3 := k2.own o3 (by omega)
    have p4 := k2.own o4 (by omega)
    have b2 : Below w.heap.size w X2 := by rw [hX2]; exact below_two H1.out.1 (by omega) _ _
    obtain ⟨X3, hX3⟩ : ∃ X, X = (X2.setCell ⟨w.heap.size + 1 + 1 + 1, 0, none⟩ (.slice none 0 0)).setCell ⟨w.heap.size + 1 + 1 + 1, 1, none⟩ (.slice none 0 0) := ⟨_, rfl⟩
    have k3 : KeptK X2 X3 (fun b => b = w.heap.size + 1 + 1 + 1) := by rw [hX3]; exact kept_two _ _
    have r3 : Own X3 (w.heap.size + 1 + 1 + 1) 36 [.slice none 0 0, .slice none 0 0] := by rw [hX3]; exact (p3.set_ 0 _).set_ 1 _
    have r2 := k3.own p2 (by omega)
    have r4 := k3.own p4 (by omega)
    have b3 : Below w.heap.size w X3 := by rw [hX3]; exact below_two b2 (by omega) _ _
    have s4 := zero_three r4
    obtain ⟨X4, hX4⟩ : ∃ X, X = ((X3.setCell ⟨w.heap.size + 1 + 1 + 1 + 1, 0, none⟩ (.int .u64 0)).setCell ⟨w.heap.size + 1 + 1 + 1 + 1, 1, none⟩ (.int .u64 0)).setCell ⟨w.heap.size + 1 + 1 + 1 + 1, 2, none⟩ (.int .u64 0) := ⟨_, rfl⟩
    have k4 : KeptK X3 X4 (fun b => b = w.heap.size + 1 + 1 + 1 + 1) := by
      rw [hX4]
      exact KeptK.set_ (S := fun b => b = w.heap.size + 1 + 1 + 1 + 1) (KeptK.set_ (S := fun b => b = w.heap.size + 1 + 1 + 1 + 1) (KeptK.set_ (S := fun b => b = w.heap.size + 1 + 1 + 1 + 1) (KeptK.refl _ _) (.inl rfl) _) (.inl rfl) _) (.inl rfl) _
    rw [← hX4] at s4
    have s2 := k4.own r2 (by omega)
    have s3 := k4.own r3 (by omega)
    have b4 : Below w.heap.size w X4 := b3.trans (k4.below (fun b e => by omega) b3.size)
    obtain ⟨a0, a1⟩ := own2 o2
    have f0 := o2.open_ 0
    have f1 := o2.open_ 1
    obtain ⟨c0, c1⟩ := own2 p3
    have g0 := p3.open_ 0
    have g1 := p3.open_ 1
    obtain ⟨m0, m1, m2⟩ := own3 r4
    have h0 := r4.open_ 0
    have h1 := r4.open_ 1
    have h2 := r4.open_ 2
    obtain ⟨x0, x1⟩ := own2 s2
    obtain ⟨x2, x3⟩ := own2 s3
    obtain ⟨x4, x5, x6⟩ := own3 s4
    have HF := Lib.hid (show StepS left right port l w (.returned (.tuple #[.agg #[.slice none 0 0, .slice none 0 0], .agg #[.slice none 0 0, .slice none 0 0], .slice none 0 0, .agg #[.int .u64 0, .int .u64 0, .int .u64 0], .int .i64 Z])) X4 from ⟨Sp.nil, Sp.nil, none, 0, [], ⟨0, 0, 0⟩, Z, rfl, .inl ⟨Z, H1.out.2.1, HN.out, rfl, rfl, rfl, rfl⟩, sp_nil_in _ _, sp_nil_ok, sp_nil_lo _, sp_nil_in _ _, sp_nil_ok, sp_nil_lo _, ⟨Lies.nil_, fun u hu => (by cases hu)⟩, fun u hu => (by cases hu), Nat.zero_le _, b4⟩)
    clear hZ0 o2 o3 o4 k2 p2 p3 p4 b2 k3 r3 r2 r4 b3 s4 k4 s2 s3 b4
    subst hX4 hX3 hX2
    go_wp2_with fail
    exact bodyPost_ret (v := .tuple #[.agg #[.slice none 0 0, .slice none 0 0], .agg #[.slice none 0 0, .slice none 0 0], .slice none 0 0, .agg #[.int .u64 0, .int .u64 0, .int .u64 0], .int .i64 Z]) (by simp [results, Tryz.results12, go_sem, x0, x1, x2, x3, x4, x5, x6]) rfl HF.out
  subst hZ0
  have hg : (SpGood left.f left.L ∧ SpGood right.f right.L) ∧ (port = 0 ∨ port = 1) ∧ chkUs l = 0 := by
    rcases H1.out.2.1 with ⟨_, h⟩ | ⟨h, ⟨_, h2⟩ | ⟨h2, h3⟩⟩
    · exact absurd h (by decide)
    · exact absurd h2 (by decide)
    · exact ⟨h, h2, h3.symm⟩
  have v1 := HB.out.2.1.past H1.out.2.2.2.2.2 HB.out.2.1.inside
  have v2 := HB.out.2.2.1.past H1.out.2.2.2.2.2 HB.out.2.2.1.inside
  have hLw := H.out.1.keep H1.out.1
  have hRw := H.out.2.2.1.keep H1.out.1
  have z1 := fun W (h : Bl w1 W) => Lib.hid (copyS_anyC left W (hLw.keep h) H.out.2.1 hg.1.1 (by have := H.out.2.2.2.2.2.2.1; omega))
  have z2 := fun W (h : Bl w1 W) => Lib.hid (copyS_anyC right W (hRw.keep h) H.out.2.2.2.1 hg.1.2 (by have := H.out.2.2.2.2.2.2.2; omega))
  have hwz : w.heap.size < w1.heap.size := by
    have y1 := H1.out.2.2.2.2.2.size
    have y2 := HB.out.2.2.2.2.2.2
    omega
  have HG := Lib.hid hg
  have HV := Lib.hid (And.intro v1 v2)
  have hself := Bl.refl w1
  have hbs : w1.heap.size ≤ w1.heap.size := Nat.le_refl _
  have HS := Lib.hid (fun W (h : Bm w1.heap.size w1 W) => And.intro (own2 (v1.past h v1.inside)) (own2 (v2.past h v2.inside)))
  obtain ⟨d0, d1⟩ := own2 v1
  obtain ⟨e0, e1⟩ := own2 v2
  rw [hlv] at z1
  rw [hrv] at z2
  clear hg v1 v2 hLw hRw o2 o3 o4
  go_upto_region 4 with fail
  go_cut [14] (fun s14 wx => ∃ (Q : Nat) (a b : Sp), s14 = .pointer (some ⟨Q, 0, none⟩) ∧ Own wx Q 77 (a.cells ++ b.cells) ∧ w1.heap.size ≤ Q ∧ CopySC left a w1.heap.size wx ∧ CopySC right b w1.heap.size wx ∧ Below w1.heap.size w1 wx)
  case first =>
    go_region_held3 (fun w' => Bm w1.heap.size w1 w' ∧ ((w'.cell? ⟨w.heap.size, 0, none⟩ = some (.slice left.sA left.f.length left.sc) ∧ w'.cell? ⟨w.heap.size, 1, none⟩ = some (.slice left.lA left.L.length left.lc)) ∧ (w'.cell? ⟨w.heap.size + 1, 0, none⟩ = some (.slice right.sA right.f.length right.sc) ∧ w'.cell? ⟨w.heap.size + 1, 1, none⟩ = some (.slice right.lA right.L.length right.lc))))
      ((refine (fun h => And.intro h (HS.out _ h)) ?_; repeat (first | with_reducible exact Bm.of hb2 hbs | with_reducible exact Bm.of hb1 hbs | with_reducible exact Bm.of hself hbs | with_reducible refine Bm.set ?_ (by first | exact Nat.le_refl _ | exact hb1.below.size | (have z6 := hb1.below.size; simp; omega) | (have z6 := hb2.below.size; simp; omega)) _ _ | with_reducible refine Bm.more ?_ hbs _ | with_reducible refine Bm.drew ?_)))
      (first | (go_at_call 28; with_reducible refine (z2 _ ?_).out.mono ?_; (repeat (first | with_reducible exact hb1 | with_reducible refine Bl.more ?_ _ | with_reducible refine Bl.drew ?_)); intro x3 w3 hc3; unfold CopiedSC at hc3; obtain ⟨b, rfl, hcb, b3⟩ := hc3; have hb2 : Bl w1 w3 := Bl.call (by repeat (first | with_reducible exact hb1 | with_reducible refine Bl.more ?_ _ | with_reducible refine Bl.drew ?_)) b3; (rw [show b.val = .agg #[.slice b.sA b.f.length b.sc, .slice b.lA b.L.length b.lc] from rfl]); (try (have oz : Own w3 w1.heap.size 77 [.slice none 0 0, .slice none 0 0, .slice none 0 0, .slice none 0 0] := oz1.past b3 (by have := oz1.inside; simpa using this); obtain ⟨e0, e1⟩ := own4a oz; obtain ⟨e2, e3⟩ := own4l oz; have f0 := oz.open_ 0; have f1 := oz.open_ 1; have f2 := oz.open_ 2; have f3 := oz.open_ 3)); (try (have oz : Own w3 w2.heap.size 77 [.slice none 0 0, .slice none 0 0, .slice none 0 0, .slice none 0 0] := (Own.past (by first | exact Own.made _ _ [.slice none 0 0, .slice none 0 0, .slice none 0 0, .slice none 0 0] | exact own_drewKS (Own.made _ _ [.slice none 0 0, .slice none 0 0, .slice none 0 0, .slice none 0 0])) b3 (by simp)); obtain ⟨e0, e1⟩ := own4a oz; obtain ⟨e2, e3⟩ := own4l oz; have f0 := oz.open_ 0; have f1 := oz.open_ 1; have f2 := oz.open_ 2; have f3 := oz.open_ 3))) | (go_at_call 28; with_reducible refine (z1 _ ?_).out.mono ?_; (repeat (first | with_reducible exact hself | with_reducible refine Bl.more ?_ _ | with_reducible refine Bl.drew ?_)); intro x2 w2 hc2; unfold CopiedSC at hc2; obtain ⟨a, rfl, hca, b2⟩ := hc2; have hb1 : Bl w1 w2 := Bl.call (by repeat (first | with_reducible exact hself | with_reducible refine Bl.more ?_ _ | with_reducible refine Bl.drew ?_)) b2; (rw [show a.val = .agg #[.slice a.sA a.f.length a.sc, .slice a.lA a.L.length a.lc] from rfl]); (try (have oz1 : Own w2 w1.heap.size 77 [.slice none 0 0, .slice none 0 0, .slice none 0 0, .slice none 0 0] := (Own.past (by first | exact Own.made _ _ [.slice none 0 0, .slice none 0 0, .slice none 0 0, .slice none 0 0] | exact own_drewKS (Own.made _ _ [.slice none 0 0, .slice none 0 0, .slice none 0 0, .slice none 0 0])) b2 (by simp))))))
    all_goals
      go_wp2_with fail
      go_meet
    · refine ⟨_, a, b, rfl, Own.made w3 _ [.slice a.sA a.f.length a.sc, .slice a.lA a.L.length a.lc, .slice b.sA b.f.length b.sc, .slice b.lA b.L.length b.lc], hb2.below.size, (hca.kept (P := w.heap.size) ((KeptK.of_below b3 (Nat.le_refl _) _).alloc _) hwz).low (Nat.le_refl _), (hcb.kept (P := w.heap.size) ((KeptK.refl _ _).alloc _) (Nat.lt_of_lt_of_le hwz hb1.below.size)).low hb1.below.size, hb2.below.alloc hb2.below.size _⟩
    · refine ⟨_, a, b, rfl, ((((oz.set_ 0 _).set_ 1 _).set_ 2 _).set_ 3 _), hb1.below.size, (hca.kept (P := w.heap.size) (KeptK.set_ (S := (fun b => b = w.heap.size)) (KeptK.set_ (S := (fun b => b = w.heap.size)) (KeptK.set_ (S := (fun b => b = w.heap.size)) (KeptK.set_ (S := (fun b => b = w.heap.size)) (((KeptK.refl w2 (fun b => b = w.heap.size)).alloc _).trans (KeptK.of_below b3 (Nat.le_refl _) (fun b => b = w.heap.size)) (fun _ _ h => h)) (.inr (Nat.le_refl _)) _) (.inr (Nat.le_refl _)) _) (.inr (Nat.le_refl _)) _) (.inr (Nat.le_refl _)) _) hwz).low (Nat.le_refl _), (hcb.kept (P := w2.heap.size) (KeptK.set_ (S := (fun b => b = w2.heap.size)) (KeptK.set_ (S := (fun b => b = w2.heap.size)) (KeptK.set_ (S := (fun b => b = w2.heap.size)) (KeptK.set_ (S := (fun b => b = w2.heap.size)) (KeptK.refl _ _) (.inl rfl) _) (.inl rfl) _) (.inl rfl) _) (.inl rfl) _) (by simp)).low (by have := hb1.below.size; simp; omega), ((KeptK.set_ (S := (fun b => b = w2.heap.size)) (KeptK.set_ (S := (fun b => b = w2.heap.size)) (KeptK.set_ (S := (fun b => b = w2.heap.size)) (KeptK.set_ (S := (fun b => b = w2.heap.size)) (KeptK.of_below hb2.below (Nat.le_refl _) _) (.inl rfl) _) (.inl rfl) _) (.inl rfl) _) (.inl rfl) _)).below (fun b e => by have := hb1.below.size; omega) (Nat.le_refl _)⟩
    · refine ⟨_, a, b, rfl, ((((oz.set_ 0 _).set_ 1 _).set_ 2 _).set_ 3 _), Nat.le_refl _, (hca.kept (P := w1.heap.size) (KeptK.set_ (S := (fun b => b = w1.heap.size)) (KeptK.set_ (S := (fun b => b = w1.heap.size)) (KeptK.set_ (S := (fun b => b = w1.heap.size)) (KeptK.set_ (S := (fun b => b = w1.heap.size)) (KeptK.of_below b3 (Nat.le_refl _) _) (.inl rfl) _) (.inl rfl) _) (.inl rfl) _) (.inl rfl) _) (by simp)).low (by simp), (hcb.kept (P := w1.heap.size) (KeptK.set_ (S := (fun b => b = w1.heap.size)) (KeptK.set_ (S := (fun b => b = w1.heap.size)) (KeptK.set_ (S := (fun b => b = w1.heap.size)) (KeptK.set_ (S := (fun b => b = w1.heap.size)) (KeptK.refl _ _) (.inl rfl) _) (.inl rfl) _) (.inl rfl) _) (.inl rfl) _) (by have := b2.size; simp at this; omega)).low hb1.below.size, ((KeptK.set_ (S := (fun b => b = w1.heap.size)) (KeptK.set_ (S := (fun b => b = w1.heap.size)) (KeptK.set_ (S := (fun b => b = w1.heap.size)) (KeptK.set_ (S := (fun b => b = w1.heap.size)) (KeptK.of_below hb2.below (Nat.le_refl _) _) (.inl rfl) _) (.inl rfl) _) (.inl rfl) _) (.inl rfl) _)).below (fun b e => by omega) (Nat.le_refl _)⟩
  case rest =>
    obtain ⟨Q, a, b, rfl, hq, hQ, ca, cb, hcb⟩ := hcut
    have hB5 : w.heap.size + 5 ≤ w1.heap.size := by
      have h1 := H1.out.2.2.2.2.2.size
      have h2 := HB.out.2.2.2.2.2.2
      omega
    have hm : Mid w w.heap.size Q a b wc := ⟨hq, ca.in_, ca.ok, (ca.low hB5).lo, cb.in_, cb.ok, (cb.low hB5).lo, H1.out.2.2.1.past hcb H1.out.2.2.1.inside, H1.out.2.2.2.1.past hcb H1.out.2.2.2.1.inside, H1.out.2.2.2.2.1.past hcb H1.out.2.2.2.2.1.inside, belows H1.out.1 hcb, by omega⟩
    have ga : SpGood a.f a.L := by rw [ca.f]; exact pl_good ca.L.symm HG.out.1.1
    have gb : SpGood b.f b.L := by rw [cb.f]; exact pl_good cb.L.symm HG.out.1.2
    have wa : wtS a.L ≤ 1048576 := by rw [(pl_parts ca.L).2.2.1]; exact H.out.2.2.2.2.2.2.1
    have wb : wtS b.L ≤ 1048576 := by rw [(pl_parts cb.L).2.2.1]; exact H.out.2.2.2.2.2.2.2
    rcases HG.out.2.1 with rfl | rfl
    case inl =>
      have ym := Lib.hid (matching_any b A c l wc hm.inb hm.okb cb.rm gb (Nat.le_trans (parts_wt _) (by omega)) (H.out.2.2.2.2.1.keep hm.low) H.out.2.2.2.2.2.1 (by omega) (keys_short HG.out.2.2))
      rw [show b.val = .agg #[.slice b.sA b.f.length b.sc, .slice b.lA b.L.length b.lc] from rfl] at ym
      have HC := Lib.hid (And.intro hm (And.intro ca.rm (And.intro cb.rm (And.intro (show LikeS left a from ⟨ca.f, ca.L⟩) (And.intro (show LikeS right b from ⟨cb.f, cb.L⟩) (And.intro ga (And.intro gb (And.intro wa wb))))))))
      obtain ⟨e2, e3⟩ := own4l hm.own
      clear hq hQ hm ca cb hcb ga gb wa wb hB5 z1 z2 HS hself hbs d0 d1 e0 e1
      go_wp2_with fail
      refine ym.out.mono ?_
      rintro _ w2 ⟨Ao, co, oth, E, rfl, hr, hou, hoo, hol, hoc, b2⟩
      have hm2 := HC.out.1.keep b2
      have HO := Lib.hid (And.intro hr (And.intro hou (And.intro hoo (And.intro hol (And.intro hoc b2)))))
      clear hr hou hoo hol hoc b2 ym e2 e3
      go_upto_if 46 with fail
      go_cut [16] (fun s16 wx => ∃ (E8 : Int) (s : Sp), s16 = .int .i64 E8 ∧ Mid w w.heap.size Q s b wx ∧ Ups wx wx.heap.size Ao oth ∧ (E8 = 0 ∧ MatchOk b.f (partsS b.L) l oth ∧ s.f = a.f ∧ PutTo a.f a.L s.L l 1 l.length ∨ E8 ≠ 0 ∧ LikeS left s ∧ ((∃ k, bldE b.f (partsK k b.L) ≠ 0) ∨ WhyI a l)))
      case first =>
        by_cases hE : E = 0
        case neg =>
          have t1 : (E == 0) = false := beq_eq_false_iff_ne.2 hE
          have HE := Lib.hid (show ∃ k, bldE b.f (partsK k b.L) ≠ 0 from by
            rcases HO.out.1 with ⟨e, _⟩ | ⟨e, k, hk⟩
            · exact absurd e hE
            · exact ⟨k, by rw [← hk]; exact e⟩)
          have HE0 := Lib.hid hE
          clear hE
          go_wp2_with fail
          go_meet
          exact ⟨E, a, rfl, hm2, HO.out.2.1, .inr ⟨HE0.out, HC.out.2.2.2.1, .inl HE.out⟩⟩
        subst hE
        have hmo : MatchOk b.f (partsS b.L) l oth := by
          rcases HO.out.1 with ⟨_, h⟩ | ⟨h, _⟩
          · exact h
          · exact absurd rfl h
        have HMO := Lib.hid hmo
        obtain ⟨e0, e1⟩ := own4a hm2.own
        obtain ⟨V2, hV2, hb2, hu2⟩ := one_list w2 A c l (H.out.2.2.2.2.1.keep hm2.low)
        have hmv := hm2.keep hb2
        have hfl : flatR [⟨A, c, l⟩] = l := by unfold flatR; simp
        have yi := Lib.hid (insert_sp a (some ⟨w2.heap.size, 0, none⟩) 1 [⟨A, c, l⟩] V2 hmv.ina hmv.oka hu2 (fun r hr => by obtain rfl := List.mem_singleton.1 hr; exact H.out.2.2.2.2.2.1) (by rw [hfl]; have := HC.out.2.2.2.2.2.2.2.1; omega) (by simp))
        rw [hfl, show a.val = .agg #[.slice a.sA a.f.length a.sc, .slice a.lA a.L.length a.lc] from rfl] at yi
        have HV2 := Lib.hid (And.intro hmv (HO.out.2.1.keep hb2))
        clear hmo hm2 hb2 hu2 hmv hfl
        go_wp2_with fail
        rw [← hV2]
        clear hV2
        refine yi.out.mono ?_
        rintro _ w3 ⟨s, E2, rfl, hI, si, so, sl, b3⟩
        rw [show s.val = .agg #[.slice s.sA s.f.length s.sc, .slice s.lA s.L.length s.lc] from rfl]
        have hm3w := HV2.out.1.keep b3
        have hB5 : w.heap.size + 5 ≤ V2.heap.size := by have h1 := HV2.out.1.own.inside; have h2 := HV2.out.1.q; omega
        obtain ⟨hm3, kX⟩ := hm3w.turnA si so (sl.mono hB5) (by have := hm3w.q; omega)
        have HI := Lib.hid (And.intro hI (And.intro hm3 (slices_turn hm3w (HV2.out.2.keep b3) kX)))
        have r0 := hm3w.own.at_ 0
        have r1 := hm3w.own.at_ 1
        have r2 := hm3w.own.open_ 0
        have r3 := hm3w.own.open_ 1
        simp only [List.getElem?_cons_zero, List.getElem?_cons_succ] at r0 r1
        clear hI si so sl b3 hm3w hB5 hm3 kX e0 e1 yi
        go_wp2_with fail
        go_meet
        refine ⟨E2, s, rfl, HI.out.2.1, HI.out.2.2, ?_⟩
        rcases HI.out.1 with ⟨h, _⟩ | ⟨_, hf, ⟨h, _, hp, _⟩ | ⟨h, hp, hy⟩⟩
        · exact absurd HC.out.2.2.2.2.2.1 h
        · exact .inl ⟨h, HMO.out, hf, hp⟩
        · exact .inr ⟨h, ⟨hf.trans HC.out.2.2.2.1.1, hp.trans HC.out.2.2.2.1.2⟩, .inr hy⟩
      case rest =>
        obtain ⟨E8, s, rfl, hm8, ho8, hk8⟩ := hcut
        obtain ⟨W8, hW8⟩ : ∃ W, W = wc := ⟨_, rfl⟩
        rw [← hW8] at hm8 ho8 ⊢
        clear hW8
        obtain ⟨V4, hV4, hb4, hs4, hp4⟩ := jbox W8
        have hlV := (H.out.2.2.2.2.1.keep hm8.low).past hb4 (Nat.le_refl _)
        have hoV := ho8.past hb4 (Nat.le_refl _)
        have HX := Lib.hid (And.intro hm8 (And.intro hs4 hb4))
        have HK8 := Lib.hid hk8
        have HP4 := Lib.hid (And.intro hp4 (And.intro hlV hoV))
        clear hm8 ho8 hb4 hs4 hp4 hlV hoV hk8
        go_upto_block 0 with fail
        rw [← hV4]
        clear hV4
        go_cut [] (fun wx => ∃ (t : Tm) (y : Int) (v : Value) (M : List Up), Prod wx W8.heap.size t y v M ∧ PKeep V4 wx W8.heap.size (.slice none 0 0) ∧ (∀ j, v.ownBlock = some j → V4.heap.size ≤ j) ∧ (y = 0 ∨ y = 10) ∧ (∀ u ∈ M, chkU u = 0) ∧ M.length ≤ 1099511627776 ∧ ∀ (out : List Up) (t6 : Tm) (E6 : Int), (E6 = 0 ∨ E6 = 10) → (E6 = 0 ↔ y = 0 ∧ fitU M = true) → (E6 = 0 → out.map Up.p = nz Uk.cmp (M.map Up.p) ∧ t6 = ⟨0, 0, 0⟩) → StepE left right 0 l s b out t6 E6)
        case first =>
          by_cases hE8 : E8 = 0
          case neg =>
            have t2 : (E8 != 0) = true := bne_iff_ne.2 hE8
            have hw8 : LikeS left s ∧ ((∃ k, bldE b.f (partsK k b.L) ≠ 0) ∨ WhyI a l) := by
              rcases HK8.out with ⟨h, _⟩ | ⟨_, h⟩
              · exact absurd h hE8
              · exact h
            have HE := Lib.hid hw8
            have yf := Lib.hid (failAll_any W8.heap.size ⟨0, 0, 0⟩ 0 (.slice none 0 0) A c l V4 HP4.out.1.own (.inl rfl) HP4.out.2.1.head (by have h1 := HX.out.2.1; omega) (by omega))
            clear hE8 hw8
            go_wp2_with fail
            refine yf.out.mono ?_
            rintro _ w5 ⟨rfl, t, y, ho5, hy, hk5⟩
            have hp5 : Prod w5 W8.heap.size t y (.slice none 0 0) [] := ⟨ho5, World.ownsRow_nil _ _ _ _, (fun u hu => by cases hu), fun hy0 => by
              rcases hy with e | ⟨_, _, e⟩
              · omega
              · exact e⟩
            have HY := Lib.hid (And.intro hp5 (And.intro hk5 hy))
            clear yf ho5 hy hp5 hk5
            go_wp2_with fail
            go_meet
            refine ⟨t, y, .slice none 0 0, [], HY.out.1, HY.out.2.1, fun j e => (by cases e), ?_, fun u hu => (by cases hu), Nat.zero_le _, fun out t6 E6 hE6 hE0 hEo => stepE_fail H1.out.2.1 hE6 (fun h => (hEo h).2) HC.out.2.2.2.1 HC.out.2.2.2.2.1 HE.out.1 HC.out.2.2.2.2.1 (fun h => ?_) (fun _ => HE.out.2) (fun h => absurd h (by decide))⟩
            · rcases HY.out.2.2 with e | ⟨_, e, _⟩
              · exact .inr e
              · exact .inl e
            · have h1 := (hE0.1 h).1
              have h2 : out.map Up.p = [] := (hEo h).1
              rcases HY.out.2.2 with e | ⟨e, _, _⟩
              · omega
              · exact ⟨e, List.map_eq_nil_iff.1 h2⟩
          subst hE8
          have hpt : MatchOk b.f (partsS b.L) l oth ∧ s.f = a.f ∧ PutTo a.f a.L s.L l 1 l.length := by
            rcases HK8.out with ⟨_, h⟩ | ⟨h, _⟩
            · exact h
            · exact absurd rfl h
          have HPT := Lib.hid hpt
          have hol : oth.length ≤ 1048576 := Nat.le_trans HO.out.2.2.2.1 (Nat.le_trans (parts_wt _) HC.out.2.2.2.2.2.2.2.2)
          have ymt := Lib.hid (match_any W8.heap.size A c l Ao co oth V4 HP4.out.1 HP4.out.2.1 H.out.2.2.2.2.2.1 HG.out.2.2 HP4.out.2.2 HO.out.2.2.1 HO.out.2.2.2.2.1 (by omega) (by omega) (Nat.le_trans (Nat.mul_le_mul hn hol) (by decide)))
          have HLN := Lib.hid hol
          clear hpt hol
          go_wp2_with fail
          refine ymt.out.mono ?_
          rintro _ w5 ⟨rfl, t, why, v, M, hp5, hk5, hfar, hwy, hok, hper, hchk, hlen⟩
          have HY := Lib.hid (And.intro hp5 (And.intro hk5 (And.intro hfar (And.intro hwy (And.intro hok (And.intro hper (And.intro hchk (show M.length ≤ 1099511627776 from Nat.le_trans hlen (Nat.le_trans (Nat.mul_le_mul hn HLN.out) (by decide))))))))))
          clear ymt hp5 hk5 hfar hwy hok hper hchk hlen
          go_wp2_with fail
          go_meet
          exact ⟨t, why, v, M, HY.out.1, HY.out.2.1, HY.out.2.2.1, HY.out.2.2.2.1, HY.out.2.2.2.2.2.2.1, HY.out.2.2.2.2.2.2.2, fun out t6 E6 hE6 hE0 hEo => stepE_ok0 H1.out.2.1 hE6 (fun h => (hEo h).2) HC.out.2.2.2.1 HC.out.2.2.2.2.1 HPT.out.2.1 HPT.out.2.2 HPT.out.1 HO.out.2.2.2.2.1 (made_is HG.out.2.2 HO.out.2.2.2.2.1 HY.out.2.2.2.2.1 HY.out.2.2.2.2.2.1 HY.out.2.2.2.2.2.2.1 hE0 hEo).1 (made_is HG.out.2.2 HO.out.2.2.2.2.1 HY.out.2.2.2.2.1 HY.out.2.2.2.2.2.1 HY.out.2.2.2.2.2.2.1 hE0 hEo).2⟩
        case rest =>
          obtain ⟨t, y, v, M, hp5, hk5, hfar, hwy, hchk, hmlen, hfe⟩ := hcut
          clear HP4 HK8
          have ye := Lib.hid (lend_any W8.heap.size t y v M wc hp5 hwy hchk hmlen)
          have HK5 := Lib.hid (And.intro hk5 (And.intro HX.out.1 (And.intro HX.out.2.1 (And.intro HX.out.2.2 hfar))))
          have HFE := Lib.hid (And.intro hfe hmlen)
          clear hp5 hk5 hfar hwy hchk hmlen hfe
          go_wp2_with fail
          refine ye.out.mono ?_
          rintro _ w6 ⟨A6, c6, out, t6, E6, rfl, hE6, hE0, hEo, hou6, hoo6, hk6, hA6, haw6, hln6⟩
          clear ye
          have HSE := Lib.hid (HFE.out.1 out t6 E6 hE6 hE0 hEo)
          have hk := pk_far HK5.out.1 hk6 HK5.out.2.2.2.2
          have hb6 : Below W8.heap.size W8 w6 := HK5.out.2.2.2.1.trans (hk.below (B := W8.heap.size) (by have h1 := HK5.out.2.2.1; omega) (Nat.le_refl _) (fun k e => (by cases e)))
          have hm6 := HK5.out.2.1.keep hb6
          have hof : ∀ S : Nat → Prop, (∀ k, S k → k < w6.heap.size ∧ k < wc.heap.size) → OfU S A6 out := fun S hS => ⟨fun _ b o e hs => (by have h1 := hA6 b o e; have h2 := hS b hs; omega), fun u hu => ⟨fun hp b o e hs => (by have h1 := (haw6 u hu).1 hp b o e; have h2 := hS b hs; omega), fun hp b o e hs => (by have h1 := (haw6 u hu).2 hp b o e; have h2 := hS b hs; omega)⟩⟩
          have H6 := Lib.hid (And.intro hm6 (And.intro hou6 (And.intro hoo6 (And.intro hof (And.intro hE6 (And.intro hE0 (And.intro hEo (show out.length ≤ 1099511627776 from Nat.le_trans hln6 HFE.out.2))))))))
          clear hk hb6 hm6 hof hou6 hoo6 hk6 hA6 haw6 hln6 hE6 hE0 hEo
          obtain ⟨W7, hW7, hb7, hs7, ho7⟩ := tbox3 w6 t6
          have hbd : Below w6.heap.size w6 W7.drew := hb7.drew
          have hm7 := H6.out.1.keep hbd
          have hou7 := H6.out.2.1.keep hbd
          have ho7d : Own W7.drew w6.heap.size 26 [.int .u64 (t6.e : Int), .int .u64 (t6.a : Int), .int .u64 (t6.b : Int)] := ho7
          obtain ⟨X, hX, x2, x3, x4, kx, g2, g3, g4⟩ := step_fin hm7.z2 hm7.z3 hm7.z4 (.slice s.sA s.f.length s.sc) (.slice s.lA s.L.length s.lc) (.slice b.sA b.f.length b.sc) (.slice b.lA b.L.length b.lc) (.int .u64 (t6.e : Int)) (.int .u64 (t6.a : Int)) (.int .u64 (t6.b : Int))
          have hP5 : w.heap.size + 5 ≤ w6.heap.size := by have h1 := H6.out.1.own.inside; have h2 := H6.out.1.q; omega
          have HS := Lib.hid (fun W (h : Kp w.heap.size W7.drew W) => h.open_ hm7.own ho7d hm7.q hP5)
          have hk0 : Kp w.heap.size W7.drew W7.drew := ⟨KeptK.refl _ _, ⟨_, _, hm7.z2⟩, ⟨_, _, hm7.z3⟩, ⟨_, _, _, hm7.z4⟩⟩
          have hS0 := HS.out W7.drew hk0
          have hof7 := H6.out.2.2.2.1 (fun k => k = w.heap.size + 2 ∨ k = w.heap.size + 3 ∨ k = w.heap.size + 4) (fun k hk => by have h1 := HK5.out.1.size; have h2 := HK5.out.2.1.own.inside; have h3 := HK5.out.2.1.q; have h4 := HK5.out.2.2.1; omega)
          unfold KpS at hS0 HS
          have HF := Lib.hid (step_done (A := A6) (c := c6) hm7 kx HSE.out hou7 H6.out.2.2.1 hof7 H6.out.2.2.2.2.2.2.2)
          obtain ⟨q0, q1⟩ := own2 g2
          obtain ⟨q2, q3⟩ := own2 g3
          obtain ⟨q4, q5, q6⟩ := own3 g4
          have f0 := g2.open_ 0
          have f1 := g2.open_ 1
          have f2 := g3.open_ 0
          have f3 := g3.open_ 1
          have f4 := g4.open_ 0
          have f5 := g4.open_ 1
          have f6 := g4.open_ 2
          obtain ⟨y0, y1⟩ := own2 x2
          obtain ⟨y2, y3⟩ := own2 x3
          obtain ⟨y4, y5, y6⟩ := own3 x4
          have HY := Lib.hid hX
          clear hm7 hou7 x2 x3 x4 kx g2 g3 g4 hP5 hof7 ho7 ho7d hs7 hb7 hbd hX
          go_upto_region 15 with fail
          rw [← hW7]
          clear hW7
          refine wp_region_held_drew (S := fun w' => Kp w.heap.size W7.drew w') (by kernel_rfl) hk0 (fun hS => ?_)
          generalize W7.drew = W8 at *
          refine wpAnyH_take (i := 0) (v := .pointer (some ⟨Q, 0, none⟩)) rfl (by kernel_rfl) (by kernel_rfl) (by kernel_rfl) (fun _ _ _ h => h) (Or.inl ⟨by rfl, fun w hSw => ?_⟩) hS ?_
          · go_simp
          simp only [Act.put, List.setIfInBounds_toArray, List.set_cons_zero, List.set_cons_succ]
          refine wpAnyH_take (i := 1) (v := .agg #[.slice s.sA s.f.length s.sc, .slice s.lA s.L.length s.lc]) rfl (by kernel_rfl) (by kernel_rfl) (by kernel_rfl) (fun _ _ _ h => h) (Or.inl ⟨by rfl, fun w hSw => ?_⟩) hS ?_
          · obtain ⟨⟨n0, n1, n2, n3⟩, m0, m1, m2⟩ := HS.out _ hSw
            go_simp
          simp only [Act.put, List.setIfInBounds_toArray, List.set_cons_zero, List.set_cons_succ]
          refine wpAnyH_take (i := 2) (v := .pointer (some ⟨Q, 2, none⟩)) rfl (by kernel_rfl) (by kernel_rfl) (by kernel_rfl) (fun _ _ _ h => h) (Or.inl ⟨by rfl, fun w hSw => ?_⟩) hS ?_
          · go_simp
          simp only [Act.put, List.setIfInBounds_toArray, List.set_cons_zero, List.set_cons_succ]
          refine wpAnyH_take (i := 3) (v := .agg #[.slice b.sA b.f.length b.sc, .slice b.lA b.L.length b.lc]) rfl (by kernel_rfl) (by kernel_rfl) (by kernel_rfl) (fun _ _ _ h => h) (Or.inl ⟨by rfl, fun w hSw => ?_⟩) hS ?_
          · obtain ⟨⟨n0, n1, n2, n3⟩, m0, m1, m2⟩ := HS.out _ hSw
            go_simp
          simp only [Act.put, List.setIfInBounds_toArray, List.set_cons_zero, List.set_cons_succ]
          refine wpAnyH_take (i := 4) (v := .slice A6 out.length c6) rfl (by kernel_rfl) (by kernel_rfl) (by kernel_rfl) (fun _ _ _ h => h) (Or.inl ⟨by rfl, fun w hSw => ?_⟩) hS ?_
          · go_simp
          simp only [Act.put, List.setIfInBounds_toArray, List.set_cons_zero, List.set_cons_succ]
          refine wpAnyH_take (i := 5) (v := .agg #[.int .u64 (t6.e : Int), .int .u64 (t6.a : Int), .int .u64 (t6.b : Int)]) rfl (by kernel_rfl) (by kernel_rfl) (by kernel_rfl) (fun _ _ _ h => h) (Or.inl ⟨by rfl, fun w hSw => ?_⟩) hS ?_
          · obtain ⟨⟨n0, n1, n2, n3⟩, m0, m1, m2⟩ := HS.out _ hSw
            go_simp
          simp only [Act.put, List.setIfInBounds_toArray, List.set_cons_zero, List.set_cons_succ]
          refine wpAnyH_take (i := 6) (v := .int .i64 E6) rfl (by kernel_rfl) (by kernel_rfl) (by kernel_rfl) (fun _ _ _ h => h) (Or.inl ⟨by rfl, fun w hSw => ?_⟩) hS ?_
          · go_simp
          simp only [Act.put, List.setIfInBounds_toArray, List.set_cons_zero, List.set_cons_succ]
          refine wpAnyH_ready (rs := [7]) (by kernel_rfl) (by simp) ?_
          refine AllReadyH.cons rfl (fun K hK => ?_) AllReadyH.nil
          go_simp
          refine hK.out _ _ ((hk0.s2 _).s2 _) (fun _ => ?_)
          clear hK K
          try simp only [Act.put, List.setIfInBounds_toArray, List.set_cons_zero, List.set_cons_succ]
          refine wpAnyH_ready (rs := [8]) (by kernel_rfl) (by simp) ?_
          refine AllReadyH.cons rfl (fun K hK => ?_) AllReadyH.nil
          go_simp
          refine hK.out _ _ ((((hk0.s2 _).s2 _).s3 _).s3 _) (fun _ => ?_)
          clear hK K
          try simp only [Act.put, List.setIfInBounds_toArray, List.set_cons_zero, List.set_cons_succ]
          refine wpAnyH_ready (rs := [9]) (by kernel_rfl) (by simp) ?_
          refine AllReadyH.cons rfl (fun K hK => ?_) AllReadyH.nil
          go_simp
          refine hK.out _ _ ((((hk0.s2 _).s2 _).s3 _).s3 _) (fun _ => ?_)
          clear hK K
          try simp only [Act.put, List.setIfInBounds_toArray, List.set_cons_zero, List.set_cons_succ]
          refine wpAnyH_ready (rs := [10]) (by kernel_rfl) (by simp) ?_
          refine AllReadyH.cons rfl (fun K hK => ?_) AllReadyH.nil
          go_simp
          refine hK.out _ _ (((((((hk0.s2 _).s2 _).s3 _).s3 _).s4 _).s4 _).s4 _) (fun _ => ?_)
          clear hK K
          try simp only [Act.put, List.setIfInBounds_toArray, List.set_cons_zero, List.set_cons_succ]
          refine wpAnyH_ready (rs := [11]) (by kernel_rfl) (by simp) ?_
          refine AllReadyH.cons rfl (fun K hK => ?_) AllReadyH.nil
          go_simp
          refine hK.out _ _ (((((((hk0.s2 _).s2 _).s3 _).s3 _).s4 _).s4 _).s4 _) (fun _ => ?_)
          clear hK K
          try simp only [Act.put, List.setIfInBounds_toArray, List.set_cons_zero, List.set_cons_succ]
          refine wpAnyH_done (by kernel_rfl) ?_ _
          rw [← HY.out]
          go_wp2_with fail
          exact bodyPost_ret (v := .tuple #[.agg #[.slice s.sA s.f.length s.sc, .slice s.lA s.L.length s.lc], .agg #[.slice b.sA b.f.length b.sc, .slice b.lA b.L.length b.lc], .slice A6 out.length c6, .agg #[.int .u64 (t6.e : Int), .int .u64 (t6.a : Int), .int .u64 (t6.b : Int)], .int .i64 E6]) (by simp [results, Tryz.results12, go_sem, y0, y1, y2, y3, y4, y5, y6]) rfl HF.out
    case inr =>
      have ym := Lib.hid (matching_any a A c l wc hm.ina hm.oka ca.rm ga (Nat.le_trans (parts_wt _) (by omega)) (H.out.2.2.2.2.1.keep hm.low) H.out.2.2.2.2.2.1 (by omega) (keys_short HG.out.2.2))
      rw [show a.val = .agg #[.slice a.sA a.f.length a.sc, .slice a.lA a.L.length a.lc] from rfl] at ym
      have HC := Lib.hid (And.intro hm (And.intro ca.rm (And.intro cb.rm (And.intro (show LikeS left a from ⟨ca.f, ca.L⟩) (And.intro (show LikeS right b from ⟨cb.f, cb.L⟩) (And.intro ga (And.intro gb (And.intro wa wb))))))))
      obtain ⟨e2, e3⟩ := own4a hm.own
      clear hq hQ hm ca cb hcb ga gb wa wb hB5 z1 z2 HS hself hbs d0 d1 e0 e1
      go_wp2_with fail
      refine ym.out.mono ?_
      rintro _ w2 ⟨Ao, co, oth, E, rfl, hr, hou, hoo, hol, hoc, b2⟩
      have hm2 := HC.out.1.keep b2
      have HO := Lib.hid (And.intro hr (And.intro hou (And.intro hoo (And.intro hol (And.intro hoc b2)))))
      clear hr hou hoo hol hoc b2 ym e2 e3
      go_upto_if 46 with fail
      go_cut [16] (fun s16 wx => ∃ (E8 : Int) (s : Sp), s16 = .int .i64 E8 ∧ Mid w w.heap.size Q a s wx ∧ Ups wx wx.heap.size Ao oth ∧ (E8 = 0 ∧ MatchOk a.f (partsS a.L) l oth ∧ s.f = b.f ∧ PutTo b.f b.L s.L l 1 l.length ∨ E8 ≠ 0 ∧ LikeS right s ∧ ((∃ k, bldE a.f (partsK k a.L) ≠ 0) ∨ WhyI b l)))
      case first =>
        by_cases hE : E = 0
        case neg =>
          have t1 : (E == 0) = false := beq_eq_false_iff_ne.2 hE
          have HE := Lib.hid (show ∃ k, bldE a.f (partsK k a.L) ≠ 0 from by
            rcases HO.out.1 with ⟨e, _⟩ | ⟨e, k, hk⟩
            · exact absurd e hE
            · exact ⟨k, by rw [← hk]; exact e⟩)
          have HE0 := Lib.hid hE
          clear hE
          go_wp2_with fail
          go_meet
          exact ⟨E, b, rfl, hm2, HO.out.2.1, .inr ⟨HE0.out, HC.out.2.2.2.2.1, .inl HE.out⟩⟩
        subst hE
        have hmo : MatchOk a.f (partsS a.L) l oth := by
          rcases HO.out.1 with ⟨_, h⟩ | ⟨h, _⟩
          · exact h
          · exact absurd rfl h
        have HMO := Lib.hid hmo
        obtain ⟨e0, e1⟩ := own4l hm2.own
        obtain ⟨V2, hV2, hb2, hu2⟩ := one_list w2 A c l (H.out.2.2.2.2.1.keep hm2.low)
        have hmv := hm2.keep hb2
        have hfl : flatR [⟨A, c, l⟩] = l := by unfold flatR; simp
        have yi := Lib.hid (insert_sp b (some ⟨w2.heap.size, 0, none⟩) 1 [⟨A, c, l⟩] V2 hmv.inb hmv.okb hu2 (fun r hr => by obtain rfl := List.mem_singleton.1 hr; exact H.out.2.2.2.2.2.1) (by rw [hfl]; have := HC.out.2.2.2.2.2.2.2.2; omega) (by simp))
        rw [hfl, show b.val = .agg #[.slice b.sA b.f.length b.sc, .slice b.lA b.L.length b.lc] from rfl] at yi
        have HV2 := Lib.hid (And.intro hmv (HO.out.2.1.keep hb2))
        clear hmo hm2 hb2 hu2 hmv hfl
        go_wp2_with fail
        rw [← hV2]
        clear hV2
        refine yi.out.mono ?_
        rintro _ w3 ⟨s, E2, rfl, hI, si, so, sl, b3⟩
        rw [show s.val = .agg #[.slice s.sA s.f.length s.sc, .slice s.lA s.L.length s.lc] from rfl]
        have hm3w := HV2.out.1.keep b3
        have hB5 : w.heap.size + 5 ≤ V2.heap.size := by have h1 := HV2.out.1.own.inside; have h2 := HV2.out.1.q; omega
        obtain ⟨hm3, kX⟩ := hm3w.turnB si so (sl.mono hB5) (by have := hm3w.q; omega)
        have HI := Lib.hid (And.intro hI (And.intro hm3 (slices_turn hm3w (HV2.out.2.keep b3) kX)))
        have r0 := hm3w.own.at_ 2
        have r1 := hm3w.own.at_ 3
        have r2 := hm3w.own.open_ 2
        have r3 := hm3w.own.open_ 3
        simp only [List.getElem?_cons_zero, List.getElem?_cons_succ] at r0 r1
        clear hI si so sl b3 hm3w hB5 hm3 kX e0 e1 yi
        go_wp2_with fail
        go_meet
        refine ⟨E2, s, rfl, HI.out.2.1, HI.out.2.2, ?_⟩
        rcases HI.out.1 with ⟨h, _⟩ | ⟨_, hf, ⟨h, _, hp, _⟩ | ⟨h, hp, hy⟩⟩
        · exact absurd HC.out.2.2.2.2.2.2.1 h
        · exact .inl ⟨h, HMO.out, hf, hp⟩
        · exact .inr ⟨h, ⟨hf.trans HC.out.2.2.2.2.1.1, hp.trans HC.out.2.2.2.2.1.2⟩, .inr hy⟩
      case rest =>
        obtain ⟨E8, s, rfl, hm8, ho8, hk8⟩ := hcut
        obtain ⟨W8, hW8⟩ : ∃ W, W = wc := ⟨_, rfl⟩
        rw [← hW8] at hm8 ho8 ⊢
        clear hW8
        obtain ⟨V4, hV4, hb4, hs4, hp4⟩ := jbox W8
        have hlV := (H.out.2.2.2.2.1.keep hm8.low).past hb4 (Nat.le_refl _)
        have hoV := ho8.past hb4 (Nat.le_refl _)
        have HX := Lib.hid (And.intro hm8 (And.intro hs4 hb4))
        have HK8 := Lib.hid hk8
        have HP4 := Lib.hid (And.intro hp4 (And.intro hlV hoV))
        clear hm8 ho8 hb4 hs4 hp4 hlV hoV hk8
        go_upto_block 0 with fail
        rw [← hV4]
        clear hV4
        go_cut [] (fun wx => ∃ (t : Tm) (y : Int) (v : Value) (M : List Up), Prod wx W8.heap.size t y v M ∧ PKeep V4 wx W8.heap.size (.slice none 0 0) ∧ (∀ j, v.ownBlock = some j → V4.heap.size ≤ j) ∧ (y = 0 ∨ y = 10) ∧ (∀ u ∈ M, chkU u = 0) ∧ M.length ≤ 1099511627776 ∧ ∀ (out : List Up) (t6 : Tm) (E6 : Int), (E6 = 0 ∨ E6 = 10) → (E6 = 0 ↔ y = 0 ∧ fitU M = true) → (E6 = 0 → out.map Up.p = nz Uk.cmp (M.map Up.p) ∧ t6 = ⟨0, 0, 0⟩) → StepE left right 1 l a s out t6 E6)
        case first =>
          by_cases hE8 : E8 = 0
          case neg =>
            have t2 : (E8 != 0) = true := bne_iff_ne.2 hE8
            have hw8 : LikeS right s ∧ ((∃ k, bldE a.f (partsK k a.L) ≠ 0) ∨ WhyI b l) := by
              rcases HK8.out with ⟨h, _⟩ | ⟨_, h⟩
              · exact absurd h hE8
              · exact h
            have HE := Lib.hid hw8
            have yf := Lib.hid (failAll_any W8.heap.size ⟨0, 0, 0⟩ 0 (.slice none 0 0) A c l V4 HP4.out.1.own (.inl rfl) HP4.out.2.1.head (by have h1 := HX.out.2.1; omega) (by omega))
            clear hE8 hw8
            go_wp2_with fail
            refine yf.out.mono ?_
            rintro _ w5 ⟨rfl, t, y, ho5, hy, hk5⟩
            have hp5 : Prod w5 W8.heap.size t y (.slice none 0 0) [] := ⟨ho5, World.ownsRow_nil _ _ _ _, (fun u hu => by cases hu), fun hy0 => by
              rcases hy with e | ⟨_, _, e⟩
              · omega
              · exact e⟩
            have HY := Lib.hid (And.intro hp5 (And.intro hk5 hy))
            clear yf ho5 hy hp5 hk5
            go_wp2_with fail
            go_meet
            refine ⟨t, y, .slice none 0 0, [], HY.out.1, HY.out.2.1, fun j e => (by cases e), ?_, fun u hu => (by cases hu), Nat.zero_le _, fun out t6 E6 hE6 hE0 hEo => stepE_fail H1.out.2.1 hE6 (fun h => (hEo h).2) HC.out.2.2.2.1 HC.out.2.2.2.2.1 HC.out.2.2.2.1 HE.out.1 (fun h => ?_) (fun h => absurd h (by decide)) (fun _ => HE.out.2)⟩
            · rcases HY.out.2.2 with e | ⟨_, e, _⟩
              · exact .inr e
              · exact .inl e
            · have h1 := (hE0.1 h).1
              have h2 : out.map Up.p = [] := (hEo h).1
              rcases HY.out.2.2 with e | ⟨e, _, _⟩
              · omega
              · exact ⟨e, List.map_eq_nil_iff.1 h2⟩
          subst hE8
          have hpt : MatchOk a.f (partsS a.L) l oth ∧ s.f = b.f ∧ PutTo b.f b.L s.L l 1 l.length := by
            rcases HK8.out with ⟨_, h⟩ | ⟨h, _⟩
            · exact h
            · exact absurd rfl h
          have HPT := Lib.hid hpt
          have hol : oth.length ≤ 1048576 := Nat.le_trans HO.out.2.2.2.1 (Nat.le_trans (parts_wt _) HC.out.2.2.2.2.2.2.2.1)
          have ymt := Lib.hid (match_any W8.heap.size Ao co oth A c l V4 HP4.out.1 HP4.out.2.2 HO.out.2.2.1 HO.out.2.2.2.2.1 HP4.out.2.1 H.out.2.2.2.2.2.1 HG.out.2.2 (by omega) (by omega) (Nat.le_trans (Nat.mul_le_mul hol hn) (by decide)))
          have HLN := Lib.hid hol
          clear hpt hol
          go_wp2_with fail
          refine ymt.out.mono ?_
          rintro _ w5 ⟨rfl, t, why, v, M, hp5, hk5, hfar, hwy, hok, hper, hchk, hlen⟩
          have HY := Lib.hid (And.intro hp5 (And.intro hk5 (And.intro hfar (And.intro hwy (And.intro hok (And.intro hper (And.intro hchk (show M.length ≤ 1099511627776 from Nat.le_trans hlen (Nat.le_trans (Nat.mul_le_mul HLN.out hn) (by decide))))))))))
          clear ymt hp5 hk5 hfar hwy hok hper hchk hlen
          go_wp2_with fail
          go_meet
          exact ⟨t, why, v, M, HY.out.1, HY.out.2.1, HY.out.2.2.1, HY.out.2.2.2.1, HY.out.2.2.2.2.2.2.1, HY.out.2.2.2.2.2.2.2, fun out t6 E6 hE6 hE0 hEo => stepE_ok1 H1.out.2.1 hE6 (fun h => (hEo h).2) HC.out.2.2.2.1 HC.out.2.2.2.2.1 HPT.out.2.1 HPT.out.2.2 HPT.out.1 HO.out.2.2.2.2.1 (made_is HO.out.2.2.2.2.1 HG.out.2.2 HY.out.2.2.2.2.1 HY.out.2.2.2.2.2.1 HY.out.2.2.2.2.2.2.1 hE0 hEo).1 (made_is HO.out.2.2.2.2.1 HG.out.2.2 HY.out.2.2.2.2.1 HY.out.2.2.2.2.2.1 HY.out.2.2.2.2.2.2.1 hE0 hEo).2⟩
        case rest =>
          obtain ⟨t, y, v, M, hp5, hk5, hfar, hwy, hchk, hmlen, hfe⟩ := hcut
          clear HP4 HK8
          have ye := Lib.hid (lend_any W8.heap.size t y v M wc hp5 hwy hchk hmlen)
          have HK5 := Lib.hid (And.intro hk5 (And.intro HX.out.1 (And.intro HX.out.2.1 (And.intro HX.out.2.2 hfar))))
          have HFE := Lib.hid (And.intro hfe hmlen)
          clear hp5 hk5 hfar hwy hchk hmlen hfe
          go_wp2_with fail
          refine ye.out.mono ?_
          rintro _ w6 ⟨A6, c6, out, t6, E6, rfl, hE6, hE0, hEo, hou6, hoo6, hk6, hA6, haw6, hln6⟩
          clear ye
          have HSE := Lib.hid (HFE.out.1 out t6 E6 hE6 hE0 hEo)
          have hk := pk_far HK5.out.1 hk6 HK5.out.2.2.2.2
          have hb6 : Below W8.heap.size W8 w6 := HK5.out.2.2.2.1.trans (hk.below (B := W8.heap.size) (by have h1 := HK5.out.2.2.1; omega) (Nat.le_refl _) (fun k e => (by cases e)))
          have hm6 := HK5.out.2.1.keep hb6
          have hof : ∀ S : Nat → Prop, (∀ k, S k → k < w6.heap.size ∧ k < wc.heap.size) → OfU S A6 out := fun S hS => ⟨fun _ b o e hs => (by have h1 := hA6 b o e; have h2 := hS b hs; omega), fun u hu => ⟨fun hp b o e hs => (by have h1 := (haw6 u hu).1 hp b o e; have h2 := hS b hs; omega), fun hp b o e hs => (by have h1 := (haw6 u hu).2 hp b o e; have h2 := hS b hs; omega)⟩⟩
          have H6 := Lib.hid (And.intro hm6 (And.intro hou6 (And.intro hoo6 (And.intro hof (And.intro hE6 (And.intro hE0 (And.intro hEo (show out.length ≤ 1099511627776 from Nat.le_trans hln6 HFE.out.2))))))))
          clear hk hb6 hm6 hof hou6 hoo6 hk6 hA6 haw6 hln6 hE6 hE0 hEo
          obtain ⟨W7, hW7, hb7, hs7, ho7⟩ := tbox3 w6 t6
          have hbd : Below w6.heap.size w6 W7.drew := hb7.drew
          have hm7 := H6.out.1.keep hbd
          have hou7 := H6.out.2.1.keep hbd
          have ho7d : Own W7.drew w6.heap.size 26 [.int .u64 (t6.e : Int), .int .u64 (t6.a : Int), .int .u64 (t6.b : Int)] := ho7
          obtain ⟨X, hX, x2, x3, x4, kx, g2, g3, g4⟩ := step_fin hm7.z2 hm7.z3 hm7.z4 (.slice a.sA a.f.length a.sc) (.slice a.lA a.L.length a.lc) (.slice s.sA s.f.length s.sc) (.slice s.lA s.L.length s.lc) (.int .u64 (t6.e : Int)) (.int .u64 (t6.a : Int)) (.int .u64 (t6.b : Int))
          have hP5 : w.heap.size + 5 ≤ w6.heap.size := by have h1 := H6.out.1.own.inside; have h2 := H6.out.1.q; omega
          have HS := Lib.hid (fun W (h : Kp w.heap.size W7.drew W) => h.open_ hm7.own ho7d hm7.q hP5)
          have hk0 : Kp w.heap.size W7.drew W7.drew := ⟨KeptK.refl _ _, ⟨_, _, hm7.z2⟩, ⟨_, _, hm7.z3⟩, ⟨_, _, _, hm7.z4⟩⟩
          have hS0 := HS.out W7.drew hk0
          have hof7 := H6.out.2.2.2.1 (fun k => k = w.heap.size + 2 ∨ k = w.heap.size + 3 ∨ k = w.heap.size + 4) (fun k hk => by have h1 := HK5.out.1.size; have h2 := HK5.out.2.1.own.inside; have h3 := HK5.out.2.1.q; have h4 := HK5.out.2.2.1; omega)
          unfold KpS at hS0 HS
          have HF := Lib.hid (step_done (A := A6) (c := c6) hm7 kx HSE.out hou7 H6.out.2.2.1 hof7 H6.out.2.2.2.2.2.2.2)
          obtain ⟨q0, q1⟩ := own2 g2
          obtain ⟨q2, q3⟩ := own2 g3
          obtain ⟨q4, q5, q6⟩ := own3 g4
          have f0 := g2.open_ 0
          have f1 := g2.open_ 1
          have f2 := g3.open_ 0
          have f3 := g3.open_ 1
          have f4 := g4.open_ 0
          have f5 := g4.open_ 1
          have f6 := g4.open_ 2
          obtain ⟨y0, y1⟩ := own2 x2
          obtain ⟨y2, y3⟩ := own2 x3
          obtain ⟨y4, y5, y6⟩ := own3 x4
          have HY := Lib.hid hX
          clear hm7 hou7 x2 x3 x4 kx g2 g3 g4 hP5 hof7 ho7 ho7d hs7 hb7 hbd hX
          go_upto_region 15 with fail
          rw [← hW7]
          clear hW7
          refine wp_region_held_drew (S := fun w' => Kp w.heap.size W7.drew w') (by kernel_rfl) hk0 (fun hS => ?_)
          generalize W7.drew = W8 at *
          refine wpAnyH_take (i := 0) (v := .pointer (some ⟨Q, 0, none⟩)) rfl (by kernel_rfl) (by kernel_rfl) (by kernel_rfl) (fun _ _ _ h => h) (Or.inl ⟨by rfl, fun w hSw => ?_⟩) hS ?_
          · go_simp
          simp only [Act.put, List.setIfInBounds_toArray, List.set_cons_zero, List.set_cons_succ]
          refine wpAnyH_take (i := 1) (v := .agg #[.slice a.sA a.f.length a.sc, .slice a.lA a.L.length a.lc]) rfl (by kernel_rfl) (by kernel_rfl) (by kernel_rfl) (fun _ _ _ h => h) (Or.inl ⟨by rfl, fun w hSw => ?_⟩) hS ?_
          · obtain ⟨⟨n0, n1, n2, n3⟩, m0, m1, m2⟩ := HS.out _ hSw
            go_simp
          simp only [Act.put, List.setIfInBounds_toArray, List.set_cons_zero, List.set_cons_succ]
          refine wpAnyH_take (i := 2) (v := .pointer (some ⟨Q, 2, none⟩)) rfl (by kernel_rfl) (by kernel_rfl) (by kernel_rfl) (fun _ _ _ h => h) (Or.inl ⟨by rfl, fun w hSw => ?_⟩) hS ?_
          · go_simp
          simp only [Act.put, List.setIfInBounds_toArray, List.set_cons_zero, List.set_cons_succ]
          refine wpAnyH_take (i := 3) (v := .agg #[.slice s.sA s.f.length s.sc, .slice s.lA s.L.length s.lc]) rfl (by kernel_rfl) (by kernel_rfl) (by kernel_rfl) (fun _ _ _ h => h) (Or.inl ⟨by rfl, fun w hSw => ?_⟩) hS ?_
          · obtain ⟨⟨n0, n1, n2, n3⟩, m0, m1, m2⟩ := HS.out _ hSw
            go_simp
          simp only [Act.put, List.setIfInBounds_toArray, List.set_cons_zero, List.set_cons_succ]
          refine wpAnyH_take (i := 4) (v := .slice A6 out.length c6) rfl (by kernel_rfl) (by kernel_rfl) (by kernel_rfl) (fun _ _ _ h => h) (Or.inl ⟨by rfl, fun w hSw => ?_⟩) hS ?_
          · go_simp
          simp only [Act.put, List.setIfInBounds_toArray, List.set_cons_zero, List.set_cons_succ]
          refine wpAnyH_take (i := 5) (v := .agg #[.int .u64 (t6.e : Int), .int .u64 (t6.a : Int), .int .u64 (t6.b : Int)]) rfl (by kernel_rfl) (by kernel_rfl) (by kernel_rfl) (fun _ _ _ h => h) (Or.inl ⟨by rfl, fun w hSw => ?_⟩) hS ?_
          · obtain ⟨⟨n0, n1, n2, n3⟩, m0, m1, m2⟩ := HS.out _ hSw
            go_simp
          simp only [Act.put, List.setIfInBounds_toArray, List.set_cons_zero, List.set_cons_succ]
          refine wpAnyH_take (i := 6) (v := .int .i64 E6) rfl (by kernel_rfl) (by kernel_rfl) (by kernel_rfl) (fun _ _ _ h => h) (Or.inl ⟨by rfl, fun w hSw => ?_⟩) hS ?_
          · go_simp
          simp only [Act.put, List.setIfInBounds_toArray, List.set_cons_zero, List.set_cons_succ]
          refine wpAnyH_ready (rs := [7]) (by kernel_rfl) (by simp) ?_
          refine AllReadyH.cons rfl (fun K hK => ?_) AllReadyH.nil
          go_simp
          refine hK.out _ _ ((hk0.s2 _).s2 _) (fun _ => ?_)
          clear hK K
          try simp only [Act.put, List.setIfInBounds_toArray, List.set_cons_zero, List.set_cons_succ]
          refine wpAnyH_ready (rs := [8]) (by kernel_rfl) (by simp) ?_
          refine AllReadyH.cons rfl (fun K hK => ?_) AllReadyH.nil
          go_simp
          refine hK.out _ _ ((((hk0.s2 _).s2 _).s3 _).s3 _) (fun _ => ?_)
          clear hK K
          try simp only [Act.put, List.setIfInBounds_toArray, List.set_cons_zero, List.set_cons_succ]
          refine wpAnyH_ready (rs := [9]) (by kernel_rfl) (by simp) ?_
          refine AllReadyH.cons rfl (fun K hK => ?_) AllReadyH.nil
          go_simp
          refine hK.out _ _ ((((hk0.s2 _).s2 _).s3 _).s3 _) (fun _ => ?_)
          clear hK K
          try simp only [Act.put, List.setIfInBounds_toArray, List.set_cons_zero, List.set_cons_succ]
          refine wpAnyH_ready (rs := [10]) (by kernel_rfl) (by simp) ?_
          refine AllReadyH.cons rfl (fun K hK => ?_) AllReadyH.nil
          go_simp
          refine hK.out _ _ (((((((hk0.s2 _).s2 _).s3 _).s3 _).s4 _).s4 _).s4 _) (fun _ => ?_)
          clear hK K
          try simp only [Act.put, List.setIfInBounds_toArray, List.set_cons_zero, List.set_cons_succ]
          refine wpAnyH_ready (rs := [11]) (by kernel_rfl) (by simp) ?_
          refine AllReadyH.cons rfl (fun K hK => ?_) AllReadyH.nil
          go_simp
          refine hK.out _ _ (((((((hk0.s2 _).s2 _).s3 _).s3 _).s4 _).s4 _).s4 _) (fun _ => ?_)
          clear hK K
          try simp only [Act.put, List.setIfInBounds_toArray, List.set_cons_zero, List.set_cons_succ]
          refine wpAnyH_done (by kernel_rfl) ?_ _
          rw [← HY.out]
          go_wp2_with fail
          exact bodyPost_ret (v := .tuple #[.agg #[.slice a.sA a.f.length a.sc, .slice a.lA a.L.length a.lc], .agg #[.slice s.sA s.f.length s.sc, .slice s.lA s.L.length s.lc], .slice A6 out.length c6, .agg #[.int .u64 (t6.e : Int), .int .u64 (t6.a : Int), .int .u64 (t6.b : Int)], .int .i64 E6]) (by simp [results, Tryz.results12, go_sem, y0, y1, y2, y3, y4, y5, y6]) rfl HF.out
set_option maxRecDepth 100000 in
set_option maxHeartbeats 1600000 in
theorem rowJ_any (n : Int) (w : World) : Calls Tryz.prog 25 #[.int .i64 n] w fun x w' => ∃ G, x = .returned (.slice (some ⟨G, 0, none⟩) 1 1) ∧ Vals w' w'.heap.size (some ⟨G, 0, none⟩) [vnum n] ∧ Below w.heap.size w w' := by
  have hv := Lib.hid (vals_num w n)
  go_enter Tryz.func25, Tryz.ntmps25
  go_wp2_with fail
  go_ret
  exact ⟨_, rfl, hv.out, (Below.refl _ _).alloc (Nat.le_refl _) _⟩
theorem ja_ok (G1 G2 : Nat) : UOk (ja G1 G2) :=
  ⟨by show 1 ≤ 140737488351232; omega, by show 1 ≤ 140737488351232; omega, fun v hv => by
    obtain rfl : v = vnum 1 := by simpa [ja] using hv
    exact ⟨Nat.zero_le _, by decide⟩, fun v hv => by
    obtain rfl : v = vnum 1 := by simpa [ja] using hv
    exact ⟨Nat.zero_le _, by decide⟩, by show -9223372036854775808 ≤ (2 : Int) ∧ (2 : Int) ≤ 9223372036854775807; decide⟩
theorem jb_ok (G1 G2 : Nat) : UOk (jb G1 G2) :=
  ⟨by show 1 ≤ 140737488351232; omega, by show 1 ≤ 140737488351232; omega, fun v hv => by
    obtain rfl : v = vnum 1 := by simpa [jb] using hv
    exact ⟨Nat.zero_le _, by decide⟩, fun v hv => by
    obtain rfl : v = vnum 5 := by simpa [jb] using hv
    exact ⟨Nat.zero_le _, by decide⟩, by show -9223372036854775808 ≤ (3 : Int) ∧ (3 : Int) ≤ 9223372036854775807; decide⟩
theorem box_ja (w : World) (G1 G2 : Nat) (h1 : Vals w w.heap.size (some ⟨G1, 0, none⟩) [vnum 1]) (h2 : Vals w w.heap.size (some ⟨G2, 0, none⟩) [vnum 1]) :
    ∃ V, V = w.alloc (.cells #[.slice (some ⟨G1, 0, none⟩) 1 1, .slice (some ⟨G2, 0, none⟩) 1 1, .int .u64 1, .int .u64 0, .int .u64 0, .int .i64 2] 49) ∧ Below w.heap.size w V ∧ Ups V V.heap.size (some ⟨w.heap.size, 0, none⟩) [ja G1 G2] := by
  obtain ⟨W, e1, s1, b1, o1⟩ := boxd w [.slice (some ⟨G1, 0, none⟩) 1 1, .slice (some ⟨G2, 0, none⟩) 1 1, .int .u64 1, .int .u64 0, .int .u64 0, .int .i64 2] 49
  refine ⟨W, e1, b1, ups_own (t := 49) (l := [ja G1 G2]) o1 fun u hu => ?_⟩
  obtain rfl : u = ja G1 G2 := by simpa using hu
  exact ⟨vals_keep h1 b1, vals_keep h2 b1⟩
theorem box_jb (w : World) (G1 G2 : Nat) (h1 : Vals w w.heap.size (some ⟨G1, 0, none⟩) [vnum 1]) (h2 : Vals w w.heap.size (some ⟨G2, 0, none⟩) [vnum 5]) :
    ∃ V, V = w.alloc (.cells #[.slice (some ⟨G1, 0, none⟩) 1 1, .slice (some ⟨G2, 0, none⟩) 1 1, .int .u64 2, .int .u64 0, .int .u64 0, .int .i64 3] 49) ∧ Below w.heap.size w V ∧ Ups V V.heap.size (some ⟨w.heap.size, 0, none⟩) [jb G1 G2] := by
  obtain ⟨W, e1, s1, b1, o1⟩ := boxd w [.slice (some ⟨G1, 0, none⟩) 1 1, .slice (some ⟨G2, 0, none⟩) 1 1, .int .u64 2, .int .u64 0, .int .u64 0, .int .i64 3] 49
  refine ⟨W, e1, b1, ups_own (t := 49) (l := [jb G1 G2]) o1 fun u hu => ?_⟩
  obtain rfl : u = jb G1 G2 := by simpa using hu
  exact ⟨vals_keep h1 b1, vals_keep h2 b1⟩
theorem spt_box (w : World) (a b : Sp) (t : Tm) : ∃ V, V = ((w.alloc (.cells #[.slice a.sA a.f.length a.sc, .slice a.lA a.L.length a.lc] 36)).alloc (.cells #[.slice b.sA b.f.length b.sc, .slice b.lA b.L.length b.lc] 36)).alloc (.cells #[.int .u64 (t.e : Int), .int .u64 (t.a : Int), .int .u64 (t.b : Int)] 26) ∧ Below w.heap.size w V ∧ Own V w.heap.size 36 [.slice a.sA a.f.length a.sc, .slice a.lA a.L.length a.lc] ∧ Own V (w.heap.size + 1) 36 [.slice b.sA b.f.length b.sc, .slice b.lA b.L.length b.lc] := by
  obtain ⟨V1, e1, b1, s1, o1⟩ := spbox w a
  obtain ⟨V2, e2, b2, s2, o2⟩ := spbox V1 b
  obtain ⟨V3, e3, b3, s3, _⟩ := tbox3 V2 t
  have h1 : V1.heap.size = w.heap.size + 1 := s1
  rw [h1] at o2
  exact ⟨V3, by rw [e3, e2, e1], belows (belows b1 b2) b3, (o1.past b2 o1.inside).past b3 (by have := o1.inside; have := b2.size; omega), o2.past b3 o2.inside⟩
theorem up_oneJ {c : List Up} {K : Uk} {d : Int} (h : c.map Up.p = [(K, d)]) : ∃ x, c = [x] ∧ x.key = K.key ∧ x.row = K.row ∧ x.t = K.t ∧ x.d = d := by
  have hl : c.length = 1 := by have := congrArg List.length h; simpa using this
  match c, hl with
  | [x], _ =>
    have hp : x.p = (K, d) := by simpa using h
    have hk : x.k = K := congrArg Prod.fst hp
    exact ⟨x, rfl, by rw [← hk]; rfl, by rw [← hk]; rfl, by rw [← hk]; rfl, congrArg Prod.snd hp⟩
set_option maxRecDepth 100000 in
set_option maxHeartbeats 12800000 in
theorem jlives_true (w : World) : Calls Tryz.prog 10 #[] w fun e w' => e = .returned (.bool true) ∧ Below w.heap.size w w' := by
  have y1 := fun n W => Lib.hid (rowJ_any n W)
  go_enter Tryz.func10, Tryz.ntmps10
  go_wp2_with fail
  refine (y1 _ _).out.mono ?_
  rintro _ w1 ⟨G1, rfl, v1, b1⟩
  go_wp2_with fail
  refine (y1 _ _).out.mono ?_
  rintro _ w2 ⟨G2, rfl, v2, b2⟩
  obtain ⟨V2, hV2, hb2, hu2⟩ := box_ja w2 G1 G2 (vals_keep v1 b2) v2
  have H2 := Lib.hid (And.intro (belows (belows b1 b2) hb2) hu2)
  clear v1 v2 b1 b2 hb2 hu2
  go_wp2_with fail
  rw [← hV2]
  clear hV2
  refine (y1 _ _).out.mono ?_
  rintro _ w3 ⟨G3, rfl, v3, b3⟩
  go_wp2_with fail
  refine (y1 _ _).out.mono ?_
  rintro _ w4 ⟨G4, rfl, v4, b4⟩
  obtain ⟨V4, hV4, hb4, hu4⟩ := box_jb w4 G3 G4 (vals_keep v3 b4) v4
  have hbA := belows (belows b3 b4) hb4
  have H4 := Lib.hid (And.intro (belows H2.out.1 hbA) (And.intro (H2.out.2.keep hbA) hu4))
  clear v3 v4 b3 b4 hb4 hu4 hbA y1
  have oa : ∀ u ∈ [ja G1 G2], UOk u := fun u hu => by
    obtain rfl := List.mem_singleton.1 hu
    exact ja_ok G1 G2
  have ob : ∀ u ∈ [jb G3 G4], UOk u := fun u hu => by
    obtain rfl := List.mem_singleton.1 hu
    exact jb_ok G3 G4
  have HO := Lib.hid (And.intro oa ob)
  have hcall := pairs_any (some ⟨w2.heap.size, 0, none⟩) 1 [ja G1 G2] (some ⟨w4.heap.size, 0, none⟩) 1 [jb G3 G4] V4 H4.out.2.1 oa H4.out.2.2 ob (by simp) (by simp) (by simp)
  unfold PairsSays at hcall
  have HC := Lib.hid hcall
  clear oa ob hcall
  go_wp2_with fail
  rw [← hV4]
  clear hV4
  refine HC.out.mono ?_
  rintro _ w5 ⟨A5, c5, p, t5, E5, rfl, hE5, hp5, hu5, ho5, hb5, _, _, _⟩
  obtain ⟨ca, cb, ok, ft, hz⟩ := pairs_ab G1 G2 G3 G4
  have he5 : E5 = 0 := hE5.2 ⟨ca, cb, ok, ft⟩
  have hpp : p.map Up.p = [(jk, (6 : Int))] := (hp5 he5).1.trans hz
  subst he5
  obtain ⟨W5, hW5, hbW5, hsW5, hoW5⟩ := tbox3 w5 t5
  have hbB := belows hb5 hbW5
  have H5 := Lib.hid (And.intro (belows H4.out.1 hbB) (And.intro (H4.out.2.1.keep hbB) (And.intro (H4.out.2.2.keep hbB) (And.intro (hu5.keep hbW5) (And.intro ho5 hpp)))))
  have z1 := Lib.hid (show Calls Tryz.prog 12 #[.agg #[.slice none 0 0, .slice none 0 0], .agg #[.slice none 0 0, .slice none 0 0], .int .i64 0, .slice (some ⟨w2.heap.size, 0, none⟩) 1 1] W5 (StepS Sp.nil Sp.nil 0 [ja G1 G2] W5) from step_any Sp.nil Sp.nil 0 (some ⟨w2.heap.size, 0, none⟩) 1 [ja G1 G2] W5 (sp_nil_in _ _) sp_nil_ok (sp_nil_in _ _) sp_nil_ok H5.out.2.1 HO.out.1 (by decide) (by decide) (by simp))
  clear HC hE5 hp5 hu5 ho5 hb5 ca cb ok ft hz hpp hbW5 hsW5 hoW5 hbB
  go_wp2_with fail
  rw [← hW5]
  clear hW5
  refine z1.out.mono ?_
  rintro _ w6 ⟨a, b, A6, c6, o1, t6, E6, rfl, hS6, ia, oka, _, ib, okb, _, hu6, _, _, hb6⟩
  obtain ⟨rfl, rfl, lb, fa, ga, ea, wa⟩ := step_one hS6
  rw [show a.val = .agg #[.slice a.sA a.f.length a.sc, .slice a.lA a.L.length a.lc] from rfl, show b.val = .agg #[.slice b.sA b.f.length b.sc, .slice b.lA b.L.length b.lc] from rfl]
  obtain ⟨W6, hW6, hbW6, oA6, oB6⟩ := spt_box w6 a b t6
  have hbC := belows hb6 hbW6
  have gb : wtS b.L ≤ 1048576 := by rw [(like_nil lb).2]; decide
  have H6 := Lib.hid (And.intro (belows H5.out.1 hbC) (And.intro (H5.out.2.2.1.keep hbC) (And.intro (H5.out.2.2.2.1.keep hbC) (And.intro (ia.keep hbW6) (And.intro (ib.keep hbW6) (And.intro oka okb))))))
  have HL := Lib.hid (And.intro lb (And.intro fa (And.intro ga ea)))
  have z2 := Lib.hid (step_any a b 1 (some ⟨w4.heap.size, 0, none⟩) 1 [jb G3 G4] W6 H6.out.2.2.2.1 oka H6.out.2.2.2.2.1 okb H6.out.2.1 HO.out.2 (by omega) gb (by simp))
  have z3 := fun W (h : Below W6.heap.size W6 W) => Lib.hid (step_any a b 2 (some ⟨w4.heap.size, 0, none⟩) 1 [jb G3 G4] W (H6.out.2.2.2.1.keep h) oka (H6.out.2.2.2.2.1.keep h) okb (H6.out.2.1.keep h) HO.out.2 (by omega) gb (by simp))
  rw [show a.val = .agg #[.slice a.sA a.f.length a.sc, .slice a.lA a.L.length a.lc] from rfl, show b.val = .agg #[.slice b.sA b.f.length b.sc, .slice b.lA b.L.length b.lc] from rfl] at z2 z3
  have HB := Lib.hid (And.intro oA6 oB6)
  obtain ⟨d0, d1⟩ := own2 oA6
  obtain ⟨d2, d3⟩ := own2 oB6
  clear z1 lb fa ga ea wa gb ia oka ib okb hu6 hb6 hbW6 hbC hS6 oA6 oB6
  go_upto_region 5 with fail
  rw [← hW6]
  clear hW6
  go_wp2_with fail
  refine z2.out.mono ?_
  rintro _ w7 ⟨a7, b7, A7, c7, o2, t7, E7, rfl, hS7, ia, oka, _, ib, okb, _, hu7, ho7, _, hb7⟩
  obtain ⟨rfl, hp7⟩ := step_two HL.out.2.1 HL.out.2.2.1 HL.out.2.2.2 HL.out.1 hS7
  rw [show a7.val = .agg #[.slice a7.sA a7.f.length a7.sc, .slice a7.lA a7.L.length a7.lc] from rfl, show b7.val = .agg #[.slice b7.sA b7.f.length b7.sc, .slice b7.lA b7.L.length b7.lc] from rfl]
  obtain ⟨W7, hW7, hbW7, oA7, oB7⟩ := spt_box w7 a7 b7 t7
  have hbD := belows hb7 hbW7
  have H7 := Lib.hid (And.intro (belows H6.out.1 hbD) (And.intro (H6.out.2.2.1.keep hbD) (And.intro (hu7.keep hbW7) (And.intro ho7 hp7))))
  have z3 := z3 W7 hbD
  obtain ⟨e0, e1⟩ := own2 (HB.out.1.past hbD HB.out.1.inside)
  obtain ⟨e2, e3⟩ := own2 (HB.out.2.past hbD HB.out.2.inside)
  clear z2 ia oka ib okb hu7 ho7 hb7 hbW7 hbD hS7 hp7 oA7 oB7 d0 d1 d2 d3
  go_upto_region 6 with fail
  rw [← hW7]
  clear hW7
  go_wp2_with fail
  refine z3.out.mono ?_
  rintro _ w8 ⟨a8, b8, A8, c8, o3, t8, E8, rfl, hS8, _, _, _, _, _, _, _, _, _, hb8⟩
  obtain rfl := step_three HL.out.2.2.1 HL.out.1 hS8
  rw [show a8.val = .agg #[.slice a8.sA a8.f.length a8.sc, .slice a8.lA a8.L.length a8.lc] from rfl, show b8.val = .agg #[.slice b8.sA b8.f.length b8.sc, .slice b8.lA b8.L.length b8.lc] from rfl]
  obtain ⟨W8, hW8, hbW8, _, _⟩ := spt_box w8 a8 b8 t8
  have hbE := belows hb8 hbW8
  have H8 := Lib.hid (And.intro (belows H7.out.1 hbE) (And.intro (H7.out.2.1.keep hbE) (H7.out.2.2.1.keep hbE)))
  obtain ⟨x, hx, _, hxr, hxt, hxd⟩ := up_oneJ H5.out.2.2.2.2.2
  subst hx
  have hux := H8.out.2.1
  obtain ⟨bx, ox, rfl, hBx, hcx⟩ := hux.head (by simp)
  have k0 := hcx 0 x rfl 1 _ rfl
  have k1 := hcx 0 x rfl 2 _ rfl
  have k2 := hcx 0 x rfl 5 _ rfl
  have hlr : x.row.length = 2 := by rw [hxr]; rfl
  have hte : (x.t.e : Int) = 2 := by rw [hxt]; rfl
  have hd6 : x.d = 6 := hxd
  rw [hlr] at k0
  rw [hte] at k1
  rw [hd6] at k2
  have zs := Lib.hid (show Calls Tryz.prog 11 #[.slice A7 o2.length c7, .slice (some ⟨bx, ox, none⟩) 1 c5] W8 (fun e w' => e = .returned (.bool true) ∧ Below W8.heap.size W8 w') from (sameU_any A7 (some ⟨bx, ox, none⟩) c7 c5 o2 [x] W8 H8.out.2.2 hux H7.out.2.2.2.1 H5.out.2.2.2.2.1 (by have := congrArg List.length H7.out.2.2.2.2; rw [List.length_map] at this; rw [this]; simp) (by simp)).mono fun e w' ⟨q, h1, h2, h3⟩ => ⟨by rw [h1, h2.2 (H7.out.2.2.2.2.trans H5.out.2.2.2.2.2.symm)], h3⟩)
  clear z3 hb8 hbW8 hbE hS8 e0 e1 e2 e3 hux hcx hBx hlr hte hd6 hxr hxt hxd
  go_upto_region 7 with fail
  rw [← hW8]
  clear hW8
  go_wp2_with fail
  refine zs.out.mono ?_
  rintro _ w9 ⟨rfl, hb9⟩
  have HF := Lib.hid (belows H8.out.1 hb9)
  clear hb9 zs
  go_wp2_with fail
  go_ret
  exact ⟨rfl, HF.out⟩
theorem psum_append {K : Type} (p : K → Bool) : ∀ a b : List (K × Int), psum p (a ++ b) = psum p a + psum p b
  | [], b => by simp [psum]
  | x :: a, b => by simp only [List.cons_append, psum, psum_append p a b]; omega
theorem atP_cons (u : Up) (l : List Up) (t : Tm) : atP (u :: l) t = if u.t.le t = true then (u.row, u.d) :: atP l t else atP l t := by
  unfold atP
  rw [List.filter_cons]
  split <;> simp
def makesR (r : List Vl) (x y : List Vl) : Int := if cmpRows (x ++ y) r = 0 then 1 else 0
theorem psum_row (t : Tm) (r : List Vl) (x : Up) : ∀ b : List Up, psum (fun k : Uk => k.t.le t && decide (cmpRows k.row r = 0)) (b.map (joinP x)) = if x.t.le t = true then wsum (fun y => makesR r x.row y) (atP b t) * x.d else 0
  | [] => by simp [psum, atP, wsum]
  | y :: b => by
    have ih := psum_row t r x b
    rw [List.map_cons, atP_cons]
    simp only [psum, ih]
    show (if ((x.t.sup y.t).le t && decide (cmpRows (x.row ++ y.row) r = 0)) = true then x.d * y.d else 0) + _ = _
    rw [lub_le]
    cases hx : x.t.le t
    · simp
    · cases hy : y.t.le t
      · simp
      · by_cases h0 : cmpRows (x.row ++ y.row) r = 0
        · simp only [h0, decide_true, Bool.and_self, if_true, wsum, makesR, Int.one_mul, Int.add_mul]
          rw [Int.mul_comm x.d y.d]
        · simp [h0, wsum, makesR]
theorem ofKey_bare {b : List Up} (hb : ∀ y ∈ b, y.key = []) : ofKey [] b = b := List.filter_eq_self.2 fun y hy => by rw [hb y hy]; rfl
theorem psum_pairs {b : List Up} (hb : ∀ y ∈ b, y.key = []) (t : Tm) (r : List Vl) : ∀ a : List Up, (∀ x ∈ a, x.key = []) → psum (fun k : Uk => k.t.le t && decide (cmpRows k.row r = 0)) (pairsP a b) = bsum (makesR r) (atP a t) (atP b t)
  | [], _ => rfl
  | x :: a, ha => by
    have ih := psum_pairs hb t r a fun y hy => ha y (List.mem_cons_of_mem _ hy)
    unfold pairsP at *
    rw [List.flatMap_cons, psum_append, ih, ha x List.mem_cons_self, ofKey_bare hb, psum_row, atP_cons]
    unfold bsum
    split
    · rfl
    · omega
theorem there_pairs {a b p : List Up} {t : Tm} (ha : ∀ x ∈ a, x.key = []) (hb : ∀ y ∈ b, y.key = []) (hR : ∀ q ∈ pairsP a b, UkR q.1) (hp : p.map Up.p = nz Uk.cmp (pairsP a b)) (ca : chkUs a = 0) (cb : chkUs b = 0) (r : List Vl) :
    sumOf cmpRows (atP p t) r = ((nz cmpRows (atP a t)).flatMap fun x => (nz cmpRows (atP b t)).map fun y => makesR r x.1 y.1 * (x.2 * y.2)).sum := by
  rw [at_sum, hp, psum_nz uk_lin _ hR, psum_pairs hb t r a ha, ← bsum_pairs, bsum_nz row_lin _ (at_right ca) (at_right cb)]
def prodC (c d : Ct) : Uk × Int := (⟨[], c.row ++ d.row, ⟨0, 0, 0⟩⟩, c.n * d.n)
def prodL (x y : List Ct) : List (Uk × Int) := x.flatMap fun c => y.map (prodC c)
def rowN (q : Uk × Int) : List Vl × Int := (q.1.row, q.2)
theorem sum_prodC (c : Ct) (r : List Vl) : ∀ y : List Ct, sumOf cmpRows ((y.map (prodC c)).map rowN) r = wsum (fun b => makesR r c.row b) (y.map Ct.p) * c.n
  | [] => by simp [sumOf, wsum]
  | d :: y => by
    have ih := sum_prodC c r y
    have h1 : sumOf cmpRows (((d :: y).map (prodC c)).map rowN) r = (if cmpRows (c.row ++ d.row) r = 0 then c.n * d.n else 0) + sumOf cmpRows ((y.map (prodC c)).map rowN) r := rfl
    have h2 : wsum (fun b => makesR r c.row b) ((d :: y).map Ct.p) = makesR r c.row d.row * d.n + wsum (fun b => makesR r c.row b) (y.map Ct.p) := rfl
    rw [h1, h2, ih, Int.add_mul]
    congr 1
    unfold makesR
    split
    · rw [Int.one_mul, Int.mul_comm]
    · simp
theorem sumOf_appendR : ∀ (a b : List (List Vl × Int)) (r : List Vl), sumOf cmpRows (a ++ b) r = sumOf cmpRows a r + sumOf cmpRows b r := fun a b r => sumOf_append ..
theorem sum_prodL (y : List Ct) (r : List Vl) : ∀ x : List Ct, sumOf cmpRows ((prodL x y).map rowN) r = bsum (makesR r) (x.map Ct.p) (y.map Ct.p)
  | [] => rfl
  | c :: x => by
    have ih := sum_prodL y r x
    unfold prodL at *
    rw [List.flatMap_cons, List.map_append, sumOf_appendR, ih, sum_prodC]
    rfl
theorem at_prod {L : List Up} {x y : List Ct} (h : L.map Up.p = prodL x y) : atP L ⟨0, 0, 0⟩ = (prodL x y).map rowN := by
  have ht : ∀ u ∈ L, u.t = ⟨0, 0, 0⟩ := fun u hu => by
    have h1 : u.p ∈ prodL x y := by rw [← h]; exact List.mem_map_of_mem hu
    obtain ⟨c, _, h2⟩ := List.mem_flatMap.1 h1
    obtain ⟨d, _, h3⟩ := List.mem_map.1 h2
    have h4 : u.k = (prodC c d).1 := congrArg Prod.fst h3.symm
    exact congrArg Uk.t h4
  unfold atP
  rw [List.filter_eq_self.2 (fun u hu => by rw [ht u hu]; rfl), ← h, List.map_map]
  rfl
theorem there_same {a b p L : List Up} {t : Tm} {x y got want : List Ct} (ha : ∀ u ∈ a, u.key = []) (hb : ∀ u ∈ b, u.key = []) (ok : okPairs a b = true) (ca : chkUs a = 0) (cb : chkUs b = 0) (hp : p.map Up.p = nz Uk.cmp (pairsP a b))
    (hx : x.map Ct.p = atL a t) (ex : atE a t = 0) (hy : y.map Ct.p = atL b t) (ey : atE b t = 0) (hg : got.map Ct.p = atL p t) (eg : atE p t = 0) (hL : L.map Up.p = prodL x y) (hw : want.map Ct.p = atL L ⟨0, 0, 0⟩) (ew : atE L ⟨0, 0, 0⟩ = 0) : want.map Ct.p = got.map Ct.p := by
  obtain ⟨_, _, _, zx⟩ := at_zero ex
  obtain ⟨_, _, _, zy⟩ := at_zero ey
  obtain ⟨cp, _, _, zg⟩ := at_zero eg
  obtain ⟨cL, _, _, zw⟩ := at_zero ew
  rw [hw, hg, zw, zg]
  refine nz_ext row_lin (R := RowR) (at_right cL) (at_right cp) fun r => ?_
  rw [at_prod hL, sum_prodL, hx, hy, zx, zy, there_pairs ha hb (okPairs_right ca cb ok) hp ca cb r, bsum_pairs]
theorem prodL_len (x y : List Ct) : (prodL x y).length ≤ x.length * y.length := by
  induction x with
  | nil => simp [prodL]
  | cons c x ih =>
    unfold prodL at *
    rw [List.flatMap_cons, List.length_append, List.length_map, List.length_cons, Nat.add_mul, Nat.one_mul]
    omega
theorem prodL_snoc {x y : List Ct} {k : Nat} {c : Ct} (h : x[k]? = some c) : prodL (x.take (k + 1)) y = prodL (x.take k) y ++ y.map (prodC c) := by
  unfold prodL
  rw [List.take_add_one, h, List.flatMap_append]
  simp
theorem prodC_snoc {c d : Ct} {y : List Ct} {j : Nat} (h : y[j]? = some d) : (y.take (j + 1)).map (prodC c) = (y.take j).map (prodC c) ++ [prodC c d] := by
  rw [List.take_add_one, h, List.map_append]
  simp
theorem step_append_anyS {α : Type} {size : Nat} {cells : α → List Value} {B : Nat} {A : Option Addr} {l : List α} {P : Program} (w : World) {ops : Array Oper} {o : Oper} {a : Act} {K : Act → World → Prop} {Q : Exit → Act → World → Prop} {E : Prop} (hgd : o.guard = none) (s x : Operand) (t e : TypeId)
    (ho : o.op = .call { callee := .builtin .append, args := #[s, x], argTypes := #[t, t] })
    (i0 : TypeInfo) (z : Value) (bytes : Nat) (ht : P.underlying t = some (.slice e)) (hi : P.info? e = some i0) (hz0 : i0.zero = some z) (hz1 : i0.size = size) (hz2 : i0.bytes = bytes) (hzs : z.cells.size = size) (hpos : 0 < size) (hcl : ∀ x, (cells x).length = size) (hone : ∀ x, ∀ u ∈ cells x, u.oneCell' = true)
    (base : Nat) (v : Value) (n : Nat) (xs : List Value) (hs : a.eval s = v) (hown : w.ownsRow base e size v n xs)
    (c : Nat) (hx : a.eval x = .slice A l.length c) (hl : Lies size cells w B A l) (h63 : n + l.length ≤ maxLen) (hn : (n + l.length) * bytes ≤ 140737488355328) (hbase : base ≤ w.heap.size)
    (h : ∀ v' w', w'.ownsRow base e size v' (n + l.length) (xs ++ l.flatMap cells) → Below base w w' → (v'.ownBlock = v.ownBlock ∨ v'.ownBlock = some w.heap.size) → w.grownBy w' v.ownBlock → K (a.put o.dst v') w') :
    if Region.wanted o (yielded ops a.tmps) = true then Oper.wp P o a w K Q else E := by
  have hw : Region.wanted o (yielded ops a.tmps) = true := by simp [Region.wanted, hgd]
  rw [if_pos hw]
  obtain ⟨v', w', hrun, ho', hb, hob, hgr⟩ : ∃ v' w', (Builtin.append_ #[t, t] o.type #[v, .slice A l.length c]).run P w = .ok v' w' ∧ w'.ownsRow base e size v' (n + l.length) (xs ++ l.flatMap cells) ∧ Below base w w' ∧ (v'.ownBlock = v.ownBlock ∨ v'.ownBlock = some w.heap.size) ∧ w.grownBy w' v.ownBlock := by
    cases A with
    | none =>
      have h0 : l = [] := by
        cases l with
        | nil => rfl
        | cons x l => obtain ⟨_, _, e, _⟩ := hl (by simp); cases e
      subst h0
      exact ⟨v, w, run_append_none w base _ _ _ i0 size ht hi v n xs hown c, by simpa using hown, Below.refl _ _, .inl rfl, ⟨rfl, rfl, rfl, Nat.le_refl _, fun _ _ _ => rfl⟩⟩
    | some ad =>
      have hnews : ∀ j u, (l.flatMap cells)[j]? = some u → w.cell? (ad.add j) = some u := by
        intro j u hu
        obtain ⟨i, r, y, rfl, hi, hr⟩ := flat_back hpos hcl l j u hu
        have hp : 0 < l.length := by have := (List.getElem?_eq_some_iff.1 hi).1; omega
        obtain ⟨b, o, e, _, hc⟩ := hl hp
        obtain rfl : ad = ⟨b, o, none⟩ := by injection e
        have ea : (⟨b, o, none⟩ : Addr).add (i * size + r) = ⟨b, o + i * size + r, none⟩ := by unfold Addr.add; split <;> simp_all <;> omega
        rw [ea]
        exact hc i y hi r u hr
      obtain ⟨v', w', hr, h2, h3, _, h5⟩ := run_append_own_at (P := P) w base t o.type e i0 _ size bytes ht hi hz0 hz1 hz2 hzs hpos v n xs hown ad l.length c (l.flatMap cells) (flat_size hcl l) hnews
        (fun u hu => by obtain ⟨y, _, hy⟩ := List.mem_flatMap.1 hu; exact hone y u hy) h63 hn hbase
      exact ⟨v', w', hr, h2, (Below.refl base w).grown h3 hbase (fun k hk => (hown.lt k hk).1), h5, h3⟩
  unfold Oper.wp execOp
  simp only [ho, resolve, invoke, builtin, Sem.run_bind, Sem.run_pure, Result.andThen_ok, List.map_toArray, List.map_cons, List.map_nil, hs, hx, hrun]
  exact h v' w' ho' hb hob hgr
structure ThSt (V wr : World) (L : List Up) (v : Value) : Prop where
  below : Below V.heap.size V wr
  row : wr.ownsRow V.heap.size 49 6 v L.length (L.flatMap Up.cells)
  each_ : ∀ u ∈ L, UIn wr wr.heap.size u ∧ UOk u ∧ Awn (fun b => v.ownBlock ≠ some b) u
theorem ThSt.past {V wr X : World} {L : List Up} {v : Value} (h : ThSt V wr L v) (hb : Below wr.heap.size wr X) : ThSt V X L v :=
  ⟨belows h.below hb, own_below h.row hb, fun u hu => ⟨(h.each_ u hu).1.keep hb, (h.each_ u hu).2.1, (h.each_ u hu).2.2⟩⟩
theorem ThSt.ups {V wr : World} {L : List Up} {A : Option Addr} {n c : Nat} (h : ThSt V wr L (.slice A n c)) : n = L.length ∧ Ups wr wr.heap.size A L := by
  obtain ⟨A', c', e, _, _, h3⟩ := lies_of_own (size := 6) (cells := Up.cells) (by decide) ucells_len rfl h.row
  injection e with e1 e2 e3
  subst e1
  exact ⟨e2, h3, fun u hu => (h.each_ u hu).1⟩
theorem ThSt.form {V wr : World} {L : List Up} {v : Value} (h : ThSt V wr L v) : ∃ A c, v = .slice A L.length c := by
  obtain ⟨A, c, e, _⟩ := lies_of_own (size := 6) (cells := Up.cells) (by decide) ucells_len rfl h.row
  exact ⟨A, c, e⟩
theorem ThSt.next {V X w' : World} {L : List Up} {v v' : Value} {u : Up} (h : ThSt V X L v) (hu : UIn X X.heap.size u) (ok : UOk u) (hoff : Awn (fun b => v.ownBlock ≠ some b) u) (hg : X.grownBy w' v.ownBlock) (hob : v'.ownBlock = v.ownBlock ∨ v'.ownBlock = some X.heap.size) (ho : w'.ownsRow V.heap.size 49 6 v' (L.length + 1) (L.flatMap Up.cells ++ u.cells)) : ThSt V w' (L ++ [u]) v' := by
  have hk : KeptK X w' (fun j => v.ownBlock = some j) := KeptK.of_grown hg (fun _ e => e)
  refine ⟨h.below.trans (hk.below (fun j hj => (h.row.lt j hj).1) h.below.size), by rw [List.length_append, List.flatMap_append]; simpa using ho, fun x hx => ?_⟩
  have key : UIn X X.heap.size x ∧ UOk x ∧ Awn (fun b => v.ownBlock ≠ some b) x := by
    rcases List.mem_append.1 hx with hx | hx
    · exact h.each_ x hx
    · obtain rfl := List.mem_singleton.1 hx
      exact ⟨hu, ok, hoff⟩
  obtain ⟨h1, h2, h3⟩ := key
  refine ⟨⟨vals_kept h1.key (fun hp b o e => h3.1 hp b o e) hk, vals_kept h1.row (fun hp b o e => h3.2 hp b o e) hk⟩, h2, ?_⟩
  rcases hob with e | e
  · rw [e]; exact h3
  · rw [e]
    exact (awn_lt h1).imp fun b hb e' => by injection e' with e'; omega
theorem ups_bare {l : List Up} (h : ∀ (j : Nat) (u : Up), l[j]? = some u → u.key = []) : ∀ u ∈ l, u.key = [] := fun u hu => by
  obtain ⟨j, hj⟩ := List.getElem?_of_mem hu
  exact h j u hj
theorem counts_short {x : List Ct} {l : List Up} {t : Tm} (h : x.map Ct.p = atL l t) (e : atE l t = 0) : (∀ c ∈ x, c.row.length ≤ 8) ∧ x.length ≤ l.length := by
  obtain ⟨hc, _, _, hz⟩ := at_zero e
  constructor
  · intro c hcm
    have h1 : c.p ∈ nz cmpRows (atP l t) := by rw [← hz, ← h]; exact List.mem_map_of_mem hcm
    have h2 : chkRow c.row = 0 := nz_right (R := RowR) (at_right hc) _ h1
    rcases chk_two c.row with ⟨_, h3⟩ | h3
    · exact h3
    · omega
  · have h1 := congrArg List.length h
    rw [List.length_map, hz] at h1
    have h2 := nz_len (cmp := cmpRows) (atP l t)
    have h3 : (atP l t).length ≤ l.length := by unfold atP; rw [List.length_map]; exact List.length_filter_le ..
    omega
theorem row_newV (w : World) : (w.alloc (.cells #[] 122)).ownsRow w.heap.size 122 3 (.slice (some ⟨w.heap.size, 0, none⟩) 0 0) 0 [] := World.ownsRow_made w #[] 0 (Nat.le_refl _) (Nat.zero_le _) (by simp)
theorem lies_alloc {α : Type} {size : Nat} {cells : α → List Value} {w : World} {B : Nat} {A : Option Addr} {l : List α} {o : Obj} (h : Lies size cells w B A l) (hB : B ≤ w.heap.size) : Lies size cells (w.alloc o) B A l := h.past ((Below.refl w.heap.size w).alloc (Nat.le_refl _) o) hB
theorem fitE_zeroJ {S : Int} (h : fitE S = 0) : fitN S = S := by
  unfold fitE at h
  unfold fitN
  split at h
  · rename_i h1; rw [if_pos h1]
  · cases h
theorem fitN_inJ (S : Int) : -9223372036854775808 ≤ fitN S ∧ fitN S ≤ 9223372036854775807 := by
  unfold fitN
  split
  · rename_i h; simpa [fits] using h
  · decide
set_option maxRecDepth 100000 in
set_option maxHeartbeats 25600000 in
theorem jthere_walk (A : Option Addr) (k : Nat) (a : List Up) (A' : Option Addr) (k' : Nat) (b : List Up) (t : Tm) (w : World) (ha : Ups w w.heap.size A a) (oa : ∀ u ∈ a, UOk u) (_ : a.length ≤ k) (_ : k ≤ maxLen) (hb : Ups w w.heap.size A' b) (ob : ∀ u ∈ b, UOk u) (_ : b.length ≤ k') (_ : k' ≤ maxLen) (hn : a.length + b.length ≤ 1048576) :
    Calls Tryz.prog 7 #[.slice A a.length k, .slice A' b.length k', t.val] w fun e w' => e = .returned (.bool true) ∧ Below w.heap.size w w' := by
  obtain ⟨i0, hi0, hz0, hz1, hz2⟩ := info_parts infoUp
  have HI := Lib.hid (And.intro Tryz.underlying22 (And.intro hi0 (And.intro hz0 (And.intro hz1 hz2))))
  clear hi0 hz0 hz1 hz2
  obtain ⟨i1, hi1, hz0, hz1, hz2⟩ := info_parts infoVl
  have HV1 := Lib.hid (And.intro Tryz.underlying47 (And.intro hi1 (And.intro hz0 (And.intro hz1 hz2))))
  clear hi1 hz0 hz1 hz2
  have y0 := fun W => Lib.hid (jlives_true W)
  obtain ⟨V, hV, hvb, hvs, hvo⟩ := tm_box w t
  have H := Lib.hid (And.intro (And.intro ha oa) (And.intro hb ob))
  have HV := Lib.hid (And.intro hvb hvo)
  rw [show t.val = .agg #[.int .u64 (t.e : Int), .int .u64 (t.a : Int), .int .u64 (t.b : Int)] from rfl]
  have hm : a.length * b.length ≤ 1099511627776 := Nat.le_trans (Nat.mul_le_mul (show a.length ≤ 1048576 by omega) (show b.length ≤ 1048576 by omega)) (by decide)
  have HM := Lib.hid hm
  clear ha oa hb ob hvb hvs hvo hm
  go_enter Tryz.func7, Tryz.ntmps7
  go_upto_region 1 with fail
  rw [← hV]
  clear hV
  go_wp2_with fail
  refine (y0 _).out.mono ?_
  rintro _ w1 ⟨rfl, b1⟩
  have hbw := belows HV.out.1 b1
  obtain ⟨V1, hV1, hb1, hul1⟩ := two_lists w1 A A' k k' a b (H.out.1.1.keep hbw) (H.out.2.1.keep hbw)
  have hbb := belows b1 hb1
  have H1 := Lib.hid (And.intro (belows HV.out.1 hbb) (And.intro (HV.out.2.past hbb HV.out.2.inside) (And.intro hul1 hb1)))
  clear b1 hbw hb1 hul1 hbb y0
  go_upto_region 4 with fail
  rw [← hV1]
  clear hV1
  go_loopw [34] (fun vi wr => ∃ i : Nat, vi = .int .i64 (i : Int) ∧ i ≤ 2 ∧ Below V1.heap.size V1 wr ∧ (1 ≤ i → ∀ u ∈ a, u.key = []) ∧ (2 ≤ i → ∀ u ∈ b, u.key = [])) (fun vi _ => 2 - (intOf vi).toNat)
  case atStart => exact ⟨0, rfl, by omega, Below.refl _ _, fun h => absurd h (by omega), fun h => absurd h (by omega)⟩
  case round =>
    obtain ⟨i, rfl, hi2, hbr, hka, hkb⟩ := hrel
    by_cases hlt : i < 2
    · obtain ⟨s, hs⟩ : ∃ s, ([⟨A, k, a⟩, ⟨A', k', b⟩] : List (Rw Up))[i]? = some s := ⟨_, List.getElem?_eq_getElem (by simpa using hlt)⟩
      obtain ⟨bL, oL, hAL, hBL, hcL⟩ := H1.out.2.2.1.head (by simp)
      have c0 := (hbr.cell (p := ⟨bL, oL + i * 1 + 0, none⟩) hBL).trans (hcL i s hs 0 _ rfl)
      obtain ⟨rfl, rfl⟩ : w1.heap.size = bL ∧ 0 = oL := by injection hAL with e; injection e with e1 e2; exact ⟨e1, e2⟩
      simp only [Nat.zero_add, Nat.mul_one, Nat.add_zero] at c0
      have hus : Ups V1 V1.heap.size s.A s.l := H1.out.2.2.1.each_ s (List.mem_of_getElem? hs)
      have hsl : s.l.length ≤ 1048576 := by
        have hsm := List.mem_of_getElem? hs
        simp only [List.mem_cons, List.not_mem_nil, or_false] at hsm
        rcases hsm with rfl | rfl
        · show a.length ≤ 1048576; omega
        · show b.length ≤ 1048576; omega
      have q0 : (0 : Int) ≤ (i : Int) := by omega
      have q1 : (i : Int) < 2 := by omega
      have HR := Lib.hid (And.intro hbr (And.intro hka (And.intro hkb (And.intro hus (And.intro hs hlt)))))
      obtain ⟨sA, sc, sl⟩ := s
      simp only [Rw.cells, List.getElem?_cons_zero] at c0
      clear hbr hka hkb hus hs hcL hBL hAL hi2 hlt
      go_wp2_with fail
      go_loopw [40] (fun vj wr2 => ∃ j : Nat, vj = .int .i64 (j : Int) ∧ j ≤ sl.length ∧ Below V1.heap.size V1 wr2 ∧ ∀ (q : Nat) (u : Up), q < j → sl[q]? = some u → u.key = []) (fun vj _ => sl.length - (intOf vj).toNat)
      case atStart => exact ⟨0, rfl, Nat.zero_le _, HR.out.1, fun q u h => absurd h (by omega)⟩
      case round =>
        obtain ⟨j, rfl, hj, hb2, hkj⟩ := hrel
        by_cases hjl : j < sl.length
        · obtain ⟨u, hu⟩ : ∃ u, sl[j]? = some u := ⟨_, List.getElem?_eq_getElem hjl⟩
          obtain ⟨bA, oA, hA, hB, hxs⟩ := lies_up HR.out.2.2.2.1.head (by omega)
          obtain ⟨e0, e1, e2, e3, e4, e5⟩ := ((hxs j u hu).past_ hb2 hB).six
          have q2 : (0 : Int) ≤ (j : Int) := by omega
          have q3 : (j : Int) < (sl.length : Int) := by omega
          have HJ := Lib.hid (And.intro hb2 (And.intro hkj hu))
          have hA' : sA = some ⟨bA, oA, none⟩ := hA
          rw [hA']
          clear hxs hB hA hA' hb2 hkj hu hj
          by_cases hk0 : u.key.length = 0
          · rw [hk0] at e0
            have HK := Lib.hid (List.eq_nil_of_length_eq_zero hk0)
            clear hk0
            go_wp2_with fail
            go_roundw
            case rel => exact ⟨j + 1, by go_num, by omega, HJ.out.1, fun q x hq hx => by
              rcases Nat.lt_or_ge q j with h | h
              · exact HJ.out.2.1 q x h hx
              · obtain rfl : q = j := by omega
                rw [HJ.out.2.2] at hx
                obtain rfl : u = x := by simpa using hx
                exact HK.out⟩
            case measure => simp [intOf]; omega
          · have q4 : (0 : Int) < (u.key.length : Int) := by omega
            clear hk0
            go_wp2_with fail
            go_ret
            exact ⟨rfl, H1.out.1.trans (HJ.out.1.mono H1.out.1.size)⟩
        · have hjn : j = sl.length := by omega
          subst hjn
          have hn1 : ¬ ((sl.length : Int) < (sl.length : Int)) := by omega
          have hall : ∀ u ∈ sl, u.key = [] := ups_bare fun q u hq => hkj q u ((List.getElem?_eq_some_iff.1 hq).1) hq
          have HA := Lib.hid (And.intro hb2 hall)
          clear hj hb2 hkj hjl hall
          go_wp2_with fail
          go_roundw
          case rel => exact ⟨i + 1, by go_num, by have := HR.out.2.2.2.2.2; omega, HA.out.1, fun _ => by
            rcases Nat.eq_zero_or_pos i with h0 | h0
            · have h1 := HR.out.2.2.2.2.1
              subst h0
              have h2 : (⟨A, k, a⟩ : Rw Up) = ⟨sA, sc, sl⟩ := by simpa using h1
              injection h2 with _ _ h3
              rw [h3]; exact HA.out.2
            · exact HR.out.2.1 h0, fun h2 => by
            have h0 : i = 1 := by have := HR.out.2.2.2.2.2; omega
            have h1 := HR.out.2.2.2.2.1
            subst h0
            have h3 : (⟨A', k', b⟩ : Rw Up) = ⟨sA, sc, sl⟩ := by simpa using h1
            injection h3 with _ _ h4
            rw [h4]; exact HA.out.2⟩
          case measure => simp [intOf]; have := HR.out.2.2.2.2.2; omega
    · have hi : i = 2 := by omega
      subst hi
      have hn1 : ¬ ((2 : Int) < 2) := by omega
      have HK := Lib.hid (And.intro (hka (by omega)) (hkb (by omega)))
      have hbw : Below w.heap.size w wr := H1.out.1.trans (hbr.mono H1.out.1.size)
      have hcall := pairs_any A k a A' k' b wr (H.out.1.1.keep hbw) H.out.1.2 (H.out.2.1.keep hbw) H.out.2.2 (by omega) (by omega) HM.out
      unfold PairsSays at hcall
      have HC := Lib.hid hcall
      have hot := H1.out.2.1.past hbr H1.out.2.1.inside
      have H2 := Lib.hid (And.intro hbw hot)
      clear hka hkb hbr hbw hcall hot hi2 hlt
      go_wp2_with fail
      refine HC.out.mono ?_
      rintro _ w2 ⟨Ap, kp, p, t2, E2, rfl, hE2, hp2, hu2, ho2, b2, _, _, hn2⟩
      obtain ⟨W2, hW2, hb2, hs2, _⟩ := tbox3 w2 t2
      have hbb := belows b2 hb2
      have hbw := belows H2.out.1 hbb
      have H3 := Lib.hid (And.intro hbw (And.intro (H2.out.2.past hbb H2.out.2.inside) (And.intro hE2 (And.intro hp2 (And.intro (hu2.keep hb2) (And.intro ho2 (Nat.le_trans hn2 HM.out)))))))
      have z1 := Lib.hid (at_any A k a t W2 (H.out.1.1.keep hbw) H.out.1.2 (by omega))
      unfold CtsSays at z1
      rw [show t.val = .agg #[.int .u64 (t.e : Int), .int .u64 (t.a : Int), .int .u64 (t.b : Int)] from rfl] at z1
      obtain ⟨d0, d1, d2⟩ := own3 (H2.out.2.past hbb H2.out.2.inside)
      clear hE2 hp2 hu2 ho2 b2 hn2 hb2 hs2 hbb hbw HC
      go_upto_region 14 with fail
      rw [← hW2]
      clear hW2
      go_wp2_with fail
      refine z1.out.mono ?_
      rintro _ w3 ⟨Ax, kx, x, rfl, hx3, hu3, ho3, b3, _⟩
      have H4 := Lib.hid (And.intro (belows H3.out.1 b3) (And.intro (H3.out.2.1.past b3 H3.out.2.1.inside) (And.intro hx3 (And.intro hu3 (And.intro ho3 (H3.out.2.2.2.2.1.keep b3))))))
      have z2 := Lib.hid (at_any A' k' b t w3 (H.out.2.1.keep H4.out.1) H.out.2.2 (by omega))
      unfold CtsSays at z2
      rw [show t.val = .agg #[.int .u64 (t.e : Int), .int .u64 (t.a : Int), .int .u64 (t.b : Int)] from rfl] at z2
      clear d0 d1 d2 hx3 hu3 ho3 b3 z1
      obtain ⟨d0, d1, d2⟩ := own3 H4.out.2.1
      go_wp2_with fail
      refine z2.out.mono ?_
      rintro _ w4 ⟨Ay, ky, y, rfl, hx4, hu4, ho4, b4, _⟩
      have H5 := Lib.hid (And.intro (belows H4.out.1 b4) (And.intro (H4.out.2.1.past b4 H4.out.2.1.inside) (And.intro hx4 (And.intro hu4 (And.intro ho4 (And.intro (H4.out.2.2.2.2.2.keep b4) (H4.out.2.2.2.1.keep b4)))))))
      have z3 := Lib.hid (at_any Ap kp p t w4 H5.out.2.2.2.2.2.1 H3.out.2.2.2.2.2.1 H3.out.2.2.2.2.2.2)
      unfold CtsSays at z3
      rw [show t.val = .agg #[.int .u64 (t.e : Int), .int .u64 (t.a : Int), .int .u64 (t.b : Int)] from rfl] at z3
      clear d0 d1 d2 hx4 hu4 ho4 b4 z2
      obtain ⟨d0, d1, d2⟩ := own3 H5.out.2.1
      go_wp2_with fail
      refine z3.out.mono ?_
      rintro _ w5 ⟨Ag, kg, got, rfl, hx5, hu5, ho5, b5, _⟩
      have H6 := Lib.hid (And.intro (belows H5.out.1 b5) (And.intro hx5 (And.intro hu5 (And.intro ho5 (And.intro (H5.out.2.2.2.2.2.2.keep b5) (H5.out.2.2.2.1.keep b5))))))
      clear d0 d1 d2 hx5 hu5 ho5 b5 z3
      obtain ⟨Ex, hEx⟩ : ∃ E, atE a t = E := ⟨_, rfl⟩
      obtain ⟨Ey, hEy⟩ : ∃ E, atE b t = E := ⟨_, rfl⟩
      obtain ⟨Eg, hEg⟩ : ∃ E, atE p t = E := ⟨_, rfl⟩
      have HE := Lib.hid (And.intro hEx (And.intro hEy hEg))
      rw [hEx, hEy, hEg]
      clear hEx hEy hEg
      by_cases h2 : E2 = 0
      case neg =>
        have t1 : (E2 != 0) = true := bne_iff_ne.2 h2
        clear h2
        go_wp2_with fail
        go_ret
        exact ⟨rfl, H6.out.1⟩
      have HP2 := Lib.hid (And.intro (H3.out.2.2.1.1 h2) (H3.out.2.2.2.1 h2))
      subst h2
      by_cases h3 : Ex = 0
      case neg =>
        have t1 : (Ex != 0) = true := bne_iff_ne.2 h3
        clear h3
        go_wp2_with fail
        go_ret
        exact ⟨rfl, H6.out.1⟩
      subst h3
      by_cases h4 : Ey = 0
      case neg =>
        have t1 : (Ey != 0) = true := bne_iff_ne.2 h4
        clear h4
        go_wp2_with fail
        go_ret
        exact ⟨rfl, H6.out.1⟩
      subst h4
      by_cases h5 : Eg = 0
      case neg =>
        have t1 : (Eg != 0) = true := bne_iff_ne.2 h5
        clear h5
        go_wp2_with fail
        go_ret
        exact ⟨rfl, H6.out.1⟩
      subst h5
      obtain ⟨hxs, hxl⟩ := counts_short H4.out.2.2.1 HE.out.1
      obtain ⟨hys, hyl⟩ := counts_short H5.out.2.2.1 HE.out.2.1
      have hxn : x.length ≤ 1048576 := by omega
      have hyn : y.length ≤ 1048576 := by omega
      have HX := Lib.hid (And.intro hxs hys)
      clear hxs hys hxl hyl
      obtain ⟨W, hW⟩ : ∃ W, W = w5 := ⟨_, rfl⟩
      subst hW
      go_wp2_with fail
      go_loopw [19, 93] (fun vl vi wr => ∃ (i : Nat) (L : List Up), vi = .int .i64 (i : Int) ∧ i ≤ x.length ∧ ThSt W wr L vl ∧ L.map Up.p = prodL (x.take i) y ∧ L.length = i * y.length) (fun _ vi _ => x.length - (intOf vi).toNat)
      case atStart => exact ⟨0, [], rfl, Nat.zero_le _, ⟨Below.refl _ _, World.ownsRow_nil _ _ _ _, fun u hu => by cases hu⟩, rfl, by simp⟩
      case round =>
        obtain ⟨i, L, rfl, hi, hst, hLp, hLn⟩ := hrel
        obtain ⟨AL, cL, rfl⟩ := hst.form
        by_cases hlt : i < x.length
        · obtain ⟨c, hx⟩ : ∃ c, x[i]? = some c := ⟨_, List.getElem?_eq_getElem hlt⟩
          obtain ⟨bX, oX, hAX, hBX, hcX⟩ := lies_ct H6.out.2.2.2.2.1.head (by omega)
          obtain ⟨e0, e1⟩ := ((hcX i c hx).past_ hst.below hBX).two
          obtain ⟨V7, hV7, hb7, hs7, ho7⟩ := ctbox wr c
          have hcm := List.mem_of_getElem? hx
          have q0 : (0 : Int) ≤ (i : Int) := by omega
          have q1 : (i : Int) < (x.length : Int) := by omega
          have hmul : i * y.length + y.length ≤ 1099511627776 := by
            have h1 : (i + 1) * y.length ≤ x.length * y.length := Nat.mul_le_mul hlt (Nat.le_refl _)
            have h2 : x.length * y.length ≤ 1048576 * 1048576 := Nat.mul_le_mul hxn hyn
            rw [Nat.add_mul, Nat.one_mul] at h1
            omega
          have HR := Lib.hid (And.intro (hst.past hb7) (And.intro hLp (And.intro hLn (And.intro hx (And.intro hmul hlt)))))
          have HB7 := Lib.hid (And.intro ho7 (show ∀ q, (Value.slice AL L.length cL).ownBlock = some q → q ≠ wr.heap.size from fun q e => by have := (hst.row.lt q e).2; omega))
          have HCk := Lib.hid (And.intro (H4.out.2.2.2.2.1 c hcm) (And.intro (HX.out.1 c hcm) (H6.out.2.2.2.2.1.each_ c hcm)))
          rw [hAX]
          clear hst hLp hLn hx hcX hBX hb7 hs7 ho7 hcm hmul hi hAX hlt
          go_upto_region 23 with fail
          rw [← hV7]
          clear hV7 e0 e1
          obtain ⟨BX, hBX⟩ : ∃ B, B = wr.heap.size := ⟨_, rfl⟩
          rw [← hBX] at HB7 ⊢
          clear hBX
          go_wp2_with fail
          go_loopw [19, 99] (fun vl vj w2 => ∃ (j : Nat) (M : List Up), vj = .int .i64 (j : Int) ∧ j ≤ y.length ∧ ThSt W w2 M vl ∧ M.map Up.p = prodL (x.take i) y ++ (y.take j).map (prodC c) ∧ M.length = i * y.length + j ∧ Own w2 BX 58 c.cells ∧ ∀ q, vl.ownBlock = some q → q ≠ BX) (fun _ vj _ => y.length - (intOf vj).toNat)
          case atStart => exact ⟨0, L, rfl, Nat.zero_le _, HR.out.1, by rw [HR.out.2.1]; simp, by rw [HR.out.2.2.1]; rfl, HB7.out.1, HB7.out.2⟩
          case round =>
            obtain ⟨j, M, rfl, hj, hst, hMp, hMn, hob, hne⟩ := hrel
            obtain ⟨AM, cM, rfl⟩ := hst.form
            by_cases hjl : j < y.length
            · obtain ⟨d, hy⟩ : ∃ d, y[j]? = some d := ⟨_, List.getElem?_eq_getElem hjl⟩
              obtain ⟨bY, oY, hAY, hBY, hcY⟩ := lies_ct H6.out.2.2.2.2.2.head (by omega)
              obtain ⟨e0, e1⟩ := ((hcY j d hy).past_ hst.below hBY).two
              obtain ⟨V8, hV8, hb8, hs8, ho8⟩ := ctbox wr d
              have hdm := List.mem_of_getElem? hy
              have hcn := HCk.out.1.dn
              have hdn := (H5.out.2.2.2.2.1 d hdm).dn
              have yt := fun W => Lib.hid (dtimes_any c.n d.n W hcn.1 hcn.2 hdn.1 hdn.2)
              have q2 : (0 : Int) ≤ (j : Int) := by omega
              have q3 : (j : Int) < (y.length : Int) := by omega
              have hob8 := hob.past hb8 hob.inside
              have HJ := Lib.hid (And.intro (hst.past hb8) (And.intro hMp (And.intro hMn (And.intro hy (And.intro hob8 (And.intro ho8 (And.intro hne (show ∀ q, (Value.slice AM M.length cM).ownBlock = some q → q ≠ wr.heap.size from fun q e => by have := (hst.row.lt q e).2; omega))))))))
              have HD := Lib.hid (And.intro (H5.out.2.2.2.2.1 d hdm) (And.intro (HX.out.2 d hdm) (H6.out.2.2.2.2.2.each_ d hdm)))
              obtain ⟨x0, x1⟩ := own2 hob8
              obtain ⟨x2, x3⟩ := own2 ho8
              obtain ⟨BY, hBYe⟩ : ∃ B, B = wr.heap.size := ⟨_, rfl⟩
              rw [← hBYe] at HJ x2 x3
              rw [hAY]
              clear hst hMp hMn hob hne hcY hBY hAY hb8 hs8 ho8 hdm hcn hdn hob8 hj hy
              go_upto_region 26 with fail
              rw [← hV8, ← hBYe]
              clear hV8 hBYe e0 e1
              obtain ⟨Et, hEt⟩ : ∃ E, fitE (c.n * d.n) = E := ⟨_, rfl⟩
              obtain ⟨Nt, hNt⟩ : ∃ N, fitN (c.n * d.n) = N := ⟨_, rfl⟩
              rw [hEt, hNt] at yt
              have HT := Lib.hid (And.intro hEt hNt)
              clear hEt hNt
              go_wp2_with fail
              refine (yt _).out.mono ?_
              rintro _ w9 ⟨rfl, b9⟩
              have h9 := HJ.out.1.past b9
              have H9 := Lib.hid (And.intro h9 (And.intro (HJ.out.2.2.2.2.1.past b9 HJ.out.2.2.2.2.1.inside) (HJ.out.2.2.2.2.2.1.past b9 HJ.out.2.2.2.2.2.1.inside)))
              have hbw9 : Below w.heap.size w w9 := H6.out.1.trans (h9.below.mono H6.out.1.size)
              have HB9 := Lib.hid hbw9
              clear b9 yt h9 hbw9 x0 x1 x2 x3
              by_cases ht : Et = 0
              case neg =>
                have t1 : (Et != 0) = true := bne_iff_ne.2 ht
                clear ht
                go_wp2_with fail
                go_ret
                exact ⟨rfl, HB9.out⟩
              have hNe : Nt = c.n * d.n := by rw [← HT.out.2]; exact fitE_zeroJ (HT.out.1.trans ht)
              have hNb : -9223372036854775808 ≤ Nt ∧ Nt ≤ 9223372036854775807 := by rw [← HT.out.2]; exact fitN_inJ _
              subst ht
              have HNT := Lib.hid (And.intro hNe hNb)
              clear hNe hNb
              have hbd : Below w9.heap.size w9 w9.drew := (Below.refl _ _).drew
              have hvc := Lib.hid (lies_of_vals ((HCk.out.2.2.row.past H9.out.1.below (Nat.le_refl _)).wide H9.out.1.below.size))
              have hvd := Lib.hid (lies_of_vals ((HD.out.2.2.row.past H9.out.1.below (Nat.le_refl _)).wide H9.out.1.below.size))
              have H10 := Lib.hid (And.intro (H9.out.1.past hbd) (And.intro (hvc.out.past hbd (Nat.le_refl _)) (hvd.out.past hbd (Nat.le_refl _))))
              have hrl : ∀ q, (Value.slice AM M.length cM).ownBlock = some q → q < w9.drew.heap.size := fun q e => (H9.out.1.row.lt q e).2
              have HRL := Lib.hid hrl
              have hcl8 := HCk.out.2.1
              have hdl8 := HD.out.2.1
              have hsz9 : BX < w9.drew.heap.size ∧ BY < w9.drew.heap.size := ⟨H9.out.2.1.inside, H9.out.2.2.inside⟩
              have HSZ := Lib.hid hsz9
              have hszW : W.heap.size ≤ w9.drew.heap.size := H9.out.1.below.size
              have HZW := Lib.hid hszW
              have HZ9 := Lib.hid (show w9.heap.size ≤ w9.drew.heap.size from Nat.le_refl _)
              have hMl : M.length + 1 ≤ 1099511627776 := by
                have h1 := HJ.out.2.2.1
                have h2 := HR.out.2.2.2.2.1
                omega
              have hS0 : Own w9.drew BX 58 c.cells ∧ Own w9.drew BY 58 d.cells := ⟨H9.out.2.1, H9.out.2.2⟩
              clear hbd hvc hvd hrl hsz9 hszW
              go_upto_region 29 with fail
              refine wp_region_held_drew (S := fun w' => Own w' BX 58 c.cells ∧ Own w' BY 58 d.cells) (by kernel_rfl) hS0 (fun hS => ?_)
              generalize w9.drew = X at *
              refine wpAnyH_take (i := 0) (v := .slice AM M.length cM) rfl (by kernel_rfl) (by kernel_rfl) (by kernel_rfl) (fun _ _ _ h => h) (Or.inl ⟨by rfl, fun w hSw => ?_⟩) hS ?_
              · go_simp
              simp only [Act.put, List.setIfInBounds_toArray, List.set_cons_zero, List.set_cons_succ]
              refine wpAnyH_take (i := 2) (v := .pointer (some ⟨BX, 0, none⟩)) rfl (by kernel_rfl) (by kernel_rfl) (by kernel_rfl) (fun _ _ _ h => h) (Or.inl ⟨by rfl, fun w hSw => ?_⟩) hS ?_
              · go_simp
              simp only [Act.put, List.setIfInBounds_toArray, List.set_cons_zero, List.set_cons_succ]
              refine wpAnyH_take (i := 3) (v := .slice c.rA c.row.length c.rc) rfl (by kernel_rfl) (by kernel_rfl) (by kernel_rfl) (fun _ _ _ h => h) (Or.inl ⟨by rfl, fun w hSw => ?_⟩) hS ?_
              · obtain ⟨y0, y1⟩ := hSw
                obtain ⟨n0, n1⟩ := own2 y0
                go_simp
              simp only [Act.put, List.setIfInBounds_toArray, List.set_cons_zero, List.set_cons_succ]
              refine wpAnyH_take (i := 5) (v := .pointer (some ⟨BY, 0, none⟩)) rfl (by kernel_rfl) (by kernel_rfl) (by kernel_rfl) (fun _ _ _ h => h) (Or.inl ⟨by rfl, fun w hSw => ?_⟩) hS ?_
              · go_simp
              simp only [Act.put, List.setIfInBounds_toArray, List.set_cons_zero, List.set_cons_succ]
              refine wpAnyH_take (i := 6) (v := .slice d.rA d.row.length d.rc) rfl (by kernel_rfl) (by kernel_rfl) (by kernel_rfl) (fun _ _ _ h => h) (Or.inl ⟨by rfl, fun w hSw => ?_⟩) hS ?_
              · obtain ⟨y0, y1⟩ := hSw
                obtain ⟨n0, n1⟩ := own2 y1
                go_simp
              simp only [Act.put, List.setIfInBounds_toArray, List.set_cons_zero, List.set_cons_succ]
              refine wpAnyH_take (i := 8) (v := .int .i64 Nt) rfl (by kernel_rfl) (by kernel_rfl) (by kernel_rfl) (fun _ _ _ h => h) (Or.inl ⟨by rfl, fun w hSw => ?_⟩) hS ?_
              · go_simp
              simp only [Act.put, List.setIfInBounds_toArray, List.set_cons_zero, List.set_cons_succ]
              refine wpAnyH_ready (rs := [1]) (by kernel_rfl) (by simp) ?_
              refine AllReadyH.cons rfl (fun K hK => ?_) AllReadyH.nil
              go_simp
              have hr0 := row_newV X
              refine hK.out _ _ ⟨hS.1.more _, hS.2.more _⟩ (fun hS1 => ?_)
              clear hK K
              try simp only [Act.put, List.setIfInBounds_toArray, List.set_cons_zero, List.set_cons_succ]
              refine wpAnyH_ready (rs := [4]) (by kernel_rfl) (by simp) ?_
              refine AllReadyH.cons rfl (fun K hK => ?_) AllReadyH.nil
              refine step_append_anyS (size := 3) (cells := Vl.cells) (l := c.row) (A := c.rA) (B := w9.heap.size) (X.alloc (.cells #[] 122)) rfl (.tmp 114) (.tmp 116) 47 122 rfl i1 _ 32 HV1.out.1 HV1.out.2.1 HV1.out.2.2.1 HV1.out.2.2.2.1 HV1.out.2.2.2.2 rfl (by decide) (fun _ => rfl) vl_one X.heap.size (.slice (some ⟨X.heap.size, 0, none⟩) 0 0) 0 [] (by simp [Act.eval, Act.put]) hr0 c.rc (by simp [Act.eval, Act.put]) (lies_alloc H10.out.2.1 HZ9.out) (by unfold maxLen; omega) (by omega) (by simp) ?_
              intro v1 W1 hr1 hb1 _ _
              have hb1X : Below X.heap.size X W1 := ((Below.refl _ _).alloc (Nat.le_refl _) _).trans hb1
              refine hK.out _ _ ⟨hS.1.past hb1X HSZ.out.1, hS.2.past hb1X HSZ.out.2⟩ (fun hS2 => ?_)
              clear hK K
              try simp only [Act.put, List.setIfInBounds_toArray, List.set_cons_zero, List.set_cons_succ]
              refine wpAnyH_ready (rs := [7]) (by kernel_rfl) (by simp) ?_
              refine AllReadyH.cons rfl (fun K hK => ?_) AllReadyH.nil
              refine step_append_anyS (size := 3) (cells := Vl.cells) (l := d.row) (A := d.rA) (B := X.heap.size) W1 rfl (.tmp 117) (.tmp 119) 47 122 rfl i1 _ 32 HV1.out.1 HV1.out.2.1 HV1.out.2.2.1 HV1.out.2.2.2.1 HV1.out.2.2.2.2 rfl (by decide) (fun _ => rfl) vl_one X.heap.size v1 _ _ (by simp [Act.eval, Act.put]) hr1 d.rc (by simp [Act.eval, Act.put]) ((H10.out.2.2.wide HZ9.out).past hb1X (Nat.le_refl _)) (by unfold maxLen; omega) (by omega) hb1X.size ?_
              intro v2 W2 hr2 hb2 _ _
              have hb2X : Below X.heap.size X W2 := hb1X.trans hb2
              obtain ⟨R, hR⟩ : ∃ R, c.row ++ d.row = R := ⟨_, rfl⟩
              have hRl : R.length = c.row.length + d.row.length := by rw [← hR, List.length_append]
              obtain ⟨A2, c2, rfl, _, _, hv2⟩ := vals_of_own (l := R) (n := 0 + c.row.length + d.row.length) (by omega) (by rw [← hR, List.flatMap_append]; simpa using hr2)
              have hlo2 : ∀ b o, A2 = some (⟨b, o, none⟩ : Addr) → X.heap.size ≤ b := fun b o e => by subst e; exact (hr2.lt b rfl).1
              have hvo : ∀ v ∈ R, VOk v := fun v hv => by
                rw [← hR] at hv
                rcases List.mem_append.1 hv with hv | hv
                · exact HCk.out.1.rs v hv
                · exact HD.out.1.rs v hv
              have HR2 := Lib.hid (And.intro hR (And.intro (show R.length ≤ 16 by omega) (And.intro hv2 (And.intro hlo2 hvo))))
              have hS3 : Own W2 BX 58 c.cells ∧ Own W2 BY 58 d.cells := ⟨hS.1.past hb2X HSZ.out.1, hS.2.past hb2X HSZ.out.2⟩
              have HB2 := Lib.hid hb2X
              refine hK.out _ _ hS3 (fun _ => ?_)
              clear hK K hr1 hr2 hb1 hb2 hb1X hb2X hR hRl hv2 hlo2 hvo hr0
              try simp only [Act.put, List.setIfInBounds_toArray, List.set_cons_zero, List.set_cons_succ]
              refine wpAnyH_ready (rs := [9]) (by kernel_rfl) (by simp) ?_
              refine AllReadyH.cons rfl (fun K hK => ?_) AllReadyH.nil
              go_simp
              refine hK.out _ _ hS3 (fun _ => ?_)
              clear hK K
              try simp only [Act.put, List.setIfInBounds_toArray, List.set_cons_zero, List.set_cons_succ]
              refine wpAnyH_ready (rs := [10]) (by kernel_rfl) (by simp) ?_
              refine AllReadyH.cons rfl (fun K hK => ?_) AllReadyH.nil
              go_simp
              refine hK.out _ _ ⟨hS3.1.more _, hS3.2.more _⟩ (fun _ => ?_)
              clear hK K
              obtain ⟨u, hu⟩ : ∃ u : Up, u = ⟨none, 0, [], A2, c2, R, ⟨0, 0, 0⟩, Nt⟩ := ⟨_, rfl⟩
              obtain ⟨W3, hW3⟩ : ∃ W3, W3 = W2.alloc (.cells #[.slice none 0 0, .slice A2 R.length c2, .int .u64 0, .int .u64 0, .int .u64 0, .int .i64 Nt] 49) := ⟨_, rfl⟩
              have hb23 : Below W2.heap.size W2 W3 := by rw [hW3]; exact (Below.refl _ _).alloc (Nat.le_refl _) _
              have hb3X : Below X.heap.size X W3 := HB2.out.trans (hb23.mono HB2.out.size)
              have hlu : Lies 6 Up.cells W3 W3.heap.size (some ⟨W2.heap.size, 0, none⟩) [u] := by
                have h := up_made W2 u
                rw [hu] at h
                rw [hW3, hu]
                simpa using h
              have hstX := H10.out.1.past hb3X
              have hs3 : W.heap.size ≤ W3.heap.size := hstX.below.size
              rw [← hW3]
              try simp only [Act.put, List.setIfInBounds_toArray, List.set_cons_zero, List.set_cons_succ]
              refine wpAnyH_ready (rs := [11]) (by kernel_rfl) (by simp) ?_
              refine AllReadyH.cons rfl (fun K hK => ?_) AllReadyH.nil
              refine step_append_anyS (size := 6) (cells := Up.cells) (l := [u]) (A := some ⟨W2.heap.size, 0, none⟩) (B := W3.heap.size) W3 rfl (.tmp 113) (.tmp 123) 22 49 rfl i0 _ 80 HI.out.1 HI.out.2.1 HI.out.2.2.1 HI.out.2.2.2.1 HI.out.2.2.2.2 rfl (by decide) ucells_len ucells_one W.heap.size (.slice AM M.length cM) M.length (M.flatMap Up.cells) (by simp [Act.eval, Act.put]) hstX.row 1 (by simp [Act.eval, Act.put]) hlu (by simp only [List.length_singleton]; unfold maxLen; omega) (by simp only [List.length_singleton]; omega) hs3 ?_
              intro v4 W4 hr4 hb4 hob4 hg4
              have hk4 : KeptK W3 W4 (fun q => (Value.slice AM M.length cM).ownBlock = some q) := KeptK.of_grown hg4 (fun _ e => e)
              have hS4 : Own W4 BX 58 c.cells ∧ Own W4 BY 58 d.cells := ⟨hk4.own (hS3.1.past hb23 hS3.1.inside) (fun e => HJ.out.2.2.2.2.2.2.1 _ e rfl), hk4.own (hS3.2.past hb23 hS3.2.inside) (fun e => HJ.out.2.2.2.2.2.2.2 _ e rfl)⟩
              have hnew := ThSt.next hstX (u := u) (by rw [hu]; exact ⟨Vals.nil_, (HR2.out.2.2.1.past hb23 (Nat.le_refl _)).wide hb23.size⟩) (by
                rw [hu]
                exact ⟨Nat.zero_le _, by show R.length ≤ 140737488351232; have := HR2.out.2.1; omega, fun v hv => (by cases hv), HR2.out.2.2.2.2, HNT.out.2⟩) (by
                rw [hu]
                exact ⟨fun hp => absurd hp (by simp), fun hp b o e e' => by have h1 := HR2.out.2.2.2.1 b o e; have h2 := HRL.out b e'; omega⟩) hg4 hob4 (by simpa using hr4)
              have hup : u.p = prodC c d := by
                rw [hu]
                show ((⟨[], R, ⟨0, 0, 0⟩⟩ : Uk), Nt) = (⟨[], c.row ++ d.row, ⟨0, 0, 0⟩⟩, c.n * d.n)
                rw [HR2.out.1, HNT.out.1]
              have hne4 : ∀ q, v4.ownBlock = some q → q ≠ BX := fun q e => by
                rcases hob4 with h | h
                · rw [h] at e; exact HJ.out.2.2.2.2.2.2.1 q e
                · rw [h] at e; injection e with e; have h1 := HSZ.out.1; have h2 := hb3X.size; omega
              have HN4 := Lib.hid (And.intro hnew (And.intro hup (And.intro hne4 hS4)))
              refine hK.out _ _ hS4 (fun _ => ?_)
              clear hK K hr4 hb4 hob4 hg4 hk4 hnew hup hne4 hlu hstX hb23 hb3X hs3
              try simp only [Act.put, List.setIfInBounds_toArray, List.set_cons_zero, List.set_cons_succ]
              refine wpAnyH_ready (rs := [12]) (by kernel_rfl) (by simp) ?_
              refine AllReadyH.cons rfl (fun K hK => ?_) AllReadyH.nil
              go_simp
              refine hK.out _ _ hS4 (fun _ => ?_)
              clear hK K
              try simp only [Act.put, List.setIfInBounds_toArray, List.set_cons_zero, List.set_cons_succ]
              refine wpAnyH_done (by kernel_rfl) ?_ _
              clear hS4 hS3 hS hS0
              go_wp2_with fail
              go_roundw
              case rel => exact ⟨j + 1, M ++ [u], by go_num, by omega, HN4.out.1, by rw [List.map_append, HJ.out.2.1, prodC_snoc HJ.out.2.2.2.1, List.map_cons, List.map_nil, HN4.out.2.1, List.append_assoc], by rw [List.length_append, HJ.out.2.2.1, List.length_singleton, Nat.add_assoc], HN4.out.2.2.2.1, HN4.out.2.2.1⟩
              case measure => simp [intOf]; omega
            · have hjn : j = y.length := by omega
              subst hjn
              have hn1 : ¬ ((y.length : Int) < (y.length : Int)) := by omega
              rw [List.take_length, ← prodL_snoc HR.out.2.2.2.1] at hMp
              have HN := Lib.hid (And.intro hst (And.intro hMp hMn))
              clear hst hMp hMn hob hne hj hjl
              go_wp2_with fail
              go_roundw
              case rel => exact ⟨i + 1, M, by go_num, by have := HR.out.2.2.2.2.2; omega, HN.out.1, HN.out.2.1, by rw [HN.out.2.2, Nat.add_mul, Nat.one_mul]⟩
              case measure => simp [intOf]; have := HR.out.2.2.2.2.2; omega
        · have hin : i = x.length := by omega
          subst hin
          rw [List.take_length] at hLp
          have hn1 : ¬ ((x.length : Int) < (x.length : Int)) := by omega
          obtain ⟨_, huL⟩ := hst.ups
          have hLl : L.length ≤ 1099511627776 := by
            have h2 : x.length * y.length ≤ 1048576 * 1048576 := Nat.mul_le_mul hxn hyn
            omega
          have z4 := Lib.hid (at_any AL cL L ⟨0, 0, 0⟩ wr huL (fun u hu => (hst.each_ u hu).2.1) hLl)
          unfold CtsSays at z4
          rw [show (⟨0, 0, 0⟩ : Tm).val = .agg #[.int .u64 0, .int .u64 0, .int .u64 0] from rfl] at z4
          have HN := Lib.hid (And.intro hst.below hLp)
          clear hst hLp hLn huL hLl hi hlt
          go_wp2_with fail
          refine z4.out.mono ?_
          rintro _ w8 ⟨Aw, kw, want, rfl, hw8, hu8, ho8, b8, _⟩
          obtain ⟨Ew, hEw⟩ : ∃ E, atE L ⟨0, 0, 0⟩ = E := ⟨_, rfl⟩
          have hb8 : Below W.heap.size W w8 := belows HN.out.1 b8
          have H8 := Lib.hid (And.intro (H6.out.1.trans (hb8.mono H6.out.1.size)) (And.intro hw8 (And.intro hu8 (And.intro ho8 (And.intro (H6.out.2.2.1.keep hb8) hEw)))))
          rw [hEw]
          clear hw8 hu8 ho8 b8 hb8 hEw z4
          by_cases h8 : Ew = 0
          case neg =>
            have t1 : (Ew != 0) = true := bne_iff_ne.2 h8
            clear h8
            go_wp2_with fail
            go_ret
            exact ⟨rfl, H8.out.1⟩
          subst h8
          have hfin := there_same HK.out.1 HK.out.2 HP2.out.1.2.2.1 HP2.out.1.1 HP2.out.1.2.1 HP2.out.2.1 H4.out.2.2.1 HE.out.1 H5.out.2.2.1 HE.out.2.1 H6.out.2.1 HE.out.2.2 HN.out.2 H8.out.2.1 H8.out.2.2.2.2.2
          have hwl : want.length ≤ 1099511627776 := by
            have h1 := (counts_short H8.out.2.1 H8.out.2.2.2.2.2).2
            have h2 : L.length = (L.map Up.p).length := (List.length_map ..).symm
            have h3 : (prodL x y).length ≤ 1048576 * 1048576 := Nat.le_trans (prodL_len x y) (Nat.mul_le_mul hxn hyn)
            rw [HN.out.2] at h2
            omega
          have hgl : got.length ≤ 1099511627776 := by
            have h1 := congrArg List.length hfin
            rw [List.length_map, List.length_map] at h1
            omega
          have ys := Lib.hid (same_yes Aw Ag kw kg want got w8 H8.out.2.2.1 H8.out.2.2.2.2.1 H8.out.2.2.2.1 H6.out.2.2.2.1 hwl hgl hfin)
          clear hfin hwl hgl
          go_wp2_with fail
          refine ys.out.mono ?_
          rintro _ w9 ⟨rfl, b9⟩
          have HF := Lib.hid (belows H8.out.1 b9)
          clear b9 ys
          go_wp2_with fail
          go_ret
          exact ⟨rfl, HF.out⟩
end Go.Proofs.YtjffohpdjicfpaaGreat
namespace Go.Proofs.YtjffohpdjicfpaaGreat
open Go
variable {H : Type}
theorem bulk_pos (d : DataW H) : 1 ≤ Rows.uptoBulk d := by
  cases d with
  | lit l => cases l <;> simp [Rows.uptoBulk]
  | nil => simp [Rows.uptoBulk]
  | ptr d => simp [Rows.uptoBulk]
  | slice es sp => simp [Rows.uptoBulk]
  | agg ps => simp [Rows.uptoBulk]
  | iface t d => simp [Rows.uptoBulk]
  | map es => simp [Rows.uptoBulk]
  | held h => simp [Rows.uptoBulk]
end Go.Proofs.YtjffohpdjicfpaaGreat
