/- Part 13 of the texts on which SpineOwn rests: facts and contracts. -/
import Derived.Test.YtgalemkjgaiphaaGreatSpineOwnM12
namespace Go.Proofs.YtgalemkjgaiphaaGreat
open Go Go.RowKit

theorem sp_box2 (w : World) (s : Sp) : ∃ V, V = (w.alloc (.cells #[.slice s.sA s.f.length s.sc, .slice s.lA s.L.length s.lc] 25)).alloc (.cells #[.slice none 0 0, .slice none 0 0] 25) ∧ Below w.heap.size w V ∧ V.heap.size = w.heap.size + 2 ∧ Own V w.heap.size 25 s.cells ∧ Own V (w.heap.size + 1) 25 [.slice none 0 0, .slice none 0 0] := by
  refine ⟨_, rfl, ((Below.refl _ _).alloc (Nat.le_refl _) _).alloc (by simp) _, by simp, (Own.made w 25 s.cells).more _, ?_⟩
  exact own_next (w := w.alloc (.cells #[.slice s.sA s.f.length s.sc, .slice s.lA s.L.length s.lc] 25)) (l := [.slice none 0 0, .slice none 0 0]) (by simp)
structure CpMid (s : Sp) (V wx : World) (P : Nat) (A1 A2 : Option Addr) : Prop where
  own : Own wx P 25 [.slice A1 s.f.length s.f.length, .slice A2 s.L.length s.L.length]
  since : Times wx wx.heap.size A1 s.f
  lo1 : LoT V.heap.size A1
  lev : 0 < s.L.length → ∃ G, A2 = some ⟨G, 0, none⟩ ∧ Own wx G 43 (s.L.flatMap Lv.cells) ∧ V.heap.size ≤ G ∧ G ≠ P ∧ OfT (fun b => b = G) A1 s.f.length
  nil : s.L = [] → A2 = none
  below : Below V.heap.size V wx
  hp : V.heap.size ≤ P
theorem cp_mid {s : Sp} {V w1 W2 w2 X : World} {P : Nat} {A1 A2 : Option Addr} (hb1 : Bl V w1) (v1 : Times w1 w1.heap.size A1 s.f) (n1 : ∀ b o, A1 = some (⟨b, o, none⟩ : Addr) → V.heap.size ≤ b ∧ b < w1.heap.size ∧ b ≠ P) (hW : Below w1.heap.size w1 W2) (b2 : Below W2.heap.size W2 w2)
    (nil2 : s.L = [] → A2 = none) (own2_ : 0 < s.L.length → A2 = some ⟨W2.heap.size, 0, none⟩ ∧ Own w2 W2.heap.size 43 (s.L.flatMap Lv.cells)) (hX : KeptK w2 X (fun b => b = P)) (hPn : 0 < s.L.length → P ≠ W2.heap.size) (hPl : V.heap.size ≤ P) (ho : Own X P 25 [.slice A1 s.f.length s.f.length, .slice A2 s.L.length s.L.length]) :
    CpMid s V X P A1 A2 := by
  have b12 := belows hW b2
  have v2 := tms_keep v1 b12
  refine ⟨ho, times_kept v2 (fun _ b o e => (n1 b o e).2.2) hX, fun b o e => (n1 b o e).1, fun hp => ?_, nil2, ?_, hPl⟩
  · obtain ⟨h1, h2⟩ := own2_ hp
    refine ⟨_, h1, hX.own h2 (fun e => hPn hp e.symm), Nat.le_trans hb1.below.size hW.size, fun e => hPn hp e.symm, fun _ b o e => ?_⟩
    have := (n1 b o e).2.1
    have := hW.size
    intro e2
    omega
  · have hbb : Below V.heap.size V w2 := belows hb1.below b12
    exact ⟨hX.os.trans hbb.os, hX.tape.trans hbb.tape, hX.output.trans hbb.output, Nat.le_trans hbb.size hX.size, fun k hk => (hX.block k (Nat.lt_of_lt_of_le hk hbb.size) (fun e => by omega)).trans (hbb.block k hk)⟩
theorem cp_out {s : Sp} {V wc : World} {P : Nat} {A1 A2 : Option Addr} (ok : SpOk s) (hL : s.L = []) (hm : CpMid s V wc P A1 A2) (Q : Nat) (hQ : Q < V.heap.size) : CopyS s ⟨A1, s.f.length, s.f, none, 0, []⟩ V.heap.size ((wc.setCell ⟨Q, 0, none⟩ (.slice A1 s.f.length s.f.length)).setCell ⟨Q, 1, none⟩ (.slice none 0 0)) := by
  have h0 : CopyS s ⟨A1, s.f.length, s.f, none, 0, []⟩ V.heap.size wc := ⟨rfl, by rw [hL], ⟨hm.since, ⟨Lies.nil_, fun l hl => (by cases hl)⟩⟩, ⟨⟨ok.f.n, Nat.le_refl _, Nat.le_trans ok.f.le ok.f.c_⟩, by show 0 ≤ _; omega, Nat.le_refl _, Nat.zero_le _, fun l hl => (by cases hl)⟩, ⟨hm.lo1, lot_nil _, fun l hl => (by cases hl)⟩, World.ownsRow_nil _ _ _ _, fun _ b o e hs => (by cases hs), fun l hl => (by cases hl)⟩
  exact h0.kept (KeptK.set_ (S := fun b => b = Q) (KeptK.set_ (S := fun b => b = Q) (KeptK.refl _ _) (.inl rfl) _) (.inl rfl) _) hQ
set_option maxRecDepth 100000 in
set_option maxHeartbeats 12800000 in
theorem copyS_any (s : Sp) (w : World) (hs : SpIn w w.heap.size s) (ok : SpOk s) (hg : SpGood s.f s.L) (hwt : wtS s.L ≤ 274877906944) :
    Calls Tryz.prog 18 #[s.val] w (CopiedS s w) := by
  obtain ⟨V, hV, hvb, hvs, hvo, hvz⟩ := sp_box2 w s
  have hin := hs.keep hvb
  have hfn := ok.f.n
  have hLn := ok.n
  have y1 := fun W (h : Bl V W) => Lib.hid (listT_times s.sA s.sc s.f W (hin.keep h).since (by omega))
  have y2 := fun W (h : Bl V W) => Lib.hid (listS_any s.lA s.lc s.L W (hin.keep h).lev.head (by omega))
  have H := Lib.hid (And.intro hs (And.intro ok (And.intro hg (And.intro hwt (And.intro hvb (And.intro hvo hvz))))))
  have hself := Bl.refl V
  have hbs : V.heap.size ≤ V.heap.size := Nat.le_refl _
  have HS := Lib.hid (fun W (h : Bm V.heap.size V W) => own2 (hvo.past h hvo.inside))
  obtain ⟨d0, d1⟩ := own2 hvo
  rw [show s.val = .agg #[.slice s.sA s.f.length s.sc, .slice s.lA s.L.length s.lc] from rfl]
  have HP := Lib.hid (show ∀ x w' (s' : Sp), x = .returned s'.val → CopyS s s' w.heap.size w' → Below w.heap.size w w' → CopiedS s w x w' from fun x w' s' h1 h2 h3 => ⟨s', h1, h2, h3⟩)
  clear hs ok hg hwt hvb hvs hvo hvz hin hfn
  go_enter Tryz.func18, Tryz.ntmps18
  go_upto_region 1 with fail
  rw [← hV]
  clear hV
  go_cut [3] (fun s3 wx => ∃ (P : Nat) (A1 A2 : Option Addr), s3 = .pointer (some ⟨P, 0, none⟩) ∧ CpMid s V wx P A1 A2)
  case first =>
    go_region_held3 (fun w' => Bm V.heap.size V w' ∧ (w'.cell? ⟨w.heap.size, 0, none⟩ = some (.slice s.sA s.f.length s.sc) ∧ w'.cell? ⟨w.heap.size, 1, none⟩ = some (.slice s.lA s.L.length s.lc)))
      ((refine (fun h => And.intro h (HS.out _ h)) ?_; repeat (first | with_reducible exact Bm.of hb2 hbs | with_reducible exact Bm.of hb1 hbs | with_reducible exact Bm.of hself hbs | with_reducible refine Bm.set ?_ (by first | exact Nat.le_refl _ | exact hb1.below.size | (have z6 := hb1.below.size; simp; omega) | (have z6 := hb2.below.size; simp; omega)) _ _ | with_reducible refine Bm.more ?_ hbs _ | with_reducible refine Bm.drew ?_)))
      (first | (go_at_call 42; refine (y2 _ ?_).out.mono ?_; (repeat (first | with_reducible exact hb1 | with_reducible refine Bl.more ?_ _ | with_reducible refine Bl.drew ?_)); rintro _ w2 ⟨A2, rfl, nil2, own2_, b2⟩; have hb2 : Bl V w2 := Bl.call (by repeat (first | with_reducible exact hb1 | with_reducible refine Bl.more ?_ _ | with_reducible refine Bl.drew ?_)) b2; (try (have oz : Own w2 V.heap.size 25 [.slice none 0 0, .slice none 0 0] := oz1.past b2 (by have := oz1.inside; simpa using this); obtain ⟨e0, e1⟩ := own2 oz; have f0 := oz.open_ 0; have f1 := oz.open_ 1)); (try (have oz : Own w2 w1.heap.size 25 [.slice none 0 0, .slice none 0 0] := (Own.past (by first | exact Own.made _ _ [.slice none 0 0, .slice none 0 0] | exact own_drewKS (Own.made _ _ [.slice none 0 0, .slice none 0 0])) b2 (by simp)); obtain ⟨e0, e1⟩ := own2 oz; have f0 := oz.open_ 0; have f1 := oz.open_ 1))) | (go_at_call 30; refine (y1 _ ?_).out.mono ?_; (repeat (first | with_reducible exact hself | with_reducible refine Bl.more ?_ _ | with_reducible refine Bl.drew ?_)); rintro _ w1 ⟨A1, rfl, v1, n1, b1⟩; have hb1 : Bl V w1 := Bl.call (by repeat (first | with_reducible exact hself | with_reducible refine Bl.more ?_ _ | with_reducible refine Bl.drew ?_)) b1; (try (have oz1 : Own w1 V.heap.size 25 [.slice none 0 0, .slice none 0 0] := (Own.past (by first | exact Own.made _ _ [.slice none 0 0, .slice none 0 0] | exact own_drewKS (Own.made _ _ [.slice none 0 0, .slice none 0 0])) b1 (by simp))))))
    all_goals
      go_wp2_with fail
      go_meet
    · refine ⟨_, A1, A2, rfl, cp_mid hb1 v1 (fun b o e => ⟨(n1 b o e).1, (n1 b o e).2, ?_⟩) (Below.refl _ _) b2 (fun h => (nil2 h).1) own2_ ((KeptK.refl _ _).alloc _) (fun hp => ?_) hb2.below.size (Own.made w2 _ [.slice A1 s.f.length s.f.length, .slice A2 s.L.length s.L.length])⟩
      · have := (n1 b o e).2; have := b2.size; omega
      · have := (own2_ hp).2.inside; omega
    · refine ⟨_, A1, A2, rfl, cp_mid hb1 v1 (fun b o e => ⟨(n1 b o e).1, (n1 b o e).2, ?_⟩) ((Below.refl _ _).alloc (Nat.le_refl _) _) b2 (fun h => (nil2 h).1) own2_ (KeptK.set_ (S := fun b => b = w1.heap.size) (KeptK.set_ (S := fun b => b = w1.heap.size) (KeptK.refl _ _) (.inl rfl) _) (.inl rfl) _) (fun hp => (by simp)) hb1.below.size ((oz.set_ 0 _).set_ 1 _)⟩
      have := (n1 b o e).2; omega
    · refine ⟨_, A1, A2, rfl, cp_mid hb1 v1 (fun b o e => ⟨?_, (n1 b o e).2, ?_⟩) (Below.refl _ _) b2 (fun h => (nil2 h).1) own2_ (KeptK.set_ (S := fun b => b = V.heap.size) (KeptK.set_ (S := fun b => b = V.heap.size) (KeptK.refl _ _) (.inl rfl) _) (.inl rfl) _) (fun hp => ?_) (Nat.le_refl _) ((oz.set_ 0 _).set_ 1 _)⟩
      · have := (n1 b o e).1; simp at this; omega
      · have := (n1 b o e).1; simp at this; omega
      · have := oz1.inside; omega
  case rest =>
    obtain ⟨P, A1, A2, rfl, hm⟩ := hcut
    have hbv := hm.below
    have hP := hm.hp
    have HM := Lib.hid hm
    have hvz := H.out.2.2.2.2.2.2
    have hzi := hvz.inside
    obtain ⟨p0, p1⟩ := own2 hm.own
    by_cases hL : s.L = []
    · have hA2 := hm.nil hL
      have hL0 : s.L.length = 0 := by rw [hL]; rfl
      rw [hA2, hL0] at p1
      have oz := hvz.past hbv hzi
      obtain ⟨z0, z1⟩ := own2 oz
      have f0 := oz.open_ 0
      have f1 := oz.open_ 1
      have hX := (oz.set_ 0 (.slice A1 s.f.length s.f.length)).set_ 1 (.slice none 0 0)
      obtain ⟨x0, x1⟩ := own2 hX
      have HX := Lib.hid (cp_out H.out.2.1 hL hm (w.heap.size + 1) hzi)
      have HB := Lib.hid (show Below w.heap.size w ((wc.setCell ⟨w.heap.size + 1, 0, none⟩ (.slice A1 s.f.length s.f.length)).setCell ⟨w.heap.size + 1, 1, none⟩ (.slice none 0 0)) from ((H.out.2.2.2.2.1.trans (hbv.mono H.out.2.2.2.2.1.size)).setCell (p := ⟨w.heap.size + 1, 0, none⟩) (Nat.le_succ _) _).setCell (p := ⟨w.heap.size + 1, 1, none⟩) (Nat.le_succ _) _)
      have hsz := H.out.2.2.2.2.1.size
      clear hm hbv hP hvz hzi hL hA2 hL0 oz hX y1 y2
      go_wp2_with fail
      go_loopw [16] (fun v16 wr => v16 = .int .i64 0 ∧ wc = wr) (fun _ _ => 0)
      case atStart => exact ⟨rfl, rfl⟩
      case round =>
      obtain ⟨rfl, rfl⟩ := hrel
      go_wp2_with fail
      exact bodyPost_ret (v := .agg #[.slice A1 s.f.length s.f.length, .slice none 0 0]) (by simp [results, Tryz.results18, go_sem, x0, x1]) rfl (HP.out _ _ ⟨A1, s.f.length, s.f, none, 0, []⟩ rfl (HX.out.low hsz) HB.out)
    have hn : 0 < s.L.length := List.length_pos_iff.2 hL
    obtain ⟨G, rfl, oG, hG, hGP, hAG⟩ := hm.lev hn
    have HG := Lib.hid (And.intro hG (And.intro hGP hAG))
    have HC0 := Lib.hid (show CpSt wc wc G 0 s.L [] from ⟨rfl, rfl, oG, fun l hl => (by cases hl), KeptK.refl _ _⟩)
    clear hm hbv hP hvz hzi oG hG hGP hAG hL y1 y2 hself
    go_wp2_with fail
    go_loopw [16] (fun v16 wr => ∃ (k : Nat) (M : List Lv), v16 = .int .i64 (k : Int) ∧ k ≤ s.L.length ∧ CpSt wc wr G k s.L M)
      (fun v16 _ => s.L.length - (intOf v16).toNat)
    case atStart => exact ⟨0, [], rfl, by omega, HC0.out⟩
    case round =>
      obtain ⟨k, M, rfl, hk, hst⟩ := hrel
      have hbw : Below V.heap.size V wr := HM.out.below.trans (hst.kept.below (fun b e => by rw [e]; exact HG.out.1) HM.out.below.size)
      have oP := hst.kept.own HM.out.own (fun e => HG.out.2.1 e.symm)
      obtain ⟨p0, p1⟩ := own2 oP
      have HST := Lib.hid (And.intro hst (And.intro hbw oP))
      by_cases hlt : k < s.L.length
      · obtain ⟨l, hl⟩ : ∃ l, s.L[k]? = some l := ⟨_, List.getElem?_eq_getElem hlt⟩
        have hlm := List.mem_of_getElem? hl
        have hd : s.L.drop k = l :: s.L.drop (k + 1) := by
          have := List.getElem?_eq_some_iff.1 hl
          rw [List.drop_eq_getElem_cons this.1, this.2]
        have hown := hst.own
        rw [hd] at hown
        have hcell := at_level hown
        rw [hst.len] at hcell
        obtain ⟨c0, c1, c2, c3, c4, c5, c6, c7, c8, c9⟩ := lv_ten hcell
        obtain ⟨V5, hV5, hb5, hs5, ho5⟩ := lvbox wr l
        have hli := (((H.out.1.lev.each_ l hlm).past H.out.2.2.2.2.1 (Nat.le_refl _)).wide H.out.2.2.2.2.1.size).keep (belows hbw hb5)
        have hlo := H.out.2.1.each_ l hlm
        obtain ⟨g1, g2, g3⟩ := good_small (H.out.2.2.1.each l hlm) (Nat.le_trans (wt_leC hlm) H.out.2.2.2.1)
        have z1 := fun W (h : Bl V5 W) => Lib.hid (copyB_any l.b W (hli.b.keep h) hlo.b g1 g2)
        have z2 := fun W (h : Bl V5 W) => Lib.hid (copyM_any l.m W (hli.m.keep h) hlo.m g3)
        have oG5 := hown.past hb5 hown.inside
        have oP5 := oP.past hb5 oP.inside
        have HS5 := Lib.hid (show ∀ W, KeptK V5 W (fun b => b = G) → W.cell? ⟨P, 1, none⟩ = some (.slice (some ⟨G, 0, none⟩) s.L.length s.L.length) ∧ W.cell? ⟨wr.heap.size, 2, none⟩ = some (.slice l.b.sA l.b.f.length l.b.sc) ∧ W.cell? ⟨wr.heap.size, 3, none⟩ = some (.slice l.b.uA l.b.l.length l.b.uc) ∧ W.cell? ⟨wr.heap.size, 4, none⟩ = some (.slice l.m.aA l.m.a.length l.m.ac) ∧ W.cell? ⟨wr.heap.size, 5, none⟩ = some (.slice l.m.bA l.m.b.length l.m.bc) ∧ W.cell? ⟨wr.heap.size, 6, none⟩ = some (.int .i64 l.m.i) ∧ W.cell? ⟨wr.heap.size, 7, none⟩ = some (.int .i64 l.m.j) ∧ W.cell? ⟨wr.heap.size, 8, none⟩ = some (.slice l.m.sA l.m.f.length l.m.sc) ∧ W.cell? ⟨wr.heap.size, 9, none⟩ = some (.slice l.m.oA l.m.o.length l.m.oc) from fun W h => by
          have o1 := h.own oP5 (fun e => HG.out.2.1 e.symm)
          have o2 := h.own ho5 (fun e => by have := hown.inside; omega)
          exact ⟨o1.at_ 1, o2.at_ 2, o2.at_ 3, o2.at_ 4, o2.at_ 5, o2.at_ 6, o2.at_ 7, o2.at_ 8, o2.at_ 9⟩)
        have hkself : KeptK V5 V5 (fun b => b = G) := KeptK.refl _ _
        have hself := Bl.refl V5
        have HL := Lib.hid (And.intro hl (And.intro oG5 (And.intro hb5 (And.intro hlo (And.intro hown.inside hst.len)))))
        obtain ⟨r0, r1, r2, r3, r4, r5, r6, r7, r8, r9⟩ := own10 ho5
        have q0 : (0 : Int) ≤ (k : Int) := by omega
        have q1 : (k : Int) < (s.L.length : Int) := by omega
        unfold Bt.val at z1
        unfold Mg.val at z2
        clear hst hbw oP hlm hd hown hcell hli hlo g1 g2 g3 oG5 oP5 hb5 hs5 ho5 hl
        go_upto_region 5 with fail
        rw [← hV5]
        clear hV5
        go_region_held3 (fun w' => KeptK V5 w' (fun b => b = G) ∧ (w'.cell? ⟨P, 1, none⟩ = some (.slice (some ⟨G, 0, none⟩) s.L.length s.L.length) ∧ w'.cell? ⟨wr.heap.size, 2, none⟩ = some (.slice l.b.sA l.b.f.length l.b.sc) ∧ w'.cell? ⟨wr.heap.size, 3, none⟩ = some (.slice l.b.uA l.b.l.length l.b.uc) ∧ w'.cell? ⟨wr.heap.size, 4, none⟩ = some (.slice l.m.aA l.m.a.length l.m.ac) ∧ w'.cell? ⟨wr.heap.size, 5, none⟩ = some (.slice l.m.bA l.m.b.length l.m.bc) ∧ w'.cell? ⟨wr.heap.size, 6, none⟩ = some (.int .i64 l.m.i) ∧ w'.cell? ⟨wr.heap.size, 7, none⟩ = some (.int .i64 l.m.j) ∧ w'.cell? ⟨wr.heap.size, 8, none⟩ = some (.slice l.m.sA l.m.f.length l.m.sc) ∧ w'.cell? ⟨wr.heap.size, 9, none⟩ = some (.slice l.m.oA l.m.o.length l.m.oc)))
          ((refine (fun h => And.intro h (HS5.out _ h)) ?_; repeat (first | with_reducible exact hk7 | with_reducible exact hk6 | with_reducible exact hkself | with_reducible refine KeptK.set_ (S := fun b => b = G) ?_ (.inl rfl) _ | with_reducible refine KeptK.drew ?_)))
          (first | (go_at_call 44; refine (z2 _ hb6).out.mono ?_; rintro _ w7 ⟨m', rfl, sm, im, om, lm, b7, am⟩; unfold Mg.val; have hb7 : Bl V5 w7 := Bl.call hb6 b7; have hk7 : KeptK V5 w7 (fun b => b = G) := KeptK.of_below hb7.below (Nat.le_refl _) _; have oG7 := HL.out.2.1.past hb7.below HL.out.2.1.inside; have gg := fun j => oG7.open_ j; have hc7 := at_level oG7; rw [HL.out.2.2.2.2.2] at hc7; obtain ⟨c0, c1, c2, c3, c4, c5, c6, c7, c8, c9⟩ := lv_ten hc7; have g2 := gg (k * 10 + 2); have g3 := gg (k * 10 + 3); have g4 := gg (k * 10 + 4); have g5 := gg (k * 10 + 5); have g6 := gg (k * 10 + 6); have g7 := gg (k * 10 + 7); have g8 := gg (k * 10 + 8); have g9 := gg (k * 10 + 9); clear gg hc7 oG7) | (go_at_call 43; refine (z1 _ hself.drew).out.mono ?_; rintro _ w6 ⟨b', rfl, sb, ib, ob, lb, b6⟩; unfold Bt.val; have hb6 : Bl V5 w6 := Bl.call hself.drew b6; have hk6 : KeptK V5 w6 (fun b => b = G) := KeptK.of_below hb6.below (Nat.le_refl _) _))
        have ib7 := ib.keep b7
        have HN := Lib.hid (cp_next (l' := ⟨l.cls, l.busy, b', m'⟩) (w7 := w7) HST.out.1 HL.out.1 (belows HL.out.2.2.1 hb7.below) rfl rfl rfl (LvEq.to ⟨rfl, rfl, sb.f, sb.l, sm.a, sm.b, sm.i, sm.j, sm.f, sm.o⟩) ⟨ib7, im⟩ ⟨HL.out.2.2.2.1.c, ob, om, mc_of om ⟨am.ac, am.bc⟩⟩ ⟨lb.mono (by have h1 := HL.out.2.2.2.2.1; have h2 := HL.out.2.2.1.size; show G + 1 ≤ V5.heap.size; omega), lm.mono (by have h1 := HL.out.2.2.2.2.1; have h2 := HL.out.2.2.1.size; have h3 := hb6.below.size; show G + 1 ≤ w6.heap.size; omega)⟩)
        clear z1 z2 sm im om lm am b7 sb ib ob lb b6 ib7 hk6 hk7 hb6 hb7
        go_wp2_with fail
        go_roundw
        case rel => exact ⟨k + 1, _, by go_num, by omega, HN.out⟩
        case measure => simp [intOf]; omega
      · have hkn : k = s.L.length := by omega
        subst hkn
        have hbwc := HM.out.below
        have hsz := H.out.2.2.2.2.1.size
        have hvz := H.out.2.2.2.2.2.2
        have hzi := hvz.inside
        have hE := (cp_end hst H.out.2.1 HM.out.since HM.out.lo1 HG.out.2.2 HG.out.1 HM.out.below)
        have hlen : M.length = s.L.length := hst.len
        have oz := hvz.past HST.out.2.1 hzi
        obtain ⟨z0, z1⟩ := own2 oz
        have f0 := oz.open_ 0
        have f1 := oz.open_ 1
        have hX := (oz.set_ 0 (.slice A1 s.f.length s.f.length)).set_ 1 (.slice (some ⟨G, 0, none⟩) s.L.length s.L.length)
        obtain ⟨x0, x1⟩ := own2 hX
        have HX := Lib.hid ((hE.kept (KeptK.set_ (S := fun b => b = w.heap.size + 1) (KeptK.set_ (S := fun b => b = w.heap.size + 1) (KeptK.refl wr _) (.inl rfl) (.slice A1 s.f.length s.f.length) (o := 0)) (.inl rfl) (.slice (some ⟨G, 0, none⟩) s.L.length s.L.length) (o := 1)) hzi).low hsz)
        have HB := Lib.hid (((H.out.2.2.2.2.1.trans (HST.out.2.1.mono hsz)).setCell (p := ⟨w.heap.size + 1, 0, none⟩) (Nat.le_succ _) (.slice A1 s.f.length s.f.length)).setCell (p := ⟨w.heap.size + 1, 1, none⟩) (Nat.le_succ _) (.slice (some ⟨G, 0, none⟩) s.L.length s.L.length))
        have HLN := Lib.hid hlen
        have hn1 : ¬ ((s.L.length : Int) < (s.L.length : Int)) := by omega
        clear hst hbw oP hbwc hsz hvz hzi hE hlen oz hX
        go_wp2_with fail
        exact bodyPost_ret (v := .agg #[.slice A1 s.f.length s.f.length, .slice (some ⟨G, 0, none⟩) s.L.length s.L.length]) (by simp [results, Tryz.results18, go_sem, x0, x1]) rfl (HP.out _ _ ⟨A1, s.f.length, s.f, some ⟨G, 0, none⟩, s.L.length, M⟩ (by show _ = Ending.returned (.agg #[.slice A1 s.f.length s.f.length, .slice (some ⟨G, 0, none⟩) M.length s.L.length]); rw [HLN.out]) HX.out HB.out)
end Go.Proofs.YtgalemkjgaiphaaGreat
namespace Go.Proofs.YtgalemkjgaiphaaGreat
open Go Go.RowKit

structure CopySO (s s' : Sp) (B : Nat) (w' : World) : Prop extends CopyS s s' B w' where
  opn : ∀ l ∈ s'.L, OpnC w' B l.b.uA l.b.l.length
def CopiedSO (s : Sp) (w : World) (x : Ending) (w' : World) : Prop := ∃ s' : Sp, x = .returned s'.val ∧ CopySO s s' w.heap.size w' ∧ Below w.heap.size w w'
structure CpStO (V wr : World) (G k : Nat) (L M : List Lv) : Prop extends CpSt V wr G k L M where
  opn : ∀ l ∈ M, OpnC wr (G + 1) l.b.uA l.b.l.length
theorem cp_nextO {V wr X : World} {G k : Nat} {L M : List Lv} {l l' : Lv} {w7 : World} (h : CpStO V wr G k L M) (hl : L[k]? = some l) (hb : Below wr.heap.size wr w7) (hX : X = setsAt w7 G (k * 10 + 2) (l'.cells.drop 2)) (hc : l'.cls = l.cls) (hbu : l'.busy = l.busy) (hpl : l'.pl = l.pl) (hin : LvIn w7 w7.heap.size l') (hok : LvOk l') (hlo : LvLo (G + 1) l') (hop : OpnC w7 (G + 1) l'.b.uA l'.b.l.length) :
    CpStO V X G (k + 1) L (M ++ [l']) := by
  have kX : KeptK w7 X (fun b => b = G) := by rw [hX]; exact setsAt_kept (S := fun b => b = G) (.inl rfl) _ _ _ (KeptK.refl _ _)
  refine ⟨cp_next h.toCpSt hl hb hX hc hbu hpl hin hok hlo, fun x hx => ?_⟩
  rcases List.mem_append.1 hx with hx | hx
  · exact ((h.opn x hx).past hb).off1 (Nat.lt_succ_self G) kX
  · obtain rfl : x = l' := by simpa using hx
    exact hop.off1 (Nat.lt_succ_self G) kX
theorem cp_endO {s : Sp} {w V wr : World} {G : Nat} {A : Option Addr} {M : List Lv} (h : CpStO V wr G s.L.length s.L M) (hs : SpOk s) (hA : Times V V.heap.size A s.f) (hAl : LoT w.heap.size A) (hAo : OfT (fun b => b = G) A s.f.length) (hG : w.heap.size ≤ G) (hv : Below w.heap.size w V) :
    CopySO s ⟨A, s.f.length, s.f, some ⟨G, 0, none⟩, s.L.length, M⟩ w.heap.size wr := ⟨cp_end h.toCpSt hs hA hAl hAo hG hv, fun l hl => (h.opn l hl).low (by omega)⟩
theorem CopySO.low {s s' : Sp} {B B' : Nat} {w : World} (h : CopySO s s' B w) (hB : B' ≤ B) : CopySO s s' B' w := ⟨h.toCopyS.low hB, fun l hl => (h.opn l hl).low hB⟩
theorem CopySO.kept {s s' : Sp} {B P : Nat} {w X : World} (h : CopySO s s' B w) (k : KeptK w X (fun b => b = P)) (hP : P < B) : CopySO s s' B X := ⟨h.toCopyS.kept k hP, fun l hl => (h.opn l hl).off1 hP k⟩
theorem CopySO.opnSp {s s' : Sp} {B : Nat} {w : World} (h : CopySO s s' B w) : OpnSp w B s' := ⟨opnS_row h.row, h.opn⟩
theorem cp_outO {s : Sp} {V wc : World} {P : Nat} {A1 A2 : Option Addr} (ok : SpOk s) (hL : s.L = []) (hm : CpMid s V wc P A1 A2) (Q : Nat) (hQ : Q < V.heap.size) : CopySO s ⟨A1, s.f.length, s.f, none, 0, []⟩ V.heap.size ((wc.setCell ⟨Q, 0, none⟩ (.slice A1 s.f.length s.f.length)).setCell ⟨Q, 1, none⟩ (.slice none 0 0)) := ⟨cp_out ok hL hm Q hQ, fun l hl => by cases hl⟩
theorem wk_of_copyO {s s1 : Sp} {B base : Nat} {w : World} (h : CopySO s s1 B w) (hb : base ≤ B) (V : World) (k : Wk V base w.heap.size s1 ∧ Below w.heap.size w V) :
    WkO V base w.heap.size s1 ∧ Below w.heap.size w V := ⟨⟨k.1, fun l hl => ((h.opn l hl).low hb).past k.2⟩, k.2⟩
end Go.Proofs.YtgalemkjgaiphaaGreat
namespace Go.Proofs.YtgalemkjgaiphaaGreat
open Go Go.RowKit

set_option maxRecDepth 100000 in
set_option maxHeartbeats 12800000 in
theorem copyS_anyO (s : Sp) (w : World) (hs : SpIn w w.heap.size s) (ok : SpOk s) (hg : SpGood s.f s.L) (hwt : wtS s.L ≤ 274877906944) :
    Calls Tryz.prog 18 #[s.val] w (CopiedSO s w) := by
  obtain ⟨V, hV, hvb, hvs, hvo, hvz⟩ := sp_box2 w s
  have hin := hs.keep hvb
  have hfn := ok.f.n
  have hLn := ok.n
  have y1 := fun W (h : Bl V W) => Lib.hid (listT_times s.sA s.sc s.f W (hin.keep h).since (by omega))
  have y2 := fun W (h : Bl V W) => Lib.hid (listS_any s.lA s.lc s.L W (hin.keep h).lev.head (by omega))
  have H := Lib.hid (And.intro hs (And.intro ok (And.intro hg (And.intro hwt (And.intro hvb (And.intro hvo hvz))))))
  have hself := Bl.refl V
  have hbs : V.heap.size ≤ V.heap.size := Nat.le_refl _
  have HS := Lib.hid (fun W (h : Bm V.heap.size V W) => own2 (hvo.past h hvo.inside))
  obtain ⟨d0, d1⟩ := own2 hvo
  rw [show s.val = .agg #[.slice s.sA s.f.length s.sc, .slice s.lA s.L.length s.lc] from rfl]
  have HP := Lib.hid (show ∀ x w' (s' : Sp), x = .returned s'.val → CopySO s s' w.heap.size w' → Below w.heap.size w w' → CopiedSO s w x w' from fun x w' s' h1 h2 h3 => ⟨s', h1, h2, h3⟩)
  clear hs ok hg hwt hvb hvs hvo hvz hin hfn
  go_enter Tryz.func18, Tryz.ntmps18
  go_upto_region 1 with fail
  rw [← hV]
  clear hV
  go_cut [3] (fun s3 wx => ∃ (P : Nat) (A1 A2 : Option Addr), s3 = .pointer (some ⟨P, 0, none⟩) ∧ CpMid s V wx P A1 A2)
  case first =>
    go_region_held3 (fun w' => Bm V.heap.size V w' ∧ (w'.cell? ⟨w.heap.size, 0, none⟩ = some (.slice s.sA s.f.length s.sc) ∧ w'.cell? ⟨w.heap.size, 1, none⟩ = some (.slice s.lA s.L.length s.lc)))
      ((refine (fun h => And.intro h (HS.out _ h)) ?_; repeat (first | with_reducible exact Bm.of hb2 hbs | with_reducible exact Bm.of hb1 hbs | with_reducible exact Bm.of hself hbs | with_reducible refine Bm.set ?_ (by first | exact Nat.le_refl _ | exact hb1.below.size | (have z6 := hb1.below.size; simp; omega) | (have z6 := hb2.below.size; simp; omega)) _ _ | with_reducible refine Bm.more ?_ hbs _ | with_reducible refine Bm.drew ?_)))
      (first | (go_at_call 42; refine (y2 _ ?_).out.mono ?_; (repeat (first | with_reducible exact hb1 | with_reducible refine Bl.more ?_ _ | with_reducible refine Bl.drew ?_)); rintro _ w2 ⟨A2, rfl, nil2, own2_, b2⟩; have hb2 : Bl V w2 := Bl.call (by repeat (first | with_reducible exact hb1 | with_reducible refine Bl.more ?_ _ | with_reducible refine Bl.drew ?_)) b2; (try (have oz : Own w2 V.heap.size 25 [.slice none 0 0, .slice none 0 0] := oz1.past b2 (by have := oz1.inside; simpa using this); obtain ⟨e0, e1⟩ := own2 oz; have f0 := oz.open_ 0; have f1 := oz.open_ 1)); (try (have oz : Own w2 w1.heap.size 25 [.slice none 0 0, .slice none 0 0] := (Own.past (by first | exact Own.made _ _ [.slice none 0 0, .slice none 0 0] | exact own_drewKS (Own.made _ _ [.slice none 0 0, .slice none 0 0])) b2 (by simp)); obtain ⟨e0, e1⟩ := own2 oz; have f0 := oz.open_ 0; have f1 := oz.open_ 1))) | (go_at_call 30; refine (y1 _ ?_).out.mono ?_; (repeat (first | with_reducible exact hself | with_reducible refine Bl.more ?_ _ | with_reducible refine Bl.drew ?_)); rintro _ w1 ⟨A1, rfl, v1, n1, b1⟩; have hb1 : Bl V w1 := Bl.call (by repeat (first | with_reducible exact hself | with_reducible refine Bl.more ?_ _ | with_reducible refine Bl.drew ?_)) b1; (try (have oz1 : Own w1 V.heap.size 25 [.slice none 0 0, .slice none 0 0] := (Own.past (by first | exact Own.made _ _ [.slice none 0 0, .slice none 0 0] | exact own_drewKS (Own.made _ _ [.slice none 0 0, .slice none 0 0])) b1 (by simp))))))
    all_goals
      go_wp2_with fail
      go_meet
    · refine ⟨_, A1, A2, rfl, cp_mid hb1 v1 (fun b o e => ⟨(n1 b o e).1, (n1 b o e).2, ?_⟩) (Below.refl _ _) b2 (fun h => (nil2 h).1) own2_ ((KeptK.refl _ _).alloc _) (fun hp => ?_) hb2.below.size (Own.made w2 _ [.slice A1 s.f.length s.f.length, .slice A2 s.L.length s.L.length])⟩
      · have := (n1 b o e).2; have := b2.size; omega
      · have := (own2_ hp).2.inside; omega
    · refine ⟨_, A1, A2, rfl, cp_mid hb1 v1 (fun b o e => ⟨(n1 b o e).1, (n1 b o e).2, ?_⟩) ((Below.refl _ _).alloc (Nat.le_refl _) _) b2 (fun h => (nil2 h).1) own2_ (KeptK.set_ (S := fun b => b = w1.heap.size) (KeptK.set_ (S := fun b => b = w1.heap.size) (KeptK.refl _ _) (.inl rfl) _) (.inl rfl) _) (fun hp => (by simp)) hb1.below.size ((oz.set_ 0 _).set_ 1 _)⟩
      have := (n1 b o e).2; omega
    · refine ⟨_, A1, A2, rfl, cp_mid hb1 v1 (fun b o e => ⟨?_, (n1 b o e).2, ?_⟩) (Below.refl _ _) b2 (fun h => (nil2 h).1) own2_ (KeptK.set_ (S := fun b => b = V.heap.size) (KeptK.set_ (S := fun b => b = V.heap.size) (KeptK.refl _ _) (.inl rfl) _) (.inl rfl) _) (fun hp => ?_) (Nat.le_refl _) ((oz.set_ 0 _).set_ 1 _)⟩
      · have := (n1 b o e).1; simp at this; omega
      · have := (n1 b o e).1; simp at this; omega
      · have := oz1.inside; omega
  case rest =>
    obtain ⟨P, A1, A2, rfl, hm⟩ := hcut
    have hbv := hm.below
    have hP := hm.hp
    have HM := Lib.hid hm
    have hvz := H.out.2.2.2.2.2.2
    have hzi := hvz.inside
    obtain ⟨p0, p1⟩ := own2 hm.own
    by_cases hL : s.L = []
    · have hA2 := hm.nil hL
      have hL0 : s.L.length = 0 := by rw [hL]; rfl
      rw [hA2, hL0] at p1
      have oz := hvz.past hbv hzi
      obtain ⟨z0, z1⟩ := own2 oz
      have f0 := oz.open_ 0
      have f1 := oz.open_ 1
      have hX := (oz.set_ 0 (.slice A1 s.f.length s.f.length)).set_ 1 (.slice none 0 0)
      obtain ⟨x0, x1⟩ := own2 hX
      have HX := Lib.hid (cp_outO H.out.2.1 hL hm (w.heap.size + 1) hzi)
      have HB := Lib.hid (show Below w.heap.size w ((wc.setCell ⟨w.heap.size + 1, 0, none⟩ (.slice A1 s.f.length s.f.length)).setCell ⟨w.heap.size + 1, 1, none⟩ (.slice none 0 0)) from ((H.out.2.2.2.2.1.trans (hbv.mono H.out.2.2.2.2.1.size)).setCell (p := ⟨w.heap.size + 1, 0, none⟩) (Nat.le_succ _) _).setCell (p := ⟨w.heap.size + 1, 1, none⟩) (Nat.le_succ _) _)
      have hsz := H.out.2.2.2.2.1.size
      clear hm hbv hP hvz hzi hL hA2 hL0 oz hX y1 y2
      go_wp2_with fail
      go_loopw [16] (fun v16 wr => v16 = .int .i64 0 ∧ wc = wr) (fun _ _ => 0)
      case atStart => exact ⟨rfl, rfl⟩
      case round =>
      obtain ⟨rfl, rfl⟩ := hrel
      go_wp2_with fail
      exact bodyPost_ret (v := .agg #[.slice A1 s.f.length s.f.length, .slice none 0 0]) (by simp [results, Tryz.results18, go_sem, x0, x1]) rfl (HP.out _ _ ⟨A1, s.f.length, s.f, none, 0, []⟩ rfl (HX.out.low hsz) HB.out)
    have hn : 0 < s.L.length := List.length_pos_iff.2 hL
    obtain ⟨G, rfl, oG, hG, hGP, hAG⟩ := hm.lev hn
    have HG := Lib.hid (And.intro hG (And.intro hGP hAG))
    have HC0 := Lib.hid (show CpStO wc wc G 0 s.L [] from ⟨⟨rfl, rfl, oG, fun l hl => (by cases hl), KeptK.refl _ _⟩, fun l hl => (by cases hl)⟩)
    clear hm hbv hP hvz hzi oG hG hGP hAG hL y1 y2 hself
    go_wp2_with fail
    go_loopw [16] (fun v16 wr => ∃ (k : Nat) (M : List Lv), v16 = .int .i64 (k : Int) ∧ k ≤ s.L.length ∧ CpStO wc wr G k s.L M)
      (fun v16 _ => s.L.length - (intOf v16).toNat)
    case atStart => exact ⟨0, [], rfl, by omega, HC0.out⟩
    case round =>
      obtain ⟨k, M, rfl, hk, hst⟩ := hrel
      have hbw : Below V.heap.size V wr := HM.out.below.trans (hst.kept.below (fun b e => by rw [e]; exact HG.out.1) HM.out.below.size)
      have oP := hst.kept.own HM.out.own (fun e => HG.out.2.1 e.symm)
      obtain ⟨p0, p1⟩ := own2 oP
      have HST := Lib.hid (And.intro hst (And.intro hbw oP))
      by_cases hlt : k < s.L.length
      · obtain ⟨l, hl⟩ : ∃ l, s.L[k]? = some l := ⟨_, List.getElem?_eq_getElem hlt⟩
        have hlm := List.mem_of_getElem? hl
        have hd : s.L.drop k = l :: s.L.drop (k + 1) := by
          have := List.getElem?_eq_some_iff.1 hl
          rw [List.drop_eq_getElem_cons this.1, this.2]
        have hown := hst.own
        rw [hd] at hown
        have hcell := at_level hown
        rw [hst.len] at hcell
        obtain ⟨c0, c1, c2, c3, c4, c5, c6, c7, c8, c9⟩ := lv_ten hcell
        obtain ⟨V5, hV5, hb5, hs5, ho5⟩ := lvbox wr l
        have hli := (((H.out.1.lev.each_ l hlm).past H.out.2.2.2.2.1 (Nat.le_refl _)).wide H.out.2.2.2.2.1.size).keep (belows hbw hb5)
        have hlo := H.out.2.1.each_ l hlm
        obtain ⟨g1, g2, g3⟩ := good_small (H.out.2.2.1.each l hlm) (Nat.le_trans (wt_leC hlm) H.out.2.2.2.1)
        have z1 := fun W (h : Bl V5 W) => Lib.hid (copyB_anyO l.b W (hli.b.keep h) hlo.b g1 g2)
        have z2 := fun W (h : Bl V5 W) => Lib.hid (copyM_any l.m W (hli.m.keep h) hlo.m g3)
        have oG5 := hown.past hb5 hown.inside
        have oP5 := oP.past hb5 oP.inside
        have HS5 := Lib.hid (show ∀ W, KeptK V5 W (fun b => b = G) → W.cell? ⟨P, 1, none⟩ = some (.slice (some ⟨G, 0, none⟩) s.L.length s.L.length) ∧ W.cell? ⟨wr.heap.size, 2, none⟩ = some (.slice l.b.sA l.b.f.length l.b.sc) ∧ W.cell? ⟨wr.heap.size, 3, none⟩ = some (.slice l.b.uA l.b.l.length l.b.uc) ∧ W.cell? ⟨wr.heap.size, 4, none⟩ = some (.slice l.m.aA l.m.a.length l.m.ac) ∧ W.cell? ⟨wr.heap.size, 5, none⟩ = some (.slice l.m.bA l.m.b.length l.m.bc) ∧ W.cell? ⟨wr.heap.size, 6, none⟩ = some (.int .i64 l.m.i) ∧ W.cell? ⟨wr.heap.size, 7, none⟩ = some (.int .i64 l.m.j) ∧ W.cell? ⟨wr.heap.size, 8, none⟩ = some (.slice l.m.sA l.m.f.length l.m.sc) ∧ W.cell? ⟨wr.heap.size, 9, none⟩ = some (.slice l.m.oA l.m.o.length l.m.oc) from fun W h => by
          have o1 := h.own oP5 (fun e => HG.out.2.1 e.symm)
          have o2 := h.own ho5 (fun e => by have := hown.inside; omega)
          exact ⟨o1.at_ 1, o2.at_ 2, o2.at_ 3, o2.at_ 4, o2.at_ 5, o2.at_ 6, o2.at_ 7, o2.at_ 8, o2.at_ 9⟩)
        have hkself : KeptK V5 V5 (fun b => b = G) := KeptK.refl _ _
        have hself := Bl.refl V5
        have HL := Lib.hid (And.intro hl (And.intro oG5 (And.intro hb5 (And.intro hlo (And.intro hown.inside hst.len)))))
        obtain ⟨r0, r1, r2, r3, r4, r5, r6, r7, r8, r9⟩ := own10 ho5
        have q0 : (0 : Int) ≤ (k : Int) := by omega
        have q1 : (k : Int) < (s.L.length : Int) := by omega
        unfold Bt.val at z1
        unfold Mg.val at z2
        clear hst hbw oP hlm hd hown hcell hli hlo g1 g2 g3 oG5 oP5 hb5 hs5 ho5 hl
        go_upto_region 5 with fail
        rw [← hV5]
        clear hV5
        go_region_held3 (fun w' => KeptK V5 w' (fun b => b = G) ∧ (w'.cell? ⟨P, 1, none⟩ = some (.slice (some ⟨G, 0, none⟩) s.L.length s.L.length) ∧ w'.cell? ⟨wr.heap.size, 2, none⟩ = some (.slice l.b.sA l.b.f.length l.b.sc) ∧ w'.cell? ⟨wr.heap.size, 3, none⟩ = some (.slice l.b.uA l.b.l.length l.b.uc) ∧ w'.cell? ⟨wr.heap.size, 4, none⟩ = some (.slice l.m.aA l.m.a.length l.m.ac) ∧ w'.cell? ⟨wr.heap.size, 5, none⟩ = some (.slice l.m.bA l.m.b.length l.m.bc) ∧ w'.cell? ⟨wr.heap.size, 6, none⟩ = some (.int .i64 l.m.i) ∧ w'.cell? ⟨wr.heap.size, 7, none⟩ = some (.int .i64 l.m.j) ∧ w'.cell? ⟨wr.heap.size, 8, none⟩ = some (.slice l.m.sA l.m.f.length l.m.sc) ∧ w'.cell? ⟨wr.heap.size, 9, none⟩ = some (.slice l.m.oA l.m.o.length l.m.oc)))
          ((refine (fun h => And.intro h (HS5.out _ h)) ?_; repeat (first | with_reducible exact hk7 | with_reducible exact hk6 | with_reducible exact hkself | with_reducible refine KeptK.set_ (S := fun b => b = G) ?_ (.inl rfl) _ | with_reducible refine KeptK.drew ?_)))
          (first | (go_at_call 44; refine (z2 _ hb6).out.mono ?_; rintro _ w7 ⟨m', rfl, sm, im, om, lm, b7, am⟩; unfold Mg.val; have hb7 : Bl V5 w7 := Bl.call hb6 b7; have hk7 : KeptK V5 w7 (fun b => b = G) := KeptK.of_below hb7.below (Nat.le_refl _) _; have oG7 := HL.out.2.1.past hb7.below HL.out.2.1.inside; have gg := fun j => oG7.open_ j; have hc7 := at_level oG7; rw [HL.out.2.2.2.2.2] at hc7; obtain ⟨c0, c1, c2, c3, c4, c5, c6, c7, c8, c9⟩ := lv_ten hc7; have g2 := gg (k * 10 + 2); have g3 := gg (k * 10 + 3); have g4 := gg (k * 10 + 4); have g5 := gg (k * 10 + 5); have g6 := gg (k * 10 + 6); have g7 := gg (k * 10 + 7); have g8 := gg (k * 10 + 8); have g9 := gg (k * 10 + 9); clear gg hc7 oG7) | (go_at_call 43; refine (z1 _ hself.drew).out.mono ?_; rintro _ w6 ⟨b', rfl, sb, ib, ob, lb, b6, pb⟩; unfold Bt.val; have hb6 : Bl V5 w6 := Bl.call hself.drew b6; have hk6 : KeptK V5 w6 (fun b => b = G) := KeptK.of_below hb6.below (Nat.le_refl _) _))
        have ib7 := ib.keep b7
        have HN := Lib.hid (cp_nextO (l' := ⟨l.cls, l.busy, b', m'⟩) (w7 := w7) HST.out.1 HL.out.1 (belows HL.out.2.2.1 hb7.below) rfl rfl rfl (LvEq.to ⟨rfl, rfl, sb.f, sb.l, sm.a, sm.b, sm.i, sm.j, sm.f, sm.o⟩) ⟨ib7, im⟩ ⟨HL.out.2.2.2.1.c, ob, om, mc_of om ⟨am.ac, am.bc⟩⟩ ⟨lb.mono (by have h1 := HL.out.2.2.2.2.1; have h2 := HL.out.2.2.1.size; show G + 1 ≤ V5.heap.size; omega), lm.mono (by have h1 := HL.out.2.2.2.2.1; have h2 := HL.out.2.2.1.size; have h3 := hb6.below.size; show G + 1 ≤ w6.heap.size; omega)⟩ (((pb.toC.1).low (by have h1 := HL.out.2.2.2.2.1; have h2 := HL.out.2.2.1.size; show G + 1 ≤ V5.heap.size; omega)).past b7))
        clear z1 z2 sm im om lm am b7 sb ib ob lb b6 pb ib7 hk6 hk7 hb6 hb7
        go_wp2_with fail
        go_roundw
        case rel => exact ⟨k + 1, _, by go_num, by omega, HN.out⟩
        case measure => simp [intOf]; omega
      · have hkn : k = s.L.length := by omega
        subst hkn
        have hbwc := HM.out.below
        have hsz := H.out.2.2.2.2.1.size
        have hvz := H.out.2.2.2.2.2.2
        have hzi := hvz.inside
        have hE := (cp_endO hst H.out.2.1 HM.out.since HM.out.lo1 HG.out.2.2 HG.out.1 HM.out.below)
        have hlen : M.length = s.L.length := hst.len
        have oz := hvz.past HST.out.2.1 hzi
        obtain ⟨z0, z1⟩ := own2 oz
        have f0 := oz.open_ 0
        have f1 := oz.open_ 1
        have hX := (oz.set_ 0 (.slice A1 s.f.length s.f.length)).set_ 1 (.slice (some ⟨G, 0, none⟩) s.L.length s.L.length)
        obtain ⟨x0, x1⟩ := own2 hX
        have HX := Lib.hid ((hE.kept (KeptK.set_ (S := fun b => b = w.heap.size + 1) (KeptK.set_ (S := fun b => b = w.heap.size + 1) (KeptK.refl wr _) (.inl rfl) (.slice A1 s.f.length s.f.length) (o := 0)) (.inl rfl) (.slice (some ⟨G, 0, none⟩) s.L.length s.L.length) (o := 1)) hzi).low hsz)
        have HB := Lib.hid (((H.out.2.2.2.2.1.trans (HST.out.2.1.mono hsz)).setCell (p := ⟨w.heap.size + 1, 0, none⟩) (Nat.le_succ _) (.slice A1 s.f.length s.f.length)).setCell (p := ⟨w.heap.size + 1, 1, none⟩) (Nat.le_succ _) (.slice (some ⟨G, 0, none⟩) s.L.length s.L.length))
        have HLN := Lib.hid hlen
        have hn1 : ¬ ((s.L.length : Int) < (s.L.length : Int)) := by omega
        clear hst hbw oP hbwc hsz hvz hzi hE hlen oz hX
        go_wp2_with fail
        exact bodyPost_ret (v := .agg #[.slice A1 s.f.length s.f.length, .slice (some ⟨G, 0, none⟩) s.L.length s.L.length]) (by simp [results, Tryz.results18, go_sem, x0, x1]) rfl (HP.out _ _ ⟨A1, s.f.length, s.f, some ⟨G, 0, none⟩, s.L.length, M⟩ (by show _ = Ending.returned (.agg #[.slice A1 s.f.length s.f.length, .slice (some ⟨G, 0, none⟩) M.length s.L.length]); rw [HLN.out]) HX.out HB.out)
end Go.Proofs.YtgalemkjgaiphaaGreat
namespace Go.Proofs.YtgalemkjgaiphaaGreat
open Go Go.RowKit

def BuiltO (f : List Tm) (l : List Up) (w : World) (x : Ending) (w' : World) : Prop :=
  ∃ b : Bt, x = .returned (.tuple #[b.val, .int .i64 (bldE f l)]) ∧ (bldE f l = 0 → FrontOk f ∧ b.f = f ∧ b.l.map Up.p = consL [advL f l]) ∧ (bldE f l ≠ 0 → b = Bt.nil) ∧ BtIn w' w'.heap.size b ∧ BtOk b ∧ BtLo w.heap.size b ∧ Below w.heap.size w w' ∧ LOpnC w' w.heap.size b.uA b.l
set_option maxRecDepth 100000 in
set_option maxHeartbeats 6400000 in
theorem build_anyO (A : Option Addr) (c : Nat) (f : List Tm) (A' : Option Addr) (c' : Nat) (L : List (Rw Up)) (w : World) (hf : Times w w.heap.size A f) (hfo : TsOk f c) (hl : ULs w w.heap.size A' L) (hok : ∀ s ∈ L, ∀ u ∈ s.l, UOk u) (hn : (flatR L).length ≤ 1099511627776) (hn2 : L.length ≤ 1099511627776) :
    Calls Tryz.prog 19 #[.slice A f.length c, .slice A' L.length c'] w (BuiltO f (flatR L) w) := by
  obtain ⟨W, hW, hWb, hWo⟩ : ∃ W, W = w.alloc (.cells #[.slice none 0 0, .slice none 0 0] 39) ∧ Below w.heap.size w W ∧ Own W w.heap.size 39 [.slice none 0 0, .slice none 0 0] :=
    ⟨_, rfl, (Below.refl _ _).alloc (Nat.le_refl _) _, Own.made w 39 [.slice none 0 0, .slice none 0 0]⟩
  have hfn : f.length ≤ 1099511627776 := hfo.n
  have y1 := Lib.hid (bfrontier_any A c f W ((hf.past hWb (Nat.le_refl _)).wide hWb.size) (by omega))
  have HL := Lib.hid (And.intro hf (And.intro hfo (And.intro hl hok)))
  have HW := Lib.hid (And.intro hWb hWo)
  obtain ⟨G, hG⟩ : ∃ G, G = w.heap.size := ⟨_, rfl⟩
  have HG := Lib.hid hG
  clear hf hfo hl hok hWb hWo
  go_enter Tryz.func19, Tryz.ntmps19
  go_upto_region 1 with fail
  rw [← hW, ← hG]
  clear hW hG
  go_wp2_with fail
  refine y1.out.mono ?_
  rintro _ w1 ⟨b, rfl, hb, b1⟩
  have h1 : Below w.heap.size w w1 := HW.out.1.trans (b1.mono HW.out.1.size)
  have ho1 := HW.out.2.past b1 HW.out.2.inside
  rw [← HG.out] at ho1
  cases b with
  | false =>
    have hne : ¬ (chk f = 0 ∧ frontL f = f) := fun h => by have := hb.2 h; cases this
    have he : bldE f (flatR L) = 4 := if_neg hne
    have f0 := ho1.open_ 0
    have f1 := ho1.open_ 1
    obtain ⟨d0, d1⟩ := own2 ho1
    have H1 := Lib.hid (And.intro h1 (And.intro ho1 he))
    clear h1 ho1 he hne hb b1 y1
    go_wp2_with fail
    have hX := ((H1.out.2.1.set_ 0 (.slice none 0 0)).set_ 1 (.slice none 0 0))
    obtain ⟨x0, x1⟩ := own2 hX
    have HB := Lib.hid ((H1.out.1.setCell (p := ⟨G, 0, none⟩) (Nat.le_of_eq HG.out.symm) (.slice none 0 0)).setCell (p := ⟨G, 1, none⟩) (Nat.le_of_eq HG.out.symm) (.slice none 0 0))
    have HE := Lib.hid H1.out.2.2
    clear hX f0 f1 d0 d1
    exact bodyPost_ret (v := .tuple #[.agg #[.slice none 0 0, .slice none 0 0], .int .i64 4]) (by simp [results, Tryz.results19, go_sem, x0, x1]) rfl ⟨Bt.nil, by rw [HE.out]; rfl, fun h => by rw [HE.out] at h; omega, fun _ => rfl, bt_nil_in _ _, bt_nil_ok, bt_nil_lo _, HB.out, lopnC_nil _ _ _⟩
  | true =>
    have hfr : FrontOk f := hb.1 rfl
    have he : bldE f (flatR L) = consE [advL f (flatR L)] := if_pos hfr
    have y2 := Lib.hid (concatU_any A' c' L w1 ((HL.out.2.2.1.past h1 (Nat.le_refl _)).wide h1.size) hn hn2)
    have H1 := Lib.hid (And.intro h1 (And.intro ho1 (And.intro hfr he)))
    clear h1 ho1 hfr he hb b1 y1
    go_wp2_with fail
    refine y2.out.mono ?_
    rintro _ w2 ⟨v2, rfl, ho2, b2⟩
    obtain ⟨A2, c2, rfl, _, _, hl2⟩ := lies_of_own (size := 6) (cells := Up.cells) (l := flatR L) (by decide) ucells_len rfl ho2
    have h2 : Below w.heap.size w w2 := H1.out.1.trans (b2.mono H1.out.1.size)
    have hu2 : Ups w2 w2.heap.size A2 (flatR L) := ⟨hl2, fun u hu => by
      obtain ⟨s, hs, hu⟩ := List.mem_flatMap.1 hu
      exact ((HL.out.2.2.1.each_ s hs).each_ u hu).past h2 (Nat.le_refl _) |>.wide h2.size⟩
    have hok2 : ∀ u ∈ flatR L, UOk u := fun u hu => by
      obtain ⟨s, hs, hu⟩ := List.mem_flatMap.1 hu
      exact HL.out.2.2.2 s hs u hu
    have hf2 : Times w2 w2.heap.size A f := (HL.out.1.past h2 (Nat.le_refl _)).wide h2.size
    have y3 := Lib.hid (badvance_any A2 c2 (flatR L) A c f w2 hu2 hn hf2 HL.out.2.1)
    have H2 := Lib.hid (And.intro h2 (And.intro (H1.out.2.1.past b2 H1.out.2.1.inside) hok2))
    obtain ⟨l, hlE⟩ : ∃ l, flatR L = l := ⟨_, rfl⟩
    rw [hlE] at y3 H1 H2 hn ⊢
    have HLE := Lib.hid hlE
    clear ho2 hl2 b2 h2 hu2 hok2 hf2 y2 hlE
    go_wp2_with fail
    refine y3.out.mono ?_
    rintro _ w3 ⟨A3, rfl, hu3, _, b3⟩
    rw [← advL_len f l] at *
    obtain ⟨V, hV, hvb, hul⟩ := one_list w3 A3 (advL f l).length (advL f l) hu3
    have y4 := Lib.hid (consolidate_newO (some ⟨w3.heap.size, 0, none⟩) 1 _ V hul (fun s hs u hu => by
      obtain rfl : s = ⟨A3, (advL f l).length, advL f l⟩ := by simpa using hs
      exact advL_ok H2.out.2.2 u hu) (by simpa [flatR] using hn) (by simp))
    have h3 : Below w.heap.size w w3 := H2.out.1.trans (b3.mono H2.out.1.size)
    have hV' : Below w.heap.size w V := h3.trans (hvb.mono h3.size)
    have ho3 := (H2.out.2.1.past b3 H2.out.2.1.inside)
    have H3 := Lib.hid (And.intro hV' (ho3.past hvb ho3.inside))
    clear b3 hu3 hvb hul h3 hV' ho3 y3
    go_wp2_with fail
    rw [← hV]
    clear hV
    refine y4.out.mono ?_
    rintro _ w4 ⟨A4, c4, e, rfl, hp, hu4, ho4, b4, hlo⟩
    simp only [List.map_cons, List.map_nil] at hp
    simp only [List.map_cons, List.map_nil]
    have h4 : Below w.heap.size w w4 := H3.out.1.trans (b4.mono H3.out.1.size)
    have hoo := H3.out.2.past b4 H3.out.2.inside
    have hlen : e.length ≤ 1099511627776 := by
      have := consL_len [advL f l]
      rw [← hp, List.length_map] at this
      simp only [List.flatten_cons, List.flatten_nil, List.append_nil] at this
      omega
    obtain ⟨E, hE⟩ : ∃ E, consE [advL f l] = E := ⟨_, rfl⟩
    rw [hE]
    have hbe : bldE f l = E := H1.out.2.2.2.trans hE
    by_cases h0 : E = 0
    case neg =>
      have t1 : (E != 0) = true := bne_iff_ne.2 h0
      have f0 := hoo.open_ 0
      have f1 := hoo.open_ 1
      obtain ⟨d0, d1⟩ := own2 hoo
      have H4 := Lib.hid (And.intro h4 (And.intro hoo (And.intro hbe h0)))
      clear h4 hoo hbe h0 hE hp hu4 ho4 b4 hlo hlen y4
      go_wp2_with fail
      have hX := ((H4.out.2.1.set_ 0 (.slice none 0 0)).set_ 1 (.slice none 0 0))
      obtain ⟨x0, x1⟩ := own2 hX
      have HB := Lib.hid ((H4.out.1.setCell (p := ⟨G, 0, none⟩) (Nat.le_of_eq HG.out.symm) (.slice none 0 0)).setCell (p := ⟨G, 1, none⟩) (Nat.le_of_eq HG.out.symm) (.slice none 0 0))
      have HE := Lib.hid H4.out.2.2
      clear hX f0 f1 d0 d1
      exact bodyPost_ret (v := .tuple #[.agg #[.slice none 0 0, .slice none 0 0], .int .i64 E]) (by simp [results, Tryz.results19, go_sem, x0, x1]) rfl (by rw [HLE.out]; exact ⟨Bt.nil, by rw [HE.out.1]; rfl, fun h => absurd (HE.out.1.symm.trans h) HE.out.2, fun _ => rfl, bt_nil_in _ _, bt_nil_ok, bt_nil_lo _, HB.out, lopnC_nil _ _ _⟩)
    subst h0
    have y5 := Lib.hid (listT_times A c f w4 ((HL.out.1.past h4 (Nat.le_refl _)).wide h4.size) (by omega))
    have H4 := Lib.hid (And.intro h4 (And.intro hoo (And.intro hbe (And.intro hp (And.intro hu4 (And.intro ho4 (And.intro hlo hlen)))))))
    clear h4 hoo hbe hE hp hu4 ho4 b4 hlo hlen y4
    go_wp2_with fail
    refine y5.out.mono ?_
    rintro _ w5 ⟨A5, rfl, ht5, hl5, b5⟩
    have h5 : Below w.heap.size w w5 := H4.out.1.trans (b5.mono H4.out.1.size)
    have ho5 := H4.out.2.1.past b5 H4.out.2.1.inside
    have f0 := ho5.open_ 0
    have f1 := ho5.open_ 1
    obtain ⟨d0, d1⟩ := own2 ho5
    have H5 := Lib.hid (And.intro h5 (And.intro ho5 (And.intro ht5 (And.intro hl5 (And.intro (H4.out.2.2.2.2.1.keep b5) (H4.out.2.2.2.2.2.2.1.past b5))))))
    clear h5 ho5 ht5 hl5 b5 y5
    go_wp2_with fail
    have hX := ((H5.out.2.1.set_ 0 (.slice A5 f.length f.length)).set_ 1 (.slice A4 e.length c4))
    obtain ⟨x0, x1⟩ := own2 hX
    have HB := Lib.hid ((H5.out.1.setCell (p := ⟨G, 0, none⟩) (Nat.le_of_eq HG.out.symm) (.slice A5 f.length f.length)).setCell (p := ⟨G, 1, none⟩) (Nat.le_of_eq HG.out.symm) (.slice A4 e.length c4))
    clear hX f0 f1 d0 d1
    exact bodyPost_ret (v := .tuple #[.agg #[.slice A5 f.length f.length, .slice A4 e.length c4], .int .i64 0]) (by simp [results, Tryz.results19, go_sem, x0, x1]) rfl (by
      rw [HLE.out]
      have hs1 := H4.out.1.size
      have hs3 := H3.out.2.inside
      obtain ⟨s1, s2⟩ := set2_other w5 G (.slice A5 f.length f.length) (.slice A4 e.length c4)
      exact ⟨⟨A5, f.length, f, A4, c4, e⟩, by rw [H4.out.2.2.1]; rfl, fun _ => ⟨H1.out.2.2.1, rfl, H4.out.2.2.2.1⟩, fun h => absurd H4.out.2.2.1 h,
        ⟨times_other H5.out.2.2.1 (fun b o h => by have h1 := (H5.out.2.2.2.1 b o h).1; have h2 := H4.out.2.1.inside; omega) s1 s2, ups_other H5.out.2.2.2.2.1 (H4.out.2.2.2.2.2.2.1.lo.mono hs3) s1 s2⟩,
        ⟨⟨hfn, Nat.le_refl _, by show f.length ≤ maxLen; unfold maxLen; omega⟩, ⟨H4.out.2.2.2.2.2.2.2, H4.out.2.2.2.2.2.1⟩⟩, ⟨fun b o h => Nat.le_trans H4.out.1.size (H5.out.2.2.2.1 b o h).1, H4.out.2.2.2.2.2.2.1.lo.mono H3.out.1.size⟩, HB.out, ((H5.out.2.2.2.2.2.other hs3 s2).low H3.out.1.size).toC⟩)
end Go.Proofs.YtgalemkjgaiphaaGreat
namespace Go.Proofs.YtgalemkjgaiphaaGreat
open Go Go.RowKit

set_option maxRecDepth 100000 in
set_option maxHeartbeats 12800000 in
theorem put_busy (n base g : Nat) (s : Sp) (b : Bt) (l : Lv) (w : World) (h : PutIn base g s b w) (hl : s.L[posC s.L (clsN b.l.length : Int)]? = some l) (hcl : l.cls = (clsN b.l.length : Int)) (hbusy : l.busy = true) (hn : busyN s.L ≤ n + 1)
    (IH : ∀ (s : Sp) (b : Bt) (w : World), PutIn base g s b w → busyN s.L ≤ n → Calls Tryz.prog 20 #[.pointer (some ⟨g, 0, none⟩), b.val] w (PutSays base g s b w)) :
    Calls Tryz.prog 20 #[.pointer (some ⟨g, 0, none⟩), b.val] w (PutSays base g s b w) := by
  have HIH := Lib.hid IH
  have HBN := Lib.hid hn
  have HBU := Lib.hid hbusy
  obtain ⟨V, hV, hvb, hvs, hvo⟩ := btbox w b
  obtain ⟨c, hc⟩ : ∃ c : Nat, clsN b.l.length = c := ⟨_, rfl⟩
  have y1 := Lib.hid (class_any b.uA b.uc b.l.length V h.bok.l.n)
  rw [hc] at y1
  obtain ⟨d0, d1⟩ := own2 hvo
  have H := Lib.hid h
  have HB := Lib.hid (And.intro hvb hvo)
  have HC := Lib.hid hc
  have hcn : c ≤ 41 := by rw [← hc]; exact cls_pow (by have := h.bok.l.n; omega)
  have hpl := posC_le s.L (c : Int)
  have hfew := h.good.few h.wk.ok.each_
  obtain ⟨p, hp⟩ : ∃ p : Nat, posC s.L (c : Int) = p := ⟨_, rfl⟩
  rw [hc] at hl hcl
  rw [hp] at hl hpl
  have hplt : p < s.L.length := (List.getElem?_eq_some_iff.1 hl).1
  have hn0 : c ≠ 0 := by have := h.good.pos l (List.mem_of_getElem? hl); omega
  have t0 : ((c : Int) == 0) = false := beq_eq_false_iff_ne.2 (by omega)
  have hpi : posI s.L (c : Int) = (p : Int) := by unfold posI; rw [hp, if_neg (by omega)]
  have y2 := fun (V2 : World) (bx : Nat) (hb : Below w.heap.size w V2) (hk : Kin V2 bx (c : Int)) => Lib.hid (indexS_any s.lA s.lc s.L bx (c : Int) V2 (h.wk.past hb).lies.head h.wk.ok.n hk)
  rw [hpi] at y2
  have t1 : ((p : Int) == (s.L.length : Int)) = false := beq_eq_false_iff_ne.2 (by omega)
  have t2 : decide (l.cls < (c : Int)) = false := decide_eq_false (by omega)
  have q0 : ¬ ((p : Int) < 0) := by omega
  have q1 : (0 : Int) ≤ (p : Int) := by omega
  have q2 : (p : Int) < (s.L.length : Int) := by omega
  obtain ⟨G, hGA⟩ : ∃ G : Nat, s.lA = some ⟨G, 0, none⟩ := by
    rcases row_ownK h.wk.row with ⟨_, h9, _⟩ | ⟨G, cur, hA, _⟩
    · omega
    · exact ⟨G, hA⟩
  have hGi : G < w.heap.size := (h.wk.lt G (.inr (by rw [hGA]; rfl))).2
  have HLV := Lib.hid (show ∀ W, Below w.heap.size w W → (∀ (j : Nat) (u : Value), l.cells[j]? = some u → W.cell? ⟨G, p * 10 + j, none⟩ = some u) from fun W hb j u hj => by
    have hW := h.wk.past hb
    obtain ⟨b', o', e, _, hcell⟩ := hW.lies.head (by omega)
    rw [hGA] at e
    simp only [Option.some.injEq, Addr.mk.injEq, and_true] at e
    obtain ⟨rfl, rfl⟩ := e
    have := hcell p l hl j u hj
    rwa [Nat.zero_add] at this)
  have HGA := Lib.hid hGA
  have HIDX := Lib.hid (And.intro hl (And.intro hcl hplt))
  have hLn := h.wk.ok.n
  rw [hGA] at y2
  rw [show b.val = .agg #[.slice b.sA b.f.length b.sc, .slice b.uA b.l.length b.uc] from rfl]
  clear h hvb hvs hvo hc hp hpi hpl hl hcl hplt hfew hn0 hGA
  clear IH hn
  go_enter Tryz.func20, Tryz.ntmps20
  go_upto_region 1 with fail
  rw [← hV]
  clear hV
  go_wp2_with fail
  refine y1.out.mono ?_
  rintro _ w1 ⟨rfl, b1⟩
  obtain ⟨V2, hV2, hs2, hb2, ho2⟩ := boxd w1 [.int .i64 (c : Int)] 3
  have b12 := belows b1 hb2
  have H2 := Lib.hid (And.intro (belows HB.out.1 b12) (And.intro (HB.out.2.past b12 HB.out.2.inside) (And.intro ho2 (show w.heap.size < w1.heap.size from Nat.lt_of_lt_of_le HB.out.2.inside b1.size))))
  have k0 : V2.cell? ⟨w1.heap.size, 0, none⟩ = some (.int .i64 (c : Int)) := ho2.at_ 0
  clear b1 hs2 hb2 ho2 y1 d0 d1 b12
  go_upto_region 2 with fail
  rw [← hV2]
  clear hV2
  have g0 : V2.cell? ⟨g, 1, none⟩ = some (.slice (some ⟨G, 0, none⟩) s.L.length s.lc) := by rw [← HGA.out]; exact (H.out.wk.past H2.out.1).own.at_ 1
  have hgi : g < V2.heap.size := (H.out.wk.past H2.out.1).own.inside
  have z2 := y2 V2 w1.heap.size H2.out.1 ⟨k0, H2.out.2.2.1.inside⟩
  go_wp2_with fail
  refine z2.out.mono ?_
  rintro _ w3 ⟨rfl, b3⟩
  have H3 := Lib.hid (And.intro (belows H2.out.1 b3) (And.intro (H2.out.2.1.past b3 H2.out.2.1.inside) (And.intro (H2.out.2.2.1.past b3 H2.out.2.2.1.inside) (And.intro H2.out.2.2.2 (Nat.lt_of_lt_of_le H2.out.2.2.1.inside b3.size)))))
  have k1 : w3.cell? ⟨w1.heap.size, 0, none⟩ = some (.int .i64 (c : Int)) := (b3.cell (p := ⟨w1.heap.size, 0, none⟩) H2.out.2.2.1.inside).trans k0
  have g1 : w3.cell? ⟨g, 1, none⟩ = some (.slice (some ⟨G, 0, none⟩) s.L.length s.lc) := (b3.cell (p := ⟨g, 1, none⟩) hgi).trans g0
  have hgi3 : g < w3.heap.size := Nat.lt_of_lt_of_le hgi b3.size
  obtain ⟨e0, e1⟩ := own2 H3.out.2.1
  clear b3 z2 k0 g0 hgi
  have hGi3 : G < w3.heap.size := Nat.lt_of_lt_of_le hGi H3.out.1.size
  have x1 := fun q : Past w3 => (q.h.cell (p := ⟨w1.heap.size, 0, none⟩) H3.out.2.2.2.2).trans k1
  have x3 := fun q : Past w3 => HLV.out q.w (belows H3.out.1 q.h) 0 _ rfl
  simp only [Nat.add_zero] at x3
  have x2 := fun q : Past w3 => (q.h.cell (p := ⟨g, 1, none⟩) hgi3).trans g1
  go_upto_region 7 with fail
  refine wp_region_past w3 (by kernel_rfl) (by kernel_rfl) (Below.refl _ _) ?_
  repeat (first | go_big_quiet_step (fail) | quiet_step (fail))
  refine wpQuiet_nil ?_
  intro wz hw'
  obtain ⟨⟨wy, hbz⟩, hw''⟩ := hw'
  dsimp only at hw''
  subst hw''
  have HZ3 := Lib.hid (And.intro (belows H3.out.1 hbz) (And.intro (H3.out.2.1.past hbz H3.out.2.1.inside) (H3.out.2.2.1.past hbz H3.out.2.2.1.inside)))
  have HW1 := Lib.hid H3.out.2.2.2.1
  have g1 := x2 ⟨wz, hbz⟩
  have k1 := (hbz.cell (p := ⟨w1.heap.size, 0, none⟩) H3.out.2.2.2.2).trans k1
  have hgi3 : g < wz.heap.size := Nat.lt_of_lt_of_le hgi3 hbz.size
  obtain ⟨e0, e1⟩ := own2 (H3.out.2.1.past hbz H3.out.2.1.inside)
  dsimp only at g1
  clear x1 x2 x3 hbz hGi3
  go_upto_region 10 with fail
  obtain ⟨r0, r1, r2, r3, r4, r5, r6, r7, r8, r9⟩ := lv_ten (HLV.out wz HZ3.out.1)
  have hGz : G < wz.heap.size := Nat.lt_of_lt_of_le hGi HZ3.out.1.size
  obtain ⟨V5, hV5, hb5, hs5, ho5⟩ := lvbox wz l
  obtain ⟨f0, f1, f2, f3, f4, f5, f6, f7, f8, f9⟩ := own10 ho5
  have H5 := Lib.hid (And.intro (belows HZ3.out.1 hb5) (And.intro (HZ3.out.2.1.past hb5 HZ3.out.2.1.inside) (And.intro ho5 trivial)))
  rw [hbusy] at r1 f1 hV5
  go_upto_region 11 with fail
  rw [← hV5]
  clear hV5 r0 r1 r2 r3 r4 r5 r6 r7 r8 r9 e0 e1 g1 k1 hgi3
  have hwk5 := H.out.wk.past H5.out.1
  have hLl := List.mem_of_getElem? HIDX.out.1
  have hgd := (H.out.good.each l hLl).busy hbusy
  have hlv := hwk5.lev l hLl
  have hlo := hwk5.ok.each_ l hLl
  have hwt := H.out.wt
  have hwl := wt_le hLl
  have hwtl : wtL l = max (l.m.a.length + l.m.b.length) (partsM l.m).length := by unfold wtL; rw [if_pos hbusy]
  have hpo : l.m.o.length ≤ (partsM l.m).length := by unfold partsM; rw [List.length_append, List.length_append]; omega
  have na : l.m.a.length ≤ 274877906944 := by omega
  have nb : l.m.b.length ≤ 274877906944 := by omega
  have no : l.m.o.length ≤ 274877906944 := by omega
  have z := Lib.hid (work_any l.m 9223372036854775807 V5 hlv.m hlo.m na nb no)
  have HK5 := Lib.hid (And.intro hgd (And.intro hlo (And.intro na (And.intro nb no))))
  obtain ⟨r0, r1, r2, r3, r4, r5, r6, r7, r8, r9⟩ := lv_ten (HLV.out V5 H5.out.1)
  have g1 : V5.cell? ⟨g, 1, none⟩ = some (.slice (some ⟨G, 0, none⟩) s.L.length s.lc) := by rw [← HGA.out]; exact hwk5.own.at_ 1
  unfold Mg.val at z
  clear hwk5 hLl hgd hlv hlo hwt hwl hwtl hpo na nb no f0 f2 f3 f4 f5 f6 f7 f8 f9 hb5 ho5 hs5
  go_wp2_with fail
  refine z.out.mono ?_
  rintro _ w6 ⟨m', cc, E, rfl, hw, im, om, lm, b6⟩
  have hwork : WorkOk l.m m' 9223372036854775807 cc E := by
    rcases hw with ⟨h1, _⟩ | ⟨_, h1⟩
    · exact absurd HK5.out.1.2.2.1 h1
    · exact h1
  have hfe := full_end hwork HK5.out.1.2.2.1 HK5.out.2.1.m.o.ok HK5.out.2.2.1 HK5.out.2.2.2.1
  obtain ⟨V6, hV6, hb6, hs6, ho6⟩ := mgbox w6 m'
  have b66 := belows b6 hb6
  have H6 := Lib.hid (And.intro (belows H5.out.1 b66) (And.intro (H5.out.2.1.past b66 H5.out.2.1.inside) (And.intro ho6 (And.intro (im.keep hb6) (And.intro om (And.intro hwork (And.intro hs6 lm)))))))
  obtain ⟨d0, d1, d2, d3, d4, d5⟩ := own6 ho6
  unfold Mg.val
  clear hw im om lm b6 b66 hb6 hs6 ho6 hwork r0 r1 r2 r3 r4 r5 r6 r7 r8 r9 g1 z f1
  go_upto_region 16 with fail
  rw [← hV6]
  clear hV6
  by_cases hE : E = 0
  case neg =>
    have tE : (E != 0) = true := bne_iff_ne.2 hE
    have HE := Lib.hid (show E = 10 ∧ FailS s.L from by
      rcases hfe with ⟨h1, _⟩ | h1
      · exact absurd h1 hE
      · exact ⟨h1.1, by have := busy_pos (List.mem_of_getElem? HIDX.out.1) HBU.out; omega, fun _ => ⟨l, List.mem_of_getElem? HIDX.out.1, HBU.out, h1.2⟩⟩)
    clear hfe hE
    go_wp2_with fail
    go_ret
    exact ⟨E, rfl, KeptK.of_below H6.out.1 (Nat.le_refl _) _, .inr HE.out⟩
  subst hE
  have hfe2 : leftM m' = 0 ∧ EndOk m' := by
    rcases hfe with ⟨_, h1⟩ | h1
    · exact h1
    · exact absurd h1.1 (by decide)
  have hpo : m'.o.length ≤ 274877906944 := by
    obtain ⟨k, _, _, _, _, _, hlen⟩ := work_gen H6.out.2.2.2.2.2.1 HK5.out.1.2.2.1 HK5.out.2.1.m.o.ok
    have hwl := wt_le (List.mem_of_getElem? HIDX.out.1)
    have hwt := H.out.wt
    have hwtl : wtL l = max (l.m.a.length + l.m.b.length) (partsM l.m).length := by unfold wtL; rw [if_pos hbusy]
    have hp2 : m'.o.length ≤ (partsM m').length := by unfold partsM; rw [List.length_append, List.length_append]; omega
    omega
  have hof : OfM (SpS g s.lA) m' := H6.out.2.2.2.2.2.2.2.of fun k hk => ((H.out.wk.past H5.out.1).lt k hk).2
  have z := Lib.hid (ends_any base g p s m' V6 (H.out.wk.past H6.out.1) HIDX.out.2.2 H6.out.2.2.2.1 H6.out.2.2.2.2.1 hof hpo hfe2.2)
  have HF := Lib.hid hfe2
  unfold Mg.val at z
  clear hfe hfe2 hpo hof
  go_wp2_with fail
  refine z.out.mono ?_
  rintro _ w7 ⟨e, rfl, hwk7, hk7, hef, hel, ie, oe, le⟩
  have ht : TookOut s.f s.L p e := take_out H.out.good HIDX.out.1 HBU.out HK5.out.2.1.m.o.ok H6.out.2.2.2.2.2.1 rfl HF.out.1 hef hel
  have hkw : KeptK w w7 (SpS g s.lA) := (KeptK.of_below H6.out.1 (Nat.le_refl _) (SpS g s.lA)).trans hk7 (fun _ _ e => e)
  obtain ⟨V7, hV7, hb7, hs7, ho7⟩ := btbox w7 e
  have hin := (first_in (H.out) ht hkw hwk7).past hb7
  have hab : ∀ x ∈ s.L.eraseIdx p, x.cls ≠ (clsN b.l.length : Int) := fun x hx => by
    rw [HC.out]
    have h1 := H.out.good.fall
    have h2 := split_at' HIDX.out.1
    rw [h2] at h1
    have h3 := List.pairwise_append.1 h1
    rw [List.eraseIdx_eq_take_drop_succ] at hx
    have h4 := HIDX.out.2.1
    rcases List.mem_append.1 hx with hx | hx
    · have := h3.2.2 x hx l List.mem_cons_self; omega
    · have := (List.pairwise_cons.1 h3.2.1).1 x hx; omega
  have z2 := Lib.hid (put_absent base g _ b V7 hin hab)
  have ob7 := hk7.own H6.out.2.1 (fun hs => by have := ((H.out.wk).lt _ hs).2; omega)
  have ob8 := ob7.past hb7 ob7.inside
  obtain ⟨e0, e1⟩ := own2 ob8
  have H7 := Lib.hid (And.intro hkw (And.intro ht (And.intro (ie.keep hb7) (And.intro oe (And.intro (le.of (fun k hk => ((H.out.wk.past H6.out.1).lt k hk).2) : OfB (SpS g s.lA) e) (And.intro ho7 (And.intro hb7 (Nat.le_trans H6.out.1.size (hk7.size)))))))))
  have HLE := Lib.hid (le.mono (Nat.le_trans H.out.wk.base_ H6.out.1.size) : BtLo base e)
  unfold Bt.val at z2 ⊢
  clear hwk7 hk7 hef hel ie oe le ht hkw hb7 hs7 ho7 hin hab ob7 ob8 d0 d1 d2 d3 d4 d5 z
  go_upto_region 19 with fail
  rw [← hV7]
  clear hV7
  go_wp2_with fail
  refine z2.out.mono ?_
  rintro _ w8 ⟨rfl, hk8, s2, o2, hbn⟩
  have hin2 := second_in H.out H7.out.2.1 o2 hk8 H7.out.2.2.1 H7.out.2.2.2.1 H7.out.2.2.2.2.1 HLE.out
  have z3 := Lib.hid (HIH.out s2 e w8 hin2 (by have h1 := H7.out.2.1.busy; have h2 := HBN.out; rw [hbn]; show busyN (s.L.eraseIdx p) ≤ n; omega))
  have oe8 := hk8.own H7.out.2.2.2.2.2.1 (fun hs => by have := ((H.out.wk).lt _ hs).2; have := H7.out.2.2.2.2.2.2.2; omega)
  obtain ⟨d0, d1⟩ := own2 oe8
  have H8 := Lib.hid (And.intro o2 (And.intro hk8 hbn))
  unfold Bt.val at z3
  clear hk8 o2 hbn hin2 oe8 e0 e1 z2
  go_wp2_with fail
  refine z3.out.mono ?_
  rintro _ w9 ⟨E9, rfl, hk9, h9⟩
  have hw7 := H7.out.2.2.2.2.2.2.2
  have hw8 : w.heap.size ≤ w8.heap.size := Nat.le_trans (Nat.le_trans hw7 H7.out.2.2.2.2.2.2.1.size) H8.out.2.1.size
  have hk07 : KeptK w V7 (SpS g s.lA) := H7.out.1.trans (KeptK.of_below H7.out.2.2.2.2.2.2.1 (Nat.le_refl _) (SpS g s.lA)) (fun _ _ e => e)
  have hk08 : KeptK w w8 (SpS g s.lA) := hk07.trans H8.out.2.1 (fun _ _ e => e)
  have hlA : blkS s2.lA = blkS s.lA ∨ ∃ q, blkS s2.lA = some q ∧ w.heap.size ≤ q := by
    rcases H8.out.1.lA with h' | ⟨q, h', hq⟩
    · exact .inl h'
    · exact .inr ⟨q, h', Nat.le_trans (Nat.le_trans hw7 H7.out.2.2.2.2.2.2.1.size) hq⟩
  have hk09 : KeptK w w9 (SpS g s.lA) := hk08.trans hk9 (spS_trans hlA)
  have HZ := Lib.hid (show PutSays base g s b w (.returned (.int .i64 E9)) w9 from ⟨E9, rfl, hk09, by
    rcases h9 with ⟨h1, s3, o3⟩ | h1
    · exact .inl ⟨h1, s3, put_both H.out.good H7.out.2.1 H8.out.1 (Nat.le_trans hw7 H7.out.2.2.2.2.2.2.1.size) hw8 o3 H8.out.2.2⟩
    · exact .inr ⟨h1.1, by have := H7.out.2.1.busy; omega, fun hb1 => by have h2 := H7.out.2.1.busy; have h3 := H8.out.2.2; have h4 := h1.2.1; rw [h3] at h4; have h5 : busyN (s.L.eraseIdx p) ≠ 0 := h4; omega⟩⟩)
  clear hk9 h9 hw7 hw8 hk07 hk08 hlA hk09 d0 d1 z3
  go_wp2_with fail
  go_ret
  exact HZ.out
theorem put_any (base g : Nat) : ∀ (n : Nat) (s : Sp) (b : Bt) (w : World), PutIn base g s b w → busyN s.L ≤ n → Calls Tryz.prog 20 #[.pointer (some ⟨g, 0, none⟩), b.val] w (PutSays base g s b w) := by
  intro n
  induction n with
  | zero =>
    intro s b w h hn
    by_cases hno : ∀ l ∈ s.L, l.cls ≠ (clsN b.l.length : Int)
    · exact (put_absent base g s b w h hno).mono fun _ _ k => k.says
    · obtain ⟨l, hl, hcl⟩ := put_there h hno
      refine put_idle base g s b l w h hl hcl ?_
      cases hb : l.busy
      · rfl
      · have := busy_pos (List.mem_of_getElem? hl) hb; omega
  | succ n ih =>
    intro s b w h hn
    by_cases hno : ∀ l ∈ s.L, l.cls ≠ (clsN b.l.length : Int)
    · exact (put_absent base g s b w h hno).mono fun _ _ k => k.says
    · obtain ⟨l, hl, hcl⟩ := put_there h hno
      cases hb : l.busy
      · exact put_idle base g s b l w h hl hcl hb
      · exact put_busy n base g s b l w h hl hcl hb hn ih
end Go.Proofs.YtgalemkjgaiphaaGreat
namespace Go.Proofs.YtgalemkjgaiphaaGreat
open Go Go.RowKit

def HasI (s s' : Sp) (X : List Up) : Prop := (busyN s.L ≤ 1 → consL [advL s.f X] ≠ [] → HasB s'.L (consL [advL s.f X]).length) ∧ (AllFr s.f s.L → AllFr s.f s'.L)
theorem fr_pl {f : List Tm} {L1 L : List Lv} (pl : L1.map Lv.pl = L.map Lv.pl) (h : AllFr f L) : AllFr f L1 := fun l hl hb => by
  obtain ⟨k, hk, e⟩ := pl_mem pl.symm hl
  have h1 := h k hk (by rw [e.busy]; exact hb)
  exact ⟨by rw [← e.i]; exact h1.1, by rw [← e.j]; exact h1.2.1, by have h2 := e.o; rw [h1.2.2.1] at h2; exact List.map_eq_nil_iff.1 h2.symm, by rw [← e.f]; exact h1.2.2.2⟩
def WhyI (s : Sp) (X : List Up) : Prop := bldE s.f X ≠ 0 ∨ busyN s.L ≠ 0 ∧ (busyN s.L ≤ 1 → ∃ l : Lv, l.pl ∈ s.L.map Lv.pl ∧ l.busy = true ∧ consE [advL l.m.f (partsM l.m)] = 10)
theorem why_pl {s : Sp} {X : List Up} {L1 : List Lv} (pl : L1.map Lv.pl = s.L.map Lv.pl) (h : FailS L1) : WhyI s X := by
  refine .inr ⟨by rw [← (pl_parts pl).2.2.2]; exact h.1, fun hb => ?_⟩
  obtain ⟨l, hl, h1, h2⟩ := h.2 (by rw [(pl_parts pl).2.2.2]; exact hb)
  exact ⟨l, by rw [← pl]; exact List.mem_map_of_mem hl, h1, h2⟩
def InsertedS (s : Sp) (X : List Up) (w : World) (x : Ending) (w' : World) : Prop :=
  ∃ (s' : Sp) (E : Int), x = .returned (.tuple #[s'.val, .int .i64 E]) ∧ (¬ SpGood s.f s.L ∧ E = 8 ∧ s' = Sp.nil ∨ SpGood s.f s.L ∧ s'.f = s.f ∧ (E = 0 ∧ consE [advL s.f X] = 0 ∧ PutTo s.f s.L s'.L X 1 X.length ∧ HasI s s' X ∨ E ≠ 0 ∧ s'.L.map Lv.pl = s.L.map Lv.pl ∧ WhyI s X)) ∧ SpIn w' w'.heap.size s' ∧ SpOk s' ∧ SpLo w.heap.size s' ∧ Below w.heap.size w w'
theorem wk_of_copy {s s1 : Sp} {B base : Nat} {w : World} (h : CopyS s s1 B w) (hb : base ≤ B) (hB : B ≤ w.heap.size) (V : World) (hV : V = w.alloc (.cells #[.slice s1.sA s1.f.length s1.sc, .slice s1.lA s1.L.length s1.lc] 60)) :
    Wk V base w.heap.size s1 ∧ Below w.heap.size w V := by
  have hbv : Below w.heap.size w V := by rw [hV]; exact (Below.refl _ _).alloc (Nat.le_refl _) _
  have h1 := h.low hb
  have hi := h.in_.keep hbv
  have hS : ∀ k, SpS w.heap.size s1.lA k → w.heap.size ≤ k ∨ blkS s1.lA = some k := fun k hk => by
    rcases hk with rfl | hk
    · exact .inl (Nat.le_refl _)
    · exact .inr hk
  have hrl : ∀ k, blkS s1.lA = some k → k < w.heap.size := fun k hk => (h1.row.lt k (by rw [blkS_own]; exact hk)).2
  refine ⟨⟨by rw [hV]; exact Own.made w _ _, own_below h1.row hbv, fun e => by have := hrl _ e; omega, hi.since, ?_, hi.lev.each_, fun l hl => ?_, h.ok, h1.lo.f, h1.lo.each_, by omega, by have := hbv.size; omega⟩, hbv⟩
  · exact ((times_in h.in_.since).or h.soff).less hS
  · exact ((lv_in (h.in_.lev.each_ l hl)).or (h.loff l hl)).less hS
theorem PutTo.swap {f : List Tm} {L1 L L' : List Lv} {Y X : List Up} {n : Nat} (h : PutTo f L1 L' Y 1 n) (pl : L1.map Lv.pl = L.map Lv.pl) (e : EqS f Y X) (hn : n ≤ X.length) : PutTo f L L' X 1 X.length := by
  obtain ⟨p1, p2, p3, _⟩ := pl_parts pl
  have hc := (chkUs_parts h.eq.r).1
  refine ⟨h.good, h.eq.trans ((EqS.of_p hc p1).app e), ?_, ?_⟩
  · rw [← p2]; exact h.cnt
  · rw [← p3]; have := h.wt; omega
theorem Wk.lo_ {W : World} {base g : Nat} {s : Sp} (h : Wk W base g s) : SpLo base s := by
  refine ⟨h.slo, fun b o e => ?_, h.lo⟩
  rcases row_ownK h.row with ⟨h0, _⟩ | ⟨G, cur, h0, hb, _⟩
  · rw [h0] at e; cases e
  · rw [h0] at e
    have := at_block rfl e
    omega
theorem Wk.spin {W : World} {base g : Nat} {s : Sp} (h : Wk W base g s) : SpIn W W.heap.size s := ⟨h.since, h.lies⟩
theorem sp_kept {w X : World} {P : Nat} {s : Sp} (h : SpIn w w.heap.size s) (hlo : SpLo (P + 1) s) (k : KeptK w X (fun b => b = P)) : SpIn X X.heap.size s :=
  ⟨times_kept h.since (hlo.f.of (fun b e => by omega)) k, ⟨lies_kept h.lev.head (fun _ b o e hs => by have := hlo.l b o e; omega) k, fun l hl => lv_kept (h.lev.each_ l hl) ((hlo.each_ l hl).of (fun b e => by omega)) k⟩⟩
theorem SpLo.mono {B B' : Nat} {s : Sp} (h : SpLo B s) (hB : B' ≤ B) : SpLo B' s := ⟨h.f.mono hB, h.l.mono hB, fun l hl => (h.each_ l hl).mono hB⟩
theorem kept_two {w : World} {P : Nat} (x y : Value) : KeptK w ((w.setCell ⟨P, 0, none⟩ x).setCell ⟨P, 1, none⟩ y) (fun b => b = P) := KeptK.set_ (S := fun b => b = P) (KeptK.set_ (S := fun b => b = P) (KeptK.refl w _) (.inl rfl) x) (.inl rfl) y
theorem below_two {w W : World} {P B : Nat} (h : Below B w W) (hP : B ≤ P) (x y : Value) : Below B w ((W.setCell ⟨P, 0, none⟩ x).setCell ⟨P, 1, none⟩ y) := (h.setCell (p := ⟨P, 0, none⟩) hP x).setCell (p := ⟨P, 1, none⟩) hP y
end Go.Proofs.YtgalemkjgaiphaaGreat
namespace Go.Proofs.YtgalemkjgaiphaaGreat
open Go Go.RowKit

theorem wk_of_copyK {s s1 : Sp} {B base : Nat} {w : World} (h : CopySO s s1 B w) (hb : base ≤ B) (hB : B ≤ w.heap.size) (V : World) (hV : V = w.alloc (.cells #[.slice s1.sA s1.f.length s1.sc, .slice s1.lA s1.L.length s1.lc] 60)) :
    WkO V base w.heap.size s1 ∧ Below w.heap.size w V := wk_of_copyO h hb V (wk_of_copy h.toCopyS hb hB V hV)
def InsertedSO (s : Sp) (X : List Up) (w : World) (x : Ending) (w' : World) : Prop :=
  ∃ (s' : Sp) (E : Int), x = .returned (.tuple #[s'.val, .int .i64 E]) ∧ (¬ SpGood s.f s.L ∧ E = 8 ∧ s' = Sp.nil ∨ SpGood s.f s.L ∧ s'.f = s.f ∧ (E = 0 ∧ consE [advL s.f X] = 0 ∧ PutTo s.f s.L s'.L X 1 X.length ∧ HasI s s' X ∨ E ≠ 0 ∧ s'.L.map Lv.pl = s.L.map Lv.pl ∧ WhyI s X)) ∧ SpIn w' w'.heap.size s' ∧ SpOk s' ∧ SpLo w.heap.size s' ∧ Below w.heap.size w w' ∧ OpnSp w' w.heap.size s'
set_option maxRecDepth 100000 in
set_option maxHeartbeats 12800000 in
theorem insert_spO (s : Sp) (A : Option Addr) (c : Nat) (L : List (Rw Up)) (w : World) (hs : SpIn w w.heap.size s) (ok : SpOk s) (hl : ULs w w.heap.size A L) (hok : ∀ r ∈ L, ∀ u ∈ r.l, UOk u) (hw : wtS s.L + (flatR L).length ≤ 274877906944) (hn : L.length ≤ 1099511627776) :
    Calls Tryz.prog 6 #[s.val, .slice A L.length c] w (InsertedSO s (flatR L) w) := by
  obtain ⟨V, hV, hvb, hvs, hvo, hvz⟩ := sp_box2 w s
  have hin := hs.keep hvb
  have y1 := Lib.hid (scheck_any s V hin ok)
  have H := Lib.hid (And.intro hs (And.intro ok (And.intro hl (And.intro hok (And.intro hw (And.intro hn (And.intro hvb (And.intro hvo hvz))))))))
  obtain ⟨d0, d1⟩ := own2 hvo
  have HP := Lib.hid (show ∀ x w' (s' : Sp) (E : Int), x = .returned (.tuple #[s'.val, .int .i64 E]) → (¬ SpGood s.f s.L ∧ E = 8 ∧ s' = Sp.nil ∨ SpGood s.f s.L ∧ s'.f = s.f ∧ (E = 0 ∧ consE [advL s.f (flatR L)] = 0 ∧ PutTo s.f s.L s'.L (flatR L) 1 (flatR L).length ∧ HasI s s' (flatR L) ∨ E ≠ 0 ∧ s'.L.map Lv.pl = s.L.map Lv.pl ∧ WhyI s (flatR L))) → SpIn w' w'.heap.size s' → SpOk s' → SpLo w.heap.size s' → Below w.heap.size w w' → OpnSp w' w.heap.size s' → InsertedSO s (flatR L) w x w' from fun x w' s' E h1 h2 h3 h4 h5 h6 h7 => ⟨s', E, h1, h2, h3, h4, h5, h6, h7⟩)
  have hsv : s.val = .agg #[.slice s.sA s.f.length s.sc, .slice s.lA s.L.length s.lc] := rfl
  rw [hsv] at y1 ⊢
  clear hs ok hl hok hw hn hvb hvs hvo hvz hin
  go_enter Tryz.func6, Tryz.ntmps6
  go_upto_region 1 with fail
  rw [← hV]
  clear hV
  go_wp2_with fail
  refine y1.out.mono ?_
  rintro _ w1 ⟨n, rfl, hn, b1⟩
  have hv1 := H.out.2.2.2.2.2.2.2.1.past b1 H.out.2.2.2.2.2.2.2.1.inside
  have hz1 := H.out.2.2.2.2.2.2.2.2.past b1 H.out.2.2.2.2.2.2.2.2.inside
  have H1 := Lib.hid (And.intro hn (And.intro (H.out.2.2.2.2.2.2.1.trans (b1.mono H.out.2.2.2.2.2.2.1.size)) (And.intro hv1 (And.intro hz1 hz1.inside))))
  clear hn b1 d0 d1 y1
  by_cases h0 : n = 0
  case neg =>
    have t1 : (n != 0) = true := bne_iff_ne.2 h0
    have HN := Lib.hid (show ¬ SpGood s.f s.L ∧ n = 8 from by
      rcases H1.out.1 with ⟨_, h⟩ | h
      · exact absurd h h0
      · exact h)
    obtain ⟨z0, z1⟩ := own2 hz1
    have f0 := hz1.open_ 0
    have f1 := hz1.open_ 1
    have hX := (hz1.set_ 0 (.slice none 0 0)).set_ 1 (.slice none 0 0)
    obtain ⟨x0, x1⟩ := own2 hX
    have HB := Lib.hid (below_two H1.out.2.1 (Nat.le_succ _) (P := w.heap.size + 1) (.slice none 0 0) (.slice none 0 0))
    clear hv1 hz1 hX h0
    go_wp2_with fail
    exact bodyPost_ret (v := .tuple #[.agg #[.slice none 0 0, .slice none 0 0], .int .i64 n]) (by simp [results, Tryz.results6, go_sem, x0, x1]) rfl (HP.out _ _ Sp.nil n rfl (.inl ⟨HN.out.1, HN.out.2, rfl⟩) (sp_nil_in _ _) sp_nil_ok (sp_nil_lo _) HB.out (opnSp_nil _ _))
  subst h0
  have hgood : SpGood s.f s.L := by
    rcases H1.out.1 with ⟨h, _⟩ | ⟨_, h⟩
    · exact h
    · exact absurd h (by decide)
  have hin1 := H.out.1.keep H1.out.2.1
  have hwt : wtS s.L ≤ 274877906944 := by have := H.out.2.2.2.2.1; omega
  have y2 := Lib.hid (copyS_anyO s w1 hin1 H.out.2.1 hgood hwt)
  have HG := Lib.hid hgood
  obtain ⟨d0, d1⟩ := own2 hv1
  rw [hsv] at y2
  clear hv1 hz1 hgood hin1 hwt
  go_wp2_with fail
  refine y2.out.mono ?_
  rintro _ w2 ⟨s1, rfl, hc, b2⟩
  rw [show s1.val = .agg #[.slice s1.sA s1.f.length s1.sc, .slice s1.lA s1.L.length s1.lc] from rfl]
  obtain ⟨V3, hV3⟩ : ∃ V3, V3 = w2.alloc (.cells #[.slice s1.sA s1.f.length s1.sc, .slice s1.lA s1.L.length s1.lc] 60) := ⟨_, rfl⟩
  obtain ⟨hwk, b3⟩ := wk_of_copyK (base := w1.heap.size) hc (Nat.le_refl _) b2.size V3 hV3
  have b23 := belows b2 b3
  have b03 := belows H1.out.2.1 b23
  have HC := Lib.hid (And.intro hc.f hc.L)
  have H3 := Lib.hid (And.intro hwk (And.intro b03 (And.intro (H1.out.2.2.1.past b23 H1.out.2.2.1.inside) (And.intro (H1.out.2.2.2.1.past b23 H1.out.2.2.2.1.inside) (Nat.le_trans H1.out.2.2.2.2 b2.size)))))
  have y3 := Lib.hid (build_anyO s1.sA s1.sc s1.f A c L V3 hwk.since hwk.ok.f (H.out.2.2.1.keep b03) H.out.2.2.2.1 (by have := H.out.2.2.2.2.1; omega) H.out.2.2.2.2.2.1)
  have g0 : V3.cell? ⟨w2.heap.size, 0, none⟩ = some (.slice s1.sA s1.f.length s1.sc) := hwk.own.at_ 0
  clear hc hwk b2 b3 b23 b03 d0 d1 y2
  go_upto_region 5 with fail
  rw [← hV3]
  clear hV3
  go_wp2_with fail
  refine y3.out.mono ?_
  rintro _ w4 ⟨b, rfl, hb0, hbn, ib, ob, lb, b4, pb⟩
  obtain ⟨E, hE⟩ : ∃ E, bldE s1.f (flatR L) = E := ⟨_, rfl⟩
  rw [hE] at hb0 hbn ⊢
  have HE := Lib.hid hE
  obtain ⟨V4, hV4, hb4, hs4, ho4⟩ := btbox w4 b
  have b44 := belows b4 hb4
  have H4 := Lib.hid (And.intro hb0 (And.intro (ib.keep hb4) (And.intro ob (And.intro lb (And.intro ho4 (And.intro (H3.out.1.past b44) (And.intro (belows H3.out.2.1 b44) (And.intro (H3.out.2.2.1.past b44 H3.out.2.2.1.inside) (And.intro (H3.out.2.2.2.1.past b44 H3.out.2.2.2.1.inside) b44)))))))))
  rw [show b.val = .agg #[.slice b.sA b.f.length b.sc, .slice b.uA b.l.length b.uc] from rfl]
  have HPB := Lib.hid ((pb.1.past hb4).low H3.out.1.base_)
  clear hb0 hbn ib ob lb b4 pb hb4 hs4 ho4 b44 hE g0 y3
  go_upto_region 6 with fail
  rw [← hV4]
  clear hV4
  by_cases hE0 : E = 0
  · have t1 : (E == 0) = true := by rw [hE0]; rfl
    have hlen : b.l.length ≤ (flatR L).length := by
      have h1 := congrArg List.length (H4.out.1 hE0).2.2
      have h2 := consL_len [advL s1.f (flatR L)]
      rw [List.length_map] at h1
      simp only [List.flatten_cons, List.flatten_nil, List.append_nil] at h2
      have h3 : (advL s1.f (flatR L)).length = (flatR L).length := List.length_map ..
      omega
    have hcons : consE [advL s1.f (flatR L)] = 0 := by
      have h1 := HE.out
      unfold bldE at h1
      rw [if_pos (show chk s1.f = 0 ∧ frontL s1.f = s1.f from (H4.out.1 hE0).1)] at h1
      omega
    have hgood1 : SpGood s1.f s1.L := by rw [HC.out.1]; exact pl_good HC.out.2.symm HG.out
    have hok : PutInO w1.heap.size w2.heap.size s1 b V4 := ⟨H4.out.2.2.2.2.2.1, hgood1, H4.out.2.1, H4.out.2.2.1, H4.out.2.2.2.1.of (fun k hk => (H3.out.1.lt k hk).2), H4.out.2.2.2.1.mono (H3.out.1.base_), by
      obtain ⟨k1, k2, k3⟩ := H4.out.1 hE0
      rw [k2]
      exact batch_ok k1 hcons k3, by rw [(H4.out.1 hE0).2.1]; exact later_refl _, by
      have h1 := (pl_parts HC.out.2).2.2.1
      have h2 := H.out.2.2.2.2.1
      omega, HPB.out⟩
    have y4 := Lib.hid (put_anyO w1.heap.size w2.heap.size _ s1 b V4 hok (Nat.le_refl _))
    have HK := Lib.hid (And.intro hlen (And.intro hcons hok))
    obtain ⟨e0, e1⟩ := own2 H4.out.2.2.2.2.1
    rw [show b.val = .agg #[.slice b.sA b.f.length b.sc, .slice b.uA b.l.length b.uc] from rfl] at y4
    have HE0 := Lib.hid hE0
    clear hlen hcons hgood1 hok hE0
    go_wp2_with fail
    refine y4.out.mono ?_
    rintro _ w5 ⟨E2, rfl, hk5, h5⟩
    have hlt2 : ∀ k, SpS w2.heap.size s1.lA k → w1.heap.size ≤ k := fun k hk => (H3.out.1.lt k hk).1
    have b05 : Below w.heap.size w w5 := H4.out.2.2.2.2.2.2.1.trans (hk5.below (fun k hk => Nat.le_trans H1.out.2.1.size (hlt2 k hk)) (H4.out.2.2.2.2.2.2.1.size))
    have o25 := hk5.own H4.out.2.2.2.2.2.2.2.1 (fun hs => by have h1 := hlt2 _ hs; have h2 := H1.out.2.2.2.2; omega)
    have oz5 := hk5.own H4.out.2.2.2.2.2.2.2.2.1 (fun hs => by have h1 := hlt2 _ hs; have h2 := H1.out.2.2.2.2; omega)
    have HB5 := Lib.hid (And.intro b05 (And.intro o25 oz5))
    by_cases hE2 : E2 = 0
    · have t2 : (E2 != 0) = false := by rw [hE2]; rfl
      have hput : ∃ s', PutOutO w1.heap.size w2.heap.size s1 b.l 1 b.l.length V4 w5 s' := by
        rcases h5 with ⟨_, h⟩ | h
        · exact h
        · have := h.1; omega
      obtain ⟨s', hp⟩ := hput
      obtain ⟨g0, g1⟩ := own2 hp.wk.own
      obtain ⟨z0, z1⟩ := own2 oz5
      have f0 := oz5.open_ 0
      have f1 := oz5.open_ 1
      have hX := (oz5.set_ 0 (.slice s'.sA s'.f.length s'.sc)).set_ 1 (.slice s'.lA s'.L.length s'.lc)
      obtain ⟨x0, x1⟩ := own2 hX
      have hlo := hp.wk.lo_
      have HX := Lib.hid (And.intro (sp_kept hp.wk.spin (hlo.mono H1.out.2.2.2.2) (kept_two (P := w.heap.size + 1) (.slice s'.sA s'.f.length s'.sc) (.slice s'.lA s'.L.length s'.lc))) (And.intro hp.wk.ok (And.intro (hlo.mono H1.out.2.1.size) (And.intro (below_two b05 (Nat.le_succ w.heap.size) (.slice s'.sA s'.f.length s'.sc) (.slice s'.lA s'.L.length s'.lc)) (And.intro (hp.h3.trans HC.out.1) (by
        have h1 := hp.put.swap HC.out.2 (eqs_cons (HK.out.2.2.good.front.right) HK.out.2.1 (H4.out.1 HE0.out).2.2) HK.out.1
        rw [HC.out.1] at h1
        have h2 : HasI s s' (flatR L) := ⟨fun hb hq => by
          have e2 := (H4.out.1 HE0.out).2.2
          rw [HC.out.1] at e2
          have e3 := congrArg List.length e2
          rw [List.length_map] at e3
          rw [← e3]
          exact hp.has.new (by rw [(pl_parts HC.out.2).2.2.2]; exact hb) (fun h0 => hq (List.eq_nil_of_length_eq_zero (e3.symm.trans h0))), fun h => by
          have h3 := hp.has.fr
          rw [HC.out.1] at h3
          exact h3 (fr_pl HC.out.2 h)⟩
        exact And.intro h1 h2 : PutTo s.f s.L s'.L (flatR L) 1 (flatR L).length ∧ HasI s s' (flatR L)))))))
      have HOP := Lib.hid ((hp.wk.opnSp.other (P := w.heap.size + 1) H1.out.2.2.2.2 (kept_two (P := w.heap.size + 1) (.slice s'.sA s'.f.length s'.sc) (.slice s'.lA s'.L.length s'.lc))).low H1.out.2.1.size)
      have HCE := Lib.hid (show consE [advL s.f (flatR L)] = 0 by rw [← HC.out.1]; exact HK.out.2.1)
      clear hk5 h5 hlt2 b05 o25 oz5 hE2 hp hX hlo e0 e1 y4
      go_wp2_with fail
      exact bodyPost_ret (v := .tuple #[.agg #[.slice s'.sA s'.f.length s'.sc, .slice s'.lA s'.L.length s'.lc], .int .i64 0]) (by simp [results, Tryz.results6, go_sem, x0, x1]) rfl (HP.out _ _ s' 0 rfl (.inr ⟨HG.out, HX.out.2.2.2.2.1, .inl ⟨rfl, HCE.out, HX.out.2.2.2.2.2⟩⟩) HX.out.1 HX.out.2.1 HX.out.2.2.1 HX.out.2.2.2.1 HOP.out)
    · have t2 : (E2 != 0) = true := bne_iff_ne.2 hE2
      have HNE := Lib.hid hE2
      have HWY := Lib.hid (show WhyI s (flatR L) from by
        rcases h5 with ⟨h, _⟩ | h
        · exact absurd h hE2
        · exact why_pl HC.out.2 h.2)
      clear hk5 h5 hlt2 b05 o25 oz5 hE2 e0 e1 y4
      have hin6 := H.out.1.keep HB5.out.1
      have hwt6 : wtS s.L ≤ 274877906944 := by have := H.out.2.2.2.2.1; omega
      have y6 := Lib.hid (copyS_anyO s w5 hin6 H.out.2.1 HG.out hwt6)
      obtain ⟨d0, d1⟩ := own2 HB5.out.2.1
      rw [hsv] at y6
      clear hin6 hwt6
      go_wp2_with fail
      refine y6.out.mono ?_
      rintro _ w6 ⟨s3, rfl, hc3, b6⟩
      have oz := HB5.out.2.2.past b6 HB5.out.2.2.inside
      obtain ⟨z0, z1⟩ := own2 oz
      have f0 := oz.open_ 0
      have f1 := oz.open_ 1
      have hX := (oz.set_ 0 (.slice s3.sA s3.f.length s3.sc)).set_ 1 (.slice s3.lA s3.L.length s3.lc)
      obtain ⟨x0, x1⟩ := own2 hX
      have hP1 : w.heap.size + 1 < w5.heap.size := HB5.out.2.2.inside
      have HOP := Lib.hid ((hc3.opnSp.other (P := w.heap.size + 1) hP1 (kept_two (P := w.heap.size + 1) (.slice s3.sA s3.f.length s3.sc) (.slice s3.lA s3.L.length s3.lc))).low HB5.out.1.size)
      have HX := Lib.hid (And.intro (sp_kept hc3.in_ (hc3.lo.mono hP1) (kept_two (P := w.heap.size + 1) (.slice s3.sA s3.f.length s3.sc) (.slice s3.lA s3.L.length s3.lc))) (And.intro hc3.ok (And.intro (hc3.lo.mono HB5.out.1.size) (And.intro (below_two (belows HB5.out.1 b6) (Nat.le_succ w.heap.size) (.slice s3.sA s3.f.length s3.sc) (.slice s3.lA s3.L.length s3.lc)) (And.intro hc3.f hc3.L)))))
      rw [show s3.val = .agg #[.slice s3.sA s3.f.length s3.sc, .slice s3.lA s3.L.length s3.lc] from rfl]
      clear hc3 b6 oz hX d0 d1 y6
      go_wp2_with fail
      exact bodyPost_ret (v := .tuple #[.agg #[.slice s3.sA s3.f.length s3.sc, .slice s3.lA s3.L.length s3.lc], .int .i64 E2]) (by simp [results, Tryz.results6, go_sem, x0, x1]) rfl (HP.out _ _ s3 E2 rfl (.inr ⟨HG.out, HX.out.2.2.2.2.1, .inr ⟨HNE.out, HX.out.2.2.2.2.2, HWY.out⟩⟩) HX.out.1 HX.out.2.1 HX.out.2.2.1 HX.out.2.2.2.1 HOP.out)
  · have t1 : (E == 0) = false := beq_eq_false_iff_ne.2 hE0
    have t2 : (E != 0) = true := bne_iff_ne.2 hE0
    have HNE := Lib.hid hE0
    have HWY := Lib.hid (show WhyI s (flatR L) from .inl (by rw [← HC.out.1, HE.out]; exact hE0))
    have HB5 := Lib.hid (And.intro H4.out.2.2.2.2.2.2.1 (And.intro H4.out.2.2.2.2.2.2.2.1 H4.out.2.2.2.2.2.2.2.2.1))
    clear hE0
    have hin6 := H.out.1.keep HB5.out.1
    have hwt6 : wtS s.L ≤ 274877906944 := by have := H.out.2.2.2.2.1; omega
    have y6 := Lib.hid (copyS_anyO s V4 hin6 H.out.2.1 HG.out hwt6)
    obtain ⟨d0, d1⟩ := own2 HB5.out.2.1
    rw [hsv] at y6
    clear hin6 hwt6
    go_wp2_with fail
    refine y6.out.mono ?_
    rintro _ w6 ⟨s3, rfl, hc3, b6⟩
    have oz := HB5.out.2.2.past b6 HB5.out.2.2.inside
    obtain ⟨z0, z1⟩ := own2 oz
    have f0 := oz.open_ 0
    have f1 := oz.open_ 1
    have hX := (oz.set_ 0 (.slice s3.sA s3.f.length s3.sc)).set_ 1 (.slice s3.lA s3.L.length s3.lc)
    obtain ⟨x0, x1⟩ := own2 hX
    have hP1 : w.heap.size + 1 < V4.heap.size := HB5.out.2.2.inside
    have HOP := Lib.hid ((hc3.opnSp.other (P := w.heap.size + 1) hP1 (kept_two (P := w.heap.size + 1) (.slice s3.sA s3.f.length s3.sc) (.slice s3.lA s3.L.length s3.lc))).low HB5.out.1.size)
    have HX := Lib.hid (And.intro (sp_kept hc3.in_ (hc3.lo.mono hP1) (kept_two (P := w.heap.size + 1) (.slice s3.sA s3.f.length s3.sc) (.slice s3.lA s3.L.length s3.lc))) (And.intro hc3.ok (And.intro (hc3.lo.mono HB5.out.1.size) (And.intro (below_two (belows HB5.out.1 b6) (Nat.le_succ w.heap.size) (.slice s3.sA s3.f.length s3.sc) (.slice s3.lA s3.L.length s3.lc)) (And.intro hc3.f hc3.L)))))
    rw [show s3.val = .agg #[.slice s3.sA s3.f.length s3.sc, .slice s3.lA s3.L.length s3.lc] from rfl]
    clear hc3 b6 oz hX d0 d1 y6
    go_wp2_with fail
    exact bodyPost_ret (v := .tuple #[.agg #[.slice s3.sA s3.f.length s3.sc, .slice s3.lA s3.L.length s3.lc], .int .i64 E]) (by simp [results, Tryz.results6, go_sem, x0, x1]) rfl (HP.out _ _ s3 E rfl (.inr ⟨HG.out, HX.out.2.2.2.2.1, .inr ⟨HNE.out, HX.out.2.2.2.2.2, HWY.out⟩⟩) HX.out.1 HX.out.2.1 HX.out.2.2.1 HX.out.2.2.2.1 HOP.out)
end Go.Proofs.YtgalemkjgaiphaaGreat
namespace Go.Proofs.YtgalemkjgaiphaaGreat
open Go Go.RowKit

theorem lies_dropQ {w : World} {B g o : Nat} {l : List Up} {q : Nat} (h : Lies 6 Up.cells w B (some ⟨g, o, none⟩) l) : Lies 6 Up.cells w B (some ⟨g, o + q * 6, none⟩) (l.drop q) := fun hp => by
  obtain ⟨b', o', e, hb, hc⟩ := h (by rw [List.length_drop] at hp; omega)
  simp only [Option.some.injEq, Addr.mk.injEq, and_true] at e
  obtain ⟨rfl, rfl⟩ := e
  refine ⟨g, o + q * 6, rfl, hb, fun i x hi j u hj => ?_⟩
  rw [List.getElem?_drop] at hi
  have := hc (q + i) x hi j u hj
  rw [show o + q * 6 + i * 6 + j = o + (q + i) * 6 + j by omega]
  exact this
def dropA (A : Option Addr) (c q : Nat) : Option Addr := if c = q then A else A.map fun a => ⟨a.block, a.off + q * 6, a.spot⟩
theorem ups_dropQ {w : World} {B c q : Nat} {A : Option Addr} {l : List Up} (h : Ups w B A l) (hc : l.length ≤ c) : Ups w B (dropA A c q) (l.drop q) := by
  refine ⟨fun hp => ?_, fun u hu => h.each_ u (List.mem_of_mem_drop hu)⟩
  rw [List.length_drop] at hp
  obtain ⟨b', o', rfl, _⟩ := h.head (by omega)
  unfold dropA
  rw [if_neg (by omega)]
  exact lies_dropQ h.head (by rw [List.length_drop]; omega)
def partsR (l : Lv) : List (Rw Up) := if l.busy = true then [⟨dropA l.m.aA l.m.ac l.m.i.toNat, l.m.ac - l.m.i.toNat, l.m.a.drop l.m.i.toNat⟩, ⟨dropA l.m.bA l.m.bc l.m.j.toNat, l.m.bc - l.m.j.toNat, l.m.b.drop l.m.j.toNat⟩, ⟨l.m.oA, l.m.oc, l.m.o⟩] else [⟨l.b.uA, l.b.uc, l.b.l⟩]
theorem partsR_flat (l : Lv) : flatR (partsR l) = partsL l := by
  unfold partsR partsL
  split
  · simp [flatR, partsM]
  · simp [flatR]
theorem partsR_len (l : Lv) : (partsR l).length ≤ 3 := by
  unfold partsR
  split <;> simp
def PartsSay (l : Lv) (w : World) (x : Ending) (w' : World) : Prop := ∃ G, x = .returned (.slice (some ⟨G, 0, none⟩) (partsR l).length (partsR l).length) ∧ ULs w' w'.heap.size (some ⟨G, 0, none⟩) (partsR l) ∧ w.heap.size ≤ G ∧ Below w.heap.size w w'
theorem three_lists (w : World) (A1 A2 A3 : Option Addr) (c1 c2 c3 : Nat) (l1 l2 l3 : List Up) (h1 : Ups w w.heap.size A1 l1) (h2 : Ups w w.heap.size A2 l2) (h3 : Ups w w.heap.size A3 l3) :
    ∃ V, V = w.alloc (.cells #[.slice A1 l1.length c1, .slice A2 l2.length c2, .slice A3 l3.length c3] 37) ∧ Below w.heap.size w V ∧ ULs V V.heap.size (some ⟨w.heap.size, 0, none⟩) [⟨A1, c1, l1⟩, ⟨A2, c2, l2⟩, ⟨A3, c3, l3⟩] := by
  obtain ⟨W, e1, s1, b1, o1⟩ := boxd w [.slice A1 l1.length c1, .slice A2 l2.length c2, .slice A3 l3.length c3] 37
  refine ⟨W, e1, b1, rw_own (t := 37) o1, fun s hs => ?_⟩
  simp only [List.mem_cons, List.not_mem_nil, or_false] at hs
  rcases hs with rfl | rfl | rfl
  · exact h1.keep b1
  · exact h2.keep b1
  · exact h3.keep b1
set_option maxRecDepth 100000 in
set_option maxHeartbeats 6400000 in
theorem partsI_any (cl : Int) (b : Bt) (m : Mg) (w : World) (hl : LvIn w w.heap.size ⟨cl, false, b, m⟩) :
    Calls Tryz.prog 76 #[(⟨cl, false, b, m⟩ : Lv).val] w (PartsSay ⟨cl, false, b, m⟩ w) := by
  obtain ⟨V, hV, hvb, hvs, hvo⟩ := lvbox w ⟨cl, false, b, m⟩
  obtain ⟨a0, a1, a2, a3, a4, a5, a6, a7, a8, a9⟩ := own10 hvo
  obtain ⟨V2, hV2, hb2, hs2, ho2⟩ := mgbox V m
  obtain ⟨b0, b1, b2, b3, b4, b5, b6, b7, b8, b9⟩ := own10 (hvo.past hb2 hvo.inside)
  have hin := (hl.keep hvb).keep hb2
  have HB := Lib.hid (And.intro (belows hvb hb2) hin.b.ups)
  rw [show (⟨cl, false, b, m⟩ : Lv).val = .agg #[.int .i64 cl, .bool false, .slice b.sA b.f.length b.sc, .slice b.uA b.l.length b.uc, .slice m.aA m.a.length m.ac, .slice m.bA m.b.length m.bc, .int .i64 m.i, .int .i64 m.j, .slice m.sA m.f.length m.sc, .slice m.oA m.o.length m.oc] from rfl]
  dsimp only at hV a0 a1 a2 a3 a4 a5 a6 a7 a8 a9 b0 b1 b2 b3 b4 b5 b6 b7 b8 b9
  have HP := Lib.hid (show ∀ (G : Nat) w', ULs w' w'.heap.size (some ⟨G, 0, none⟩) [⟨b.uA, b.uc, b.l⟩] → w.heap.size ≤ G → Below w.heap.size w w' → PartsSay ⟨cl, false, b, m⟩ w (.returned (.slice (some ⟨G, 0, none⟩) 1 1)) w' from fun G w' h1 h0 h2 => ⟨G, rfl, h1, h0, h2⟩)
  clear hl hvb hvs hvo hb2 hs2 ho2 hin
  go_enter Tryz.func76, Tryz.ntmps76
  go_upto_region 1 with fail
  rw [← hV]
  clear hV
  go_upto_region 2 with fail
  rw [← hV2]
  clear hV2
  go_wp2_with fail
  go_ret
  obtain ⟨W, hW, hbW, hoW⟩ := one_list V2 b.uA b.uc b.l HB.out.2
  rw [← hW]
  exact HP.out _ _ hoW HB.out.1.size (belows HB.out.1 hbW)
set_option maxRecDepth 100000 in
set_option maxHeartbeats 6400000 in
theorem partsB_any (cl : Int) (b : Bt) (m : Mg) (i j : Nat) (w : World) (hl : LvIn w w.heap.size ⟨cl, true, b, m⟩) (cm : McOk m) (hi : m.i = (i : Int)) (hj : m.j = (j : Int)) (hia : i ≤ m.a.length) (hjb : j ≤ m.b.length) (na : 0 < m.a.length) (nb : 0 < m.b.length) :
    Calls Tryz.prog 76 #[(⟨cl, true, b, m⟩ : Lv).val] w (PartsSay ⟨cl, true, b, m⟩ w) := by
  obtain ⟨V, hV, hvb, hvs, hvo⟩ := lvbox w ⟨cl, true, b, m⟩
  obtain ⟨a0, a1, a2, a3, a4, a5, a6, a7, a8, a9⟩ := own10 hvo
  obtain ⟨V2, hV2, hb2, hs2, ho2⟩ := mgbox V m
  obtain ⟨b0, b1, b2, b3, b4, b5, b6, b7, b8, b9⟩ := own10 (hvo.past hb2 hvo.inside)
  have hin := ((hl.keep hvb).keep hb2).m
  have HB := Lib.hid (And.intro (belows hvb hb2) (And.intro hin (And.intro hi (And.intro hj cm))))
  obtain ⟨ga, oa, hA, _⟩ := hin.a.head na
  obtain ⟨gb, ob, hBB, _⟩ := hin.b.head nb
  have hX := fun q : Past V2 => own6 (ho2.past q.h ho2.inside)
  rw [hA, hBB, hi, hj] at hX
  rw [show (⟨cl, true, b, m⟩ : Lv).val = .agg #[.int .i64 cl, .bool true, .slice b.sA b.f.length b.sc, .slice b.uA b.l.length b.uc, .slice m.aA m.a.length m.ac, .slice m.bA m.b.length m.bc, .int .i64 m.i, .int .i64 m.j, .slice m.sA m.f.length m.sc, .slice m.oA m.o.length m.oc] from rfl]
  dsimp only at hV a0 a1 a2 a3 a4 a5 a6 a7 a8 a9 b0 b1 b2 b3 b4 b5 b6 b7 b8 b9
  have HA := Lib.hid (And.intro hA hBB)
  have k1 := cm.a
  have k2 := cm.b
  have q1 : (0 : Int) ≤ (i : Int) := by omega
  have q2 : (i : Int) ≤ (m.a.length : Int) := by omega
  have q3 : (0 : Int) ≤ (j : Int) := by omega
  have q4 : (j : Int) ≤ (m.b.length : Int) := by omega
  obtain ⟨B1, hB1⟩ : ∃ B1 : Option Addr, (if m.ac = i then (some ⟨ga, oa, none⟩ : Option Addr) else some ⟨ga, oa + i * 6, none⟩) = B1 := ⟨_, rfl⟩
  obtain ⟨B2, hB2⟩ : ∃ B2 : Option Addr, (if m.bc = j then (some ⟨gb, ob, none⟩ : Option Addr) else some ⟨gb, ob + j * 6, none⟩) = B2 := ⟨_, rfl⟩
  have HBB := Lib.hid (show B1 = dropA m.aA m.ac i ∧ B2 = dropA m.bA m.bc j from by
    rw [← hB1, ← hB2, hA, hBB]
    exact ⟨rfl, rfl⟩)
  have HU := Lib.hid (show ∀ W, Below V2.heap.size V2 W → Ups W W.heap.size B1 (m.a.drop i) ∧ Ups W W.heap.size B2 (m.b.drop j) ∧ Ups W W.heap.size m.oA m.o from fun W hb => by
    rw [HBB.out.1, HBB.out.2]
    exact ⟨ups_dropQ (hin.a.keep hb) cm.a, ups_dropQ (hin.b.keep hb) cm.b, hin.o.keep hb⟩)
  have HPR := Lib.hid (show partsR ⟨cl, true, b, m⟩ = [⟨B1, m.ac - i, m.a.drop i⟩, ⟨B2, m.bc - j, m.b.drop j⟩, ⟨m.oA, m.oc, m.o⟩] from by
    rw [HBB.out.1, HBB.out.2]
    have e1 : m.i.toNat = i := by omega
    have e2 : m.j.toNat = j := by omega
    show (if true = true then _ else _) = _
    rw [if_pos rfl, e1, e2])
  clear hl hvb hvs hvo hb2 hs2 ho2 hin hi hj hA hBB cm
  go_enter Tryz.func76, Tryz.ntmps76
  go_upto_region 1 with fail
  rw [← hV]
  clear hV
  go_upto_region 2 with fail
  rw [← hV2]
  clear hV2
  go_upto_region 3 with fail
  refine wp_region_past_tail V2 12 (by kernel_rfl) (by kernel_rfl) (Below.refl _ _) ?_
  repeat (first | go_big_quiet_step (fail) | quiet_step (fail))
  refine wpQuiet_nil ?_
  intro wt hw'
  obtain ⟨⟨wu, hbt⟩, hw''⟩ := hw'
  dsimp only at hw''
  subst hw''
  have HT := Lib.hid hbt
  clear hX hbt
  go_wp2_with fail
  go_ret
  obtain ⟨W, hW, hbW, hoW⟩ := three_lists wt B1 B2 m.oA (m.ac - i) (m.bc - j) m.oc (m.a.drop i) (m.b.drop j) m.o (HU.out wt HT.out).1 (HU.out wt HT.out).2.1 (HU.out wt HT.out).2.2
  rw [List.length_drop, List.length_drop] at hW
  rw [← hW]
  have bb := belows HB.out.1 (belows HT.out hbW)
  exact ⟨wt.heap.size, by rw [HPR.out]; rfl, by rw [HPR.out]; exact hoW, (belows HB.out.1 HT.out).size, bb⟩
theorem parts_anyS (l : Lv) (f : List Tm) (w : World) (hl : LvIn w w.heap.size l) (ol : LvOk l) (hg : LvGood f l) (hp : 1 ≤ l.cls) : Calls Tryz.prog 76 #[l.val] w (PartsSay l w) := by
  obtain ⟨cl, bu, b, m⟩ := l
  cases bu
  · exact partsI_any cl b m w hl
  · obtain ⟨_, _, h3, h4, h5, _, _⟩ := hg.busy rfl
    have hp : 1 ≤ cl := hp
    have h4 : (clsN m.a.length : Int) = cl := h4
    have h5 : (clsN m.b.length : Int) = cl := h5
    have z1 := (cls_zero (n := m.a.length)).2
    have z2 := (cls_zero (n := m.b.length)).2
    have d1 : 0 ≤ m.i := h3.da.lo
    have d2 : m.i ≤ (m.a.length : Int) := h3.da.hi
    have d3 : 0 ≤ m.j := h3.db.lo
    have d4 : m.j ≤ (m.b.length : Int) := h3.db.hi
    exact partsB_any cl b m m.i.toNat m.j.toNat w hl ol.cap (by omega) (by omega) (by omega) (by omega) (by
      rcases Nat.eq_zero_or_pos m.a.length with h | h
      · have := z1 h; omega
      · exact h) (by
      rcases Nat.eq_zero_or_pos m.b.length with h | h
      · have := z2 h; omega
      · exact h)
end Go.Proofs.YtgalemkjgaiphaaGreat
namespace Go.Proofs.YtgalemkjgaiphaaGreat
open Go Go.RowKit

def listsS (L : List Lv) : List (Rw Up) := L.flatMap partsR
theorem listsS_flat (L : List Lv) : flatR (listsS L) = partsS L := by
  unfold listsS partsS flatR
  rw [List.flatMap_assoc]
  congr 1
  funext l
  exact partsR_flat l
theorem listsS_take {L : List Lv} {k : Nat} {l : Lv} (h : L[k]? = some l) : listsS (L.take (k + 1)) = listsS (L.take k) ++ partsR l := by
  unfold listsS
  rw [List.take_add_one, h, List.flatMap_append]
  simp
theorem listsS_len (L : List Lv) : (listsS L).length ≤ 3 * L.length := by
  induction L with
  | nil => exact Nat.zero_le _
  | cons l L ih =>
    have h := partsR_len l
    show ((l :: L).flatMap partsR).length ≤ _
    rw [List.flatMap_cons, List.length_append, List.length_cons]
    have ih : (L.flatMap partsR).length ≤ 3 * L.length := ih
    omega
theorem partsR_in {w : World} {B : Nat} {l : Lv} (h : LvIn w B l) (ol : LvOk l) : ∀ r ∈ partsR l, Ups w B r.A r.l := by
  intro r hr
  unfold partsR at hr
  split at hr
  · simp only [List.mem_cons, List.not_mem_nil, or_false] at hr
    rcases hr with rfl | rfl | rfl
    · exact ups_dropQ h.m.a ol.cap.a
    · exact ups_dropQ h.m.b ol.cap.b
    · exact h.m.o
  · simp only [List.mem_cons, List.not_mem_nil, or_false] at hr
    subst hr
    exact h.b.ups
theorem partsR_uok {l : Lv} (ol : LvOk l) : ∀ r ∈ partsR l, ∀ u ∈ r.l, UOk u := by
  intro r hr u hu
  unfold partsR at hr
  split at hr
  · simp only [List.mem_cons, List.not_mem_nil, or_false] at hr
    rcases hr with rfl | rfl | rfl
    · exact ol.m.a.ok u (List.mem_of_mem_drop hu)
    · exact ol.m.b.ok u (List.mem_of_mem_drop hu)
    · exact ol.m.o.ok u hu
  · simp only [List.mem_cons, List.not_mem_nil, or_false] at hr
    subst hr
    exact ol.b.l.ok u hu
theorem infoUl : (Tryz.prog.info? 37).map (fun i => (i.zero, i.size, i.bytes)) = some (some (.slice none 0 0), 1, 24) := by kernel_rfl
theorem rwcell_len {α : Type} (s : Rw α) : (Rw.cells s).length = 1 := rfl
def CollS (f : List Tm) (l : List Up) (w : World) (x : Ending) (w' : World) : Prop :=
  ∃ b : Bt, x = .returned (.tuple #[.slice b.uA b.l.length b.uc, .int .i64 (bldE f l)]) ∧ (bldE f l = 0 → FrontOk f ∧ b.f = f ∧ b.l.map Up.p = consL [advL f l]) ∧ (bldE f l ≠ 0 → b = Bt.nil) ∧ BtIn w' w'.heap.size b ∧ BtOk b ∧ BtLo w.heap.size b ∧ Below w.heap.size w w'
set_option maxRecDepth 100000 in
set_option maxHeartbeats 1600000 in
theorem all1_any (v : Value) (w : World) : Calls Tryz.prog 39 #[v] w fun e w' => e = .returned v ∧ Below w.heap.size w w' := by
  go_enter Tryz.func39, Tryz.ntmps39
  go_wp2_with fail
  go_ret
  exact ⟨rfl, Below.refl _ _⟩
structure ClI (base : Nat) (Ls : List (Rw Up)) (v : Value) (wr : World) : Prop where
  own : wr.ownsRow base 37 1 v Ls.length (Ls.flatMap Rw.cells)
structure PtI (v : Value) (G : Nat) (R : List (Rw Up)) (wr : World) : Prop where
  in_ : G < wr.heap.size
  ne : v.ownBlock ≠ some G
  cells : ∀ j r, R[j]? = some r → wr.cell? ⟨G, j, none⟩ = some (.slice r.A r.l.length r.c)
theorem PtI.push {v v' : Value} {G : Nat} {R : List (Rw Up)} {w w' : World} (h : PtI v G R w) (hg : w.grownBy w' v.ownBlock) (hv : v'.ownBlock = v.ownBlock ∨ v'.ownBlock = some (w.heap.size + 1)) : PtI v' G R w' := by
  have hin := h.in_
  refine ⟨Nat.lt_of_lt_of_le h.in_ hg.size, ?_, fun j r hr => ?_⟩
  · rcases hv with e | e
    · rw [e]; exact h.ne
    · rw [e]; intro hh; injection hh with hh; omega
  · rw [← h.cells j r hr]
    unfold World.cell?
    rw [hg.block G h.in_ (fun e => h.ne e.symm)]
theorem partsR_pos (l : Lv) : 0 < (partsR l).length := by
  unfold partsR
  split <;> simp
theorem cl_keep {base : Nat} {Ls : List (Rw Up)} {v : Value} {w w' : World} (h : ClI base Ls v w) (hb : Below w.heap.size w w') : ClI base Ls v w' := ⟨own_below h.own hb⟩
theorem pt_start {base : Nat} {Ls : List (Rw Up)} {v : Value} {w V w' : World} {G : Nat} {R : List (Rw Up)} (h : ClI base Ls v w) (_ : Below w.heap.size w w') (hG : V.heap.size ≤ G) (hV : w.heap.size ≤ V.heap.size) (hu : ULs w' w'.heap.size (some ⟨G, 0, none⟩) R) (hp : 0 < R.length) : PtI v G R w' := by
  obtain ⟨g, o, e, hgi, hgc⟩ := hu.head hp
  simp only [Option.some.injEq, Addr.mk.injEq, and_true] at e
  obtain ⟨rfl, rfl⟩ := e
  refine ⟨hgi, fun e => ?_, fun j r hr => ?_⟩
  · have := (h.own.lt _ e).2
    omega
  · have := hgc j r hr 0 _ rfl
    simpa using this
theorem PtI.keep {v : Value} {G : Nat} {R : List (Rw Up)} {w w' : World} (h : PtI v G R w) (hb : Below w.heap.size w w') : PtI v G R w' :=
  ⟨Nat.lt_of_lt_of_le h.in_ hb.size, h.ne, fun j r hr => (hb.cell (p := ⟨G, j, none⟩) h.in_).trans (h.cells j r hr)⟩
theorem cl_push {base : Nat} {Ls : List (Rw Up)} {r : Rw Up} {v : Value} {w : World} (h : w.ownsRow base 37 1 v (Ls.length + 1) (Ls.flatMap Rw.cells ++ #[Value.slice r.A r.l.length r.c].toList)) : ClI base (Ls ++ [r]) v w := by
  refine ⟨?_⟩
  rw [List.length_append, List.flatMap_append]
  exact h
set_option maxRecDepth 100000 in
set_option maxHeartbeats 6400000 in
theorem collect_all (s : Sp) (w : World) (hs : SpIn w w.heap.size s) (os : SpOk s) (hg : SpGood s.f s.L) (hn : (partsS s.L).length ≤ 1099511627776) :
    Calls Tryz.prog 38 #[s.val, .func (.func 39) #[] #[]] w (CollS s.f (partsS s.L) w) := by
  obtain ⟨i0, hi, hz0, hz1, hz2⟩ := info_parts infoUl
  have HI := Lib.hid (And.intro Tryz.underlying26 (And.intro hi (And.intro hz0 (And.intro hz1 hz2))))
  obtain ⟨V, hV, hvb, hvs, hvo⟩ := spbox w s
  have hin := hs.keep hvb
  have H := Lib.hid (And.intro hin (And.intro os (And.intro hvb (And.intro hvo (And.intro hg hn)))))
  have hnL := os.n
  rw [show s.val = .agg #[.slice s.sA s.f.length s.sc, .slice s.lA s.L.length s.lc] from rfl]
  have hX := Lib.hid (fun W (hb : Below V.heap.size V W) => own2 (hvo.past hb hvo.inside))
  obtain ⟨d0, d1⟩ := own2 hvo
  have h0 := World.ownsRow_nil V V.heap.size 37 1
  clear hs os hvb hvs hvo hin hi hz0 hz1 hz2 hg hn
  go_enter Tryz.func38, Tryz.ntmps38
  go_upto_region 1 with fail
  rw [← hV]
  clear hV
  go_wp2_with fail
  go_loopw [6, 16] (fun v i wr => ∃ k : Nat, i = .int .i64 (k : Int) ∧ k ≤ s.L.length ∧ ClI V.heap.size (listsS (s.L.take k)) v wr ∧ Below V.heap.size V wr)
    (fun _ i _ => s.L.length - (intOf i).toNat)
  case atStart => exact ⟨0, rfl, by omega, ⟨h0⟩, Below.refl _ _⟩
  case round =>
    obtain ⟨k, rfl, hk, hown, hb⟩ := hrel
    by_cases hlt : k < s.L.length
    · obtain ⟨l, hl⟩ : ∃ l, s.L[k]? = some l := ⟨_, List.getElem?_eq_getElem hlt⟩
      obtain ⟨b, o, hA, hB, hc⟩ := lies_lv H.out.1.lev.head (by omega)
      obtain ⟨c0, c1, c2, c3, c4, c5, c6, c7, c8, c9⟩ := lv_ten fun j u hj => (hb.cell (p := ⟨b, o + k * 10 + j, none⟩) hB).trans (hc k l hl j u hj)
      have hlm := List.mem_of_getElem? hl
      have hli := ((H.out.1.lev.each_ l hlm).past hb (Nat.le_refl _)).wide hb.size
      have hlo := H.out.2.1.each_ l hlm
      obtain ⟨V5, hV5, hb5, hs5, ho5⟩ := lvbox wr l
      obtain ⟨e0, e1, e2, e3, e4, e5, e6, e7, e8, e9⟩ := own10 ho5
      have u1 := Lib.hid (parts_anyS l s.f V5 (hli.keep hb5) hlo (H.out.2.2.2.2.1.each l hlm) (H.out.2.2.2.2.1.pos l hlm))
      rw [show l.val = .agg #[.int .i64 l.cls, .bool l.busy, .slice l.b.sA l.b.f.length l.b.sc, .slice l.b.uA l.b.l.length l.b.uc, .slice l.m.aA l.m.a.length l.m.ac, .slice l.m.bA l.m.b.length l.m.bc, .int .i64 l.m.i, .int .i64 l.m.j, .slice l.m.sA l.m.f.length l.m.sc, .slice l.m.oA l.m.o.length l.m.oc] from rfl] at u1
      have hpl := partsR_len l
      have hll := listsS_len (s.L.take k)
      rw [List.length_take, Nat.min_eq_left (by omega)] at hll
      have htk := listsS_take hl
      have HA := Lib.hid hA
      have HK := Lib.hid (And.intro hown (And.intro hb (And.intro hb5 htk)))
      have q0 : (0 : Int) ≤ (k : Int) := by omega
      have q1 : (k : Int) < (s.L.length : Int) := by omega
      obtain ⟨d0, d1⟩ := hX.out wr hb
      clear hlm hli hlo hl hown hb hb5 htk hc
      go_upto_region 5 with fail
      rw [← hV5]
      clear hV5
      go_wp2_with fail
      refine u1.out.mono ?_
      rintro _ w1 ⟨G, rfl, hul, hG, hb1⟩
      have hpt := pt_start HK.out.1 (belows HK.out.2.2.1 hb1) hG HK.out.2.2.1.size hul (partsR_pos l)
      have hb1' := belows HK.out.2.1 (belows HK.out.2.2.1 hb1)
      have hown1 := cl_keep HK.out.1 (belows HK.out.2.2.1 hb1)
      have H1 := Lib.hid (And.intro hpt (And.intro hb1' hown1))
      have hpp := partsR_pos l
      clear hpt hb1' hown1 hul hG hb1
      clear u1 e0 e1 e2 e3 e4 e5 e6 e7 e8 e9 c0 c1 c2 c3 c4 c5 c6 c7 c8 c9 d0 d1
      go_wp2_with fail
      go_loopw [6, 23] (fun v i wi => ∃ j : Nat, i = .int .i64 (j : Int) ∧ j ≤ (partsR l).length ∧ ClI V.heap.size (listsS (s.L.take k) ++ (partsR l).take j) v wi ∧ PtI v G (partsR l) wi ∧ Below V.heap.size V wi)
        (fun _ i _ => (partsR l).length - (intOf i).toNat)
      case atStart => exact ⟨0, rfl, by omega, by simpa using H1.out.2.2, H1.out.1, H1.out.2.1⟩
      case round =>
        obtain ⟨j, rfl, hj, hown2, hp2, hb2⟩ := hrel
        by_cases hlt2 : j < (partsR l).length
        · obtain ⟨r, hr⟩ : ∃ r, (partsR l)[j]? = some r := ⟨_, List.getElem?_eq_getElem hlt2⟩
          have z0 := hp2.cells j r hr
          have z1 := z0
          rw [show j = 0 + j by omega] at z1
          have q2 : (0 : Int) ≤ (j : Int) := by omega
          have q3 : (j : Int) < ((partsR l).length : Int) := by omega
          have htj : (partsR l).take (j + 1) = (partsR l).take j ++ [r] := by rw [List.take_add_one, hr]; rfl
          have hlj : (listsS (s.L.take k) ++ (partsR l).take j).length ≤ 3 * k + 3 := by rw [List.length_append, List.length_take]; omega
          generalize hLs : listsS (s.L.take k) ++ (partsR l).take j = Ls at hown2 hlj
          have H2 := Lib.hid (And.intro hown2 (And.intro hp2 (And.intro hb2 (And.intro hLs htj))))
          clear hown2 hp2 hb2 hr hLs htj
          go_wp2_with fail
          refine (all1_any _ _).mono ?_
          rintro _ w2 ⟨rfl, b2⟩
          have hown3 := cl_keep H2.out.1 b2
          have hp3 := H2.out.2.1.keep b2
          have hb3 := belows H2.out.2.2.1 b2
          have H3 := Lib.hid (And.intro hown3 (And.intro hp3 hb3))
          clear b2 hown3 hp3 hb3 z0 z1
          go_wp2_with (at_builtin; refine wpList_push _ rfl _ _ 26 rfl V.heap.size 37 i0 _ 1 24 HI.out.1 HI.out.2.1 HI.out.2.2.1 HI.out.2.2.2.1 HI.out.2.2.2.2 rfl (by decide) _ _ _ rfl H3.out.1.own #[.slice r.A r.l.length r.c] rfl rfl ?k1 ?k2 ?k3 ?k4 ?_)
          case k1 => rfl
          case k2 => unfold maxLen; omega
          case k3 => omega
          case k4 => exact H3.out.2.2.size
          intro v4 w4 ho4 hb4 hv4 hg4
          have hp4 := H3.out.2.1.push hg4 hv4
          have hb5 := H3.out.2.2.trans hb4
          have ho5 : ClI V.heap.size (Ls ++ [r]) v4 w4 := cl_push ho4
          rw [← H2.out.2.2.2.1, List.append_assoc, ← H2.out.2.2.2.2] at ho5
          have H4 := Lib.hid (And.intro ho5 (And.intro hp4 hb5))
          clear ho4 hb4 hv4 hg4 hp4 hb5 ho5
          go_wp2_with fail
          go_roundw
          case rel => exact ⟨j + 1, by go_num, by omega, H4.out.1, H4.out.2.1, H4.out.2.2⟩
          case measure => simp [intOf]; omega
        · have hj2 : j = (partsR l).length := by omega
          subst hj2
          rw [List.take_length, ← HK.out.2.2.2] at hown2
          have H2 := Lib.hid (And.intro hown2 hb2)
          clear hown2 hb2 hp2
          go_wp2_with fail
          clear hA
          rw [← HA.out]
          go_roundw
          case rel =>
            exact ⟨k + 1, by go_num, by omega, H2.out.1, H2.out.2⟩
          case measure => simp [intOf]; omega
    · have hk2 : k = s.L.length := by omega
      subst hk2
      rw [List.take_length] at hown
      have hll := listsS_len s.L
      obtain ⟨A7, k7, hv7, _, _, hl7⟩ := lies_of_own (l := listsS s.L) (by decide) rwcell_len rfl hown.own
      subst hv7
      obtain ⟨d0, d1⟩ := hX.out wr hb
      have hul : ULs wr wr.heap.size A7 (listsS s.L) := ⟨hl7, fun r hr => by
        obtain ⟨l, hl, hrl⟩ := List.mem_flatMap.1 hr
        exact ((partsR_in (H.out.1.lev.each_ l hl) (H.out.2.1.each_ l hl) r hrl).past hb (Nat.le_refl _)).wide hb.size⟩
      have u1 := Lib.hid (build_any s.sA s.sc s.f A7 k7 (listsS s.L) wr ((H.out.1.since.past hb (Nat.le_refl _)).wide hb.size) H.out.2.1.f hul (fun r hr => by
        obtain ⟨l, hl, hrl⟩ := List.mem_flatMap.1 hr
        exact partsR_uok (H.out.2.1.each_ l hl) r hrl) (by rw [listsS_flat]; exact H.out.2.2.2.2.2) (by omega))
      rw [listsS_flat] at u1
      have HH := Lib.hid hb
      clear hb hown hl7 hul
      go_wp2_with fail
      refine u1.out.mono ?_
      rintro _ w1 ⟨bt, rfl, h1, h2, h3, h4, h5, h6⟩
      have hbx := HH.out
      have H1 := Lib.hid (And.intro h1 (And.intro h2 (And.intro h3 (And.intro h4 (And.intro h5 h6)))))
      clear h1 h2 h3 h4 h5 h6 u1
      rw [show bt.val = .agg #[.slice bt.sA bt.f.length bt.sc, .slice bt.uA bt.l.length bt.uc] from rfl]
      go_wp2_with fail
      exact bodyPost_ret (v := .tuple #[.slice bt.uA bt.l.length bt.uc, .int .i64 (bldE s.f (partsS s.L))]) (by simp [results, Tryz.results38, go_sem]) rfl ⟨bt, rfl, H1.out.1, H1.out.2.1, H1.out.2.2.1.keep ((Below.refl _ _).alloc (Nat.le_refl _) _), H1.out.2.2.2.1, H1.out.2.2.2.2.1.mono (belows H.out.2.2.1 hbx).size, belows (belows H.out.2.2.1 (belows hbx H1.out.2.2.2.2.2)) ((Below.refl _ _).alloc (Nat.le_refl _) _)⟩
end Go.Proofs.YtgalemkjgaiphaaGreat
