/- Part 15 of the texts on which JoinThere rests: facts and contracts. -/
import Derived.Test.YtjffohpdjicfpaaGreatJoinThereM14
namespace Go.Proofs.YtjffohpdjicfpaaGreat
open Go Go.RowKit
structure CopySC (s s' : Sp) (B : Nat) (w' : World) : Prop extends CopyS s s' B w' where
  rm : ∀ l ∈ s'.L, LvRm l
def CopiedSC (s : Sp) (w : World) (x : Ending) (w' : World) : Prop := ∃ s' : Sp, x = .returned s'.val ∧ CopySC s s' w.heap.size w' ∧ Below w.heap.size w w'
structure CpStC (V wr : World) (G k : Nat) (L M : List Lv) : Prop extends CpSt V wr G k L M where
  rm : ∀ l ∈ M, LvRm l
theorem rm_of {c : Int} {u : Bool} {b : Bt} {m : Mg} (ob : BtOk b) (h : b.uc = b.l.length) (h2 : m.o.length ≤ m.oc ∧ m.oc ≤ maxLen) : LvRm ⟨c, u, b, m⟩ := by
  have := ob.l.n
  exact ⟨by show b.l.length ≤ b.uc; omega, by show b.uc ≤ maxLen; unfold maxLen; omega, h2.1, h2.2⟩
theorem cp_nextC {V wr X : World} {G k : Nat} {L M : List Lv} {l l' : Lv} {w7 : World} (h : CpStC V wr G k L M) (hl : L[k]? = some l) (hb : Below wr.heap.size wr w7) (hX : X = setsAt w7 G (k * 10 + 2) (l'.cells.drop 2)) (hc : l'.cls = l.cls) (hbu : l'.busy = l.busy) (hpl : l'.pl = l.pl) (hin : LvIn w7 w7.heap.size l') (hok : LvOk l') (hlo : LvLo (G + 1) l') (hrm : LvRm l') :
    CpStC V X G (k + 1) L (M ++ [l']) := ⟨cp_next h.toCpSt hl hb hX hc hbu hpl hin hok hlo, fun x hx => by
  rcases List.mem_append.1 hx with hx | hx
  · exact h.rm x hx
  · obtain rfl : x = l' := by simpa using hx
    exact hrm⟩
theorem cp_endC {s : Sp} {w V wr : World} {G : Nat} {A : Option Addr} {M : List Lv} (h : CpStC V wr G s.L.length s.L M) (hs : SpOk s) (hA : Times V V.heap.size A s.f) (hAl : LoT w.heap.size A) (hAo : OfT (fun b => b = G) A s.f.length) (hG : w.heap.size ≤ G) (hv : Below w.heap.size w V) :
    CopySC s ⟨A, s.f.length, s.f, some ⟨G, 0, none⟩, s.L.length, M⟩ w.heap.size wr := ⟨cp_end h.toCpSt hs hA hAl hAo hG hv, h.rm⟩
theorem CopySC.low {s s' : Sp} {B B' : Nat} {w : World} (h : CopySC s s' B w) (hB : B' ≤ B) : CopySC s s' B' w := ⟨h.toCopyS.low hB, h.rm⟩
theorem CopySC.kept {s s' : Sp} {B P : Nat} {w X : World} (h : CopySC s s' B w) (k : KeptK w X (fun b => b = P)) (hP : P < B) : CopySC s s' B X := ⟨h.toCopyS.kept k hP, h.rm⟩
theorem cp_outC {s : Sp} {V wc : World} {P : Nat} {A1 A2 : Option Addr} (ok : SpOk s) (hL : s.L = []) (hm : CpMid s V wc P A1 A2) (Q : Nat) (hQ : Q < V.heap.size) : CopySC s ⟨A1, s.f.length, s.f, none, 0, []⟩ V.heap.size ((wc.setCell ⟨Q, 0, none⟩ (.slice A1 s.f.length s.f.length)).setCell ⟨Q, 1, none⟩ (.slice none 0 0)) := ⟨cp_out ok hL hm Q hQ, fun l hl => by cases hl⟩
set_option maxRecDepth 100000 in
set_option maxHeartbeats 12800000 in
theorem copyS_anyC (s : Sp) (w : World) (hs : SpIn w w.heap.size s) (ok : SpOk s) (hg : SpGood s.f s.L) (hwt : wtS s.L ≤ 274877906944) :
    Calls Tryz.prog 28 #[s.val] w (CopiedSC s w) := by
  obtain ⟨V, hV, hvb, hvs, hvo, hvz⟩ := sp_box2 w s
  have hin := hs.keep hvb
  have hfn := ok.f.n
  have hLn := ok.n
  have y1 := fun W (h : Bl V W) => Lib.hid (listT_times s.sA s.sc s.f W (hin.keep h).since (by omega))
  have y2 := fun W (h : Bl V W) => Lib.hid (listS_any s.lA s.lc s.L W (hin.keep h).lev.head (by omega))
  have H := Lib.hid (And.intro hs (And.intro ok (And.intro hg (And.intro hwt (And.intro hvb (And.intro hvo hvz))))))
  have hself := Bl.refl V
  have hbs : V.heap.size ≤ V.heap.size := Nat.le_refl _
  have HS := Lib.hid (fun W (h : Bm V.heap.size V W) => own2 (hvo.past h hvo.inside))
  obtain ⟨d0, d1⟩ := own2 hvo
  rw [show s.val = .agg #[.slice s.sA s.f.length s.sc, .slice s.lA s.L.length s.lc] from rfl]
  have HP := Lib.hid (show ∀ x w' (s' : Sp), x = .returned s'.val → CopySC s s' w.heap.size w' → Below w.heap.size w w' → CopiedSC s w x w' from fun x w' s' h1 h2 h3 => ⟨s', h1, h2, h3⟩)
  clear hs ok hg hwt hvb hvs hvo hvz hin hfn
  go_enter Tryz.func28, Tryz.ntmps28
  go_upto_region 1 with fail
  rw [← hV]
  clear hV
  go_cut [3] (fun s3 wx => ∃ (P : Nat) (A1 A2 : Option Addr), s3 = .pointer (some ⟨P, 0, none⟩) ∧ CpMid s V wx P A1 A2)
  case first =>
    go_region_held3 (fun w' => Bm V.heap.size V w' ∧ (w'.cell? ⟨w.heap.size, 0, none⟩ = some (.slice s.sA s.f.length s.sc) ∧ w'.cell? ⟨w.heap.size, 1, none⟩ = some (.slice s.lA s.L.length s.lc)))
      ((refine (fun h => And.intro h (HS.out _ h)) ?_; repeat (first | with_reducible exact Bm.of hb2 hbs | with_reducible exact Bm.of hb1 hbs | with_reducible exact Bm.of hself hbs | with_reducible refine Bm.set ?_ (by first | exact Nat.le_refl _ | exact hb1.below.size | (have z6 := hb1.below.size; simp; omega) | (have z6 := hb2.below.size; simp; omega)) _ _ | with_reducible refine Bm.more ?_ hbs _ | with_reducible refine Bm.drew ?_)))
      (first | (go_at_call 62; refine (y2 _ ?_).out.mono ?_; (repeat (first | with_reducible exact hb1 | with_reducible refine Bl.more ?_ _ | with_reducible refine Bl.drew ?_)); rintro _ w2 ⟨A2, rfl, nil2, own2_, b2⟩; have hb2 : Bl V w2 := Bl.call (by repeat (first | with_reducible exact hb1 | with_reducible refine Bl.more ?_ _ | with_reducible refine Bl.drew ?_)) b2; (try (have oz : Own w2 V.heap.size 36 [.slice none 0 0, .slice none 0 0] := oz1.past b2 (by have := oz1.inside; simpa using this); obtain ⟨e0, e1⟩ := own2 oz; have f0 := oz.open_ 0; have f1 := oz.open_ 1)); (try (have oz : Own w2 w1.heap.size 36 [.slice none 0 0, .slice none 0 0] := (Own.past (by first | exact Own.made _ _ [.slice none 0 0, .slice none 0 0] | exact own_drewKS (Own.made _ _ [.slice none 0 0, .slice none 0 0])) b2 (by simp)); obtain ⟨e0, e1⟩ := own2 oz; have f0 := oz.open_ 0; have f1 := oz.open_ 1))) | (go_at_call 39; refine (y1 _ ?_).out.mono ?_; (repeat (first | with_reducible exact hself | with_reducible refine Bl.more ?_ _ | with_reducible refine Bl.drew ?_)); rintro _ w1 ⟨A1, rfl, v1, n1, b1⟩; have hb1 : Bl V w1 := Bl.call (by repeat (first | with_reducible exact hself | with_reducible refine Bl.more ?_ _ | with_reducible refine Bl.drew ?_)) b1; (try (have oz1 : Own w1 V.heap.size 36 [.slice none 0 0, .slice none 0 0] := (Own.past (by first | exact Own.made _ _ [.slice none 0 0, .slice none 0 0] | exact own_drewKS (Own.made _ _ [.slice none 0 0, .slice none 0 0])) b1 (by simp))))))
    all_goals
      go_wp2_with fail
      go_meet
    · refine ⟨_, A1, A2, rfl, cp_mid hb1 v1 (fun b o e => ⟨(n1 b o e).1, (n1 b o e).2, ?_⟩) (Below.refl _ _) b2 (fun h => (nil2 h).1) own2_ ((KeptK.refl _ _).alloc _) (fun hp => ?_) hb2.below.size (Own.made w2 _ [.slice A1 s.f.length s.f.length, .slice A2 s.L.length s.L.length])⟩
      · have := (n1 b o e).2; have := b2.size; omega
      · have := (own2_ hp).2.inside; omega
    · refine ⟨_, A1, A2, rfl, cp_mid hb1 v1 (fun b o e => ⟨(n1 b o e).1, (n1 b o e).2, ?_⟩) ((Below.refl _ _).alloc (Nat.le_refl _) _) b2 (fun h => (nil2 h).1) own2_ (KeptK.set_ (S := fun b => b = w1.heap.size) (KeptK.set_ (S := fun b => b = w1.heap.size) (KeptK.refl _ _) (.inl rfl) _) (.inl rfl) _) (fun hp => (by simp)) hb1.below.size ((oz.set_ 0 _).set_ 1 _)⟩
      have := (n1 b o e).2; omega
    · refine ⟨_, A1, A2, rfl, cp_mid hb1 v1 (fun b o e => ⟨?_, (n1 b o e).2, ?_⟩) (Below.refl _ _) b2 (fun h => (nil2 h).1) own2_ (KeptK.set_ (S := fun b => b = V.heap.size) (KeptK.set_ (S := fun b => b = V.heap.size) (KeptK.refl _ _) (.inl rfl) _) (.inl rfl) _) (fun hp => ?_) (Nat.le_refl _) ((oz.set_ 0 _).set_ 1 _)⟩
      · have := (n1 b o e).1; simp at this; omega
      · have := (n1 b o e).1; simp at this; omega
      · have := oz1.inside; omega
  case rest =>
    obtain ⟨P, A1, A2, rfl, hm⟩ := hcut
    have hbv := hm.below
    have hP := hm.hp
    have HM := Lib.hid hm
    have hvz := H.out.2.2.2.2.2.2
    have hzi := hvz.inside
    obtain ⟨p0, p1⟩ := own2 hm.own
    by_cases hL : s.L = []
    · have hA2 := hm.nil hL
      have hL0 : s.L.length = 0 := by rw [hL]; rfl
      rw [hA2, hL0] at p1
      have oz := hvz.past hbv hzi
      obtain ⟨z0, z1⟩ := own2 oz
      have f0 := oz.open_ 0
      have f1 := oz.open_ 1
      have hX := (oz.set_ 0 (.slice A1 s.f.length s.f.length)).set_ 1 (.slice none 0 0)
      obtain ⟨x0, x1⟩ := own2 hX
      have HX := Lib.hid (cp_outC H.out.2.1 hL hm (w.heap.size + 1) hzi)
      have HB := Lib.hid (show Below w.heap.size w ((wc.setCell ⟨w.heap.size + 1, 0, none⟩ (.slice A1 s.f.length s.f.length)).setCell ⟨w.heap.size + 1, 1, none⟩ (.slice none 0 0)) from ((H.out.2.2.2.2.1.trans (hbv.mono H.out.2.2.2.2.1.size)).setCell (p := ⟨w.heap.size + 1, 0, none⟩) (Nat.le_succ _) _).setCell (p := ⟨w.heap.size + 1, 1, none⟩) (Nat.le_succ _) _)
      have hsz := H.out.2.2.2.2.1.size
      clear hm hbv hP hvz hzi hL hA2 hL0 oz hX y1 y2
      go_wp2_with fail
      go_loopw [16] (fun v16 wr => v16 = .int .i64 0 ∧ wc = wr) (fun _ _ => 0)
      case atStart => exact ⟨rfl, rfl⟩
      case round =>
      obtain ⟨rfl, rfl⟩ := hrel
      go_wp2_with fail
      exact bodyPost_ret (v := .agg #[.slice A1 s.f.length s.f.length, .slice none 0 0]) (by simp [results, Tryz.results28, go_sem, x0, x1]) rfl (HP.out _ _ ⟨A1, s.f.length, s.f, none, 0, []⟩ rfl (HX.out.low hsz) HB.out)
    have hn : 0 < s.L.length := List.length_pos_iff.2 hL
    obtain ⟨G, rfl, oG, hG, hGP, hAG⟩ := hm.lev hn
    have HG := Lib.hid (And.intro hG (And.intro hGP hAG))
    have HC0 := Lib.hid (show CpStC wc wc G 0 s.L [] from ⟨⟨rfl, rfl, oG, fun l hl => (by cases hl), KeptK.refl _ _⟩, fun l hl => (by cases hl)⟩)
    clear hm hbv hP hvz hzi oG hG hGP hAG hL y1 y2 hself
    go_wp2_with fail
    go_loopw [16] (fun v16 wr => ∃ (k : Nat) (M : List Lv), v16 = .int .i64 (k : Int) ∧ k ≤ s.L.length ∧ CpStC wc wr G k s.L M)
      (fun v16 _ => s.L.length - (intOf v16).toNat)
    case atStart => exact ⟨0, [], rfl, by omega, HC0.out⟩
    case round =>
      obtain ⟨k, M, rfl, hk, hst⟩ := hrel
      have hbw : Below V.heap.size V wr := HM.out.below.trans (hst.kept.below (fun b e => by rw [e]; exact HG.out.1) HM.out.below.size)
      have oP := hst.kept.own HM.out.own (fun e => HG.out.2.1 e.symm)
      obtain ⟨p0, p1⟩ := own2 oP
      have HST := Lib.hid (And.intro hst (And.intro hbw oP))
      by_cases hlt : k < s.L.length
      · obtain ⟨l, hl⟩ : ∃ l, s.L[k]? = some l := ⟨_, List.getElem?_eq_getElem hlt⟩
        have hlm := List.mem_of_getElem? hl
        have hd : s.L.drop k = l :: s.L.drop (k + 1) := by
          have := List.getElem?_eq_some_iff.1 hl
          rw [List.drop_eq_getElem_cons this.1, this.2]
        have hown := hst.own
        rw [hd] at hown
        have hcell := at_level hown
        rw [hst.len] at hcell
        obtain ⟨c0, c1, c2, c3, c4, c5, c6, c7, c8, c9⟩ := lv_ten hcell
        obtain ⟨V5, hV5, hb5, hs5, ho5⟩ := lvbox wr l
        have hli := (((H.out.1.lev.each_ l hlm).past H.out.2.2.2.2.1 (Nat.le_refl _)).wide H.out.2.2.2.2.1.size).keep (belows hbw hb5)
        have hlo := H.out.2.1.each_ l hlm
        obtain ⟨g1, g2, g3⟩ := good_small (H.out.2.2.1.each l hlm) (Nat.le_trans (wt_leC hlm) H.out.2.2.2.1)
        have z1 := fun W (h : Bl V5 W) => Lib.hid (copyB_anyC l.b W (hli.b.keep h) hlo.b g1 g2)
        have z2 := fun W (h : Bl V5 W) => Lib.hid (copyM_any l.m W (hli.m.keep h) hlo.m g3)
        have oG5 := hown.past hb5 hown.inside
        have oP5 := oP.past hb5 oP.inside
        have HS5 := Lib.hid (show ∀ W, KeptK V5 W (fun b => b = G) → W.cell? ⟨P, 1, none⟩ = some (.slice (some ⟨G, 0, none⟩) s.L.length s.L.length) ∧ W.cell? ⟨wr.heap.size, 2, none⟩ = some (.slice l.b.sA l.b.f.length l.b.sc) ∧ W.cell? ⟨wr.heap.size, 3, none⟩ = some (.slice l.b.uA l.b.l.length l.b.uc) ∧ W.cell? ⟨wr.heap.size, 4, none⟩ = some (.slice l.m.aA l.m.a.length l.m.ac) ∧ W.cell? ⟨wr.heap.size, 5, none⟩ = some (.slice l.m.bA l.m.b.length l.m.bc) ∧ W.cell? ⟨wr.heap.size, 6, none⟩ = some (.int .i64 l.m.i) ∧ W.cell? ⟨wr.heap.size, 7, none⟩ = some (.int .i64 l.m.j) ∧ W.cell? ⟨wr.heap.size, 8, none⟩ = some (.slice l.m.sA l.m.f.length l.m.sc) ∧ W.cell? ⟨wr.heap.size, 9, none⟩ = some (.slice l.m.oA l.m.o.length l.m.oc) from fun W h => by
          have o1 := h.own oP5 (fun e => HG.out.2.1 e.symm)
          have o2 := h.own ho5 (fun e => by have := hown.inside; omega)
          exact ⟨o1.at_ 1, o2.at_ 2, o2.at_ 3, o2.at_ 4, o2.at_ 5, o2.at_ 6, o2.at_ 7, o2.at_ 8, o2.at_ 9⟩)
        have hkself : KeptK V5 V5 (fun b => b = G) := KeptK.refl _ _
        have hself := Bl.refl V5
        have HL := Lib.hid (And.intro hl (And.intro oG5 (And.intro hb5 (And.intro hlo (And.intro hown.inside hst.len)))))
        obtain ⟨r0, r1, r2, r3, r4, r5, r6, r7, r8, r9⟩ := own10 ho5
        have q0 : (0 : Int) ≤ (k : Int) := by omega
        have q1 : (k : Int) < (s.L.length : Int) := by omega
        unfold Bt.val at z1
        unfold Mg.val at z2
        clear hst hbw oP hlm hd hown hcell hli hlo g1 g2 g3 oG5 oP5 hb5 hs5 ho5 hl
        go_upto_region 5 with fail
        rw [← hV5]
        clear hV5
        go_region_held3 (fun w' => KeptK V5 w' (fun b => b = G) ∧ (w'.cell? ⟨P, 1, none⟩ = some (.slice (some ⟨G, 0, none⟩) s.L.length s.L.length) ∧ w'.cell? ⟨wr.heap.size, 2, none⟩ = some (.slice l.b.sA l.b.f.length l.b.sc) ∧ w'.cell? ⟨wr.heap.size, 3, none⟩ = some (.slice l.b.uA l.b.l.length l.b.uc) ∧ w'.cell? ⟨wr.heap.size, 4, none⟩ = some (.slice l.m.aA l.m.a.length l.m.ac) ∧ w'.cell? ⟨wr.heap.size, 5, none⟩ = some (.slice l.m.bA l.m.b.length l.m.bc) ∧ w'.cell? ⟨wr.heap.size, 6, none⟩ = some (.int .i64 l.m.i) ∧ w'.cell? ⟨wr.heap.size, 7, none⟩ = some (.int .i64 l.m.j) ∧ w'.cell? ⟨wr.heap.size, 8, none⟩ = some (.slice l.m.sA l.m.f.length l.m.sc) ∧ w'.cell? ⟨wr.heap.size, 9, none⟩ = some (.slice l.m.oA l.m.o.length l.m.oc)))
          ((refine (fun h => And.intro h (HS5.out _ h)) ?_; repeat (first | with_reducible exact hk7 | with_reducible exact hk6 | with_reducible exact hkself | with_reducible refine KeptK.set_ (S := fun b => b = G) ?_ (.inl rfl) _ | with_reducible refine KeptK.drew ?_)))
          (first | (go_at_call 64; refine (z2 _ hb6).out.mono ?_; rintro _ w7 ⟨m', rfl, sm, im, om, lm, b7, am⟩; unfold Mg.val; have hb7 : Bl V5 w7 := Bl.call hb6 b7; have hk7 : KeptK V5 w7 (fun b => b = G) := KeptK.of_below hb7.below (Nat.le_refl _) _; have oG7 := HL.out.2.1.past hb7.below HL.out.2.1.inside; have gg := fun j => oG7.open_ j; have hc7 := at_level oG7; rw [HL.out.2.2.2.2.2] at hc7; obtain ⟨c0, c1, c2, c3, c4, c5, c6, c7, c8, c9⟩ := lv_ten hc7; have g2 := gg (k * 10 + 2); have g3 := gg (k * 10 + 3); have g4 := gg (k * 10 + 4); have g5 := gg (k * 10 + 5); have g6 := gg (k * 10 + 6); have g7 := gg (k * 10 + 7); have g8 := gg (k * 10 + 8); have g9 := gg (k * 10 + 9); clear gg hc7 oG7) | (go_at_call 63; refine (z1 _ hself.drew).out.mono ?_; rintro _ w6 ⟨b', rfl, sb, ib, ob, lb, b6, cb⟩; replace cb := Lib.hid cb; unfold Bt.val; have hb6 : Bl V5 w6 := Bl.call hself.drew b6; have hk6 : KeptK V5 w6 (fun b => b = G) := KeptK.of_below hb6.below (Nat.le_refl _) _))
        have ib7 := ib.keep b7
        have HN := Lib.hid (cp_nextC (l' := ⟨l.cls, l.busy, b', m'⟩) (w7 := w7) HST.out.1 HL.out.1 (belows HL.out.2.2.1 hb7.below) rfl rfl rfl (LvEq.to ⟨rfl, rfl, sb.f, sb.l, sm.a, sm.b, sm.i, sm.j, sm.f, sm.o⟩) ⟨ib7, im⟩ ⟨HL.out.2.2.2.1.c, ob, om, mc_of om ⟨am.ac, am.bc⟩⟩ ⟨lb.mono (by have h1 := HL.out.2.2.2.2.1; have h2 := HL.out.2.2.1.size; show G + 1 ≤ V5.heap.size; omega), lm.mono (by have h1 := HL.out.2.2.2.2.1; have h2 := HL.out.2.2.1.size; have h3 := hb6.below.size; show G + 1 ≤ w6.heap.size; omega)⟩ (rm_of ob cb.out (row_le am.row)))
        clear z1 z2 sm im om lm am b7 sb ib ob lb b6 cb ib7 hk6 hk7 hb6 hb7
        go_wp2_with fail
        go_roundw
        case rel => exact ⟨k + 1, _, by go_num, by omega, HN.out⟩
        case measure => simp [intOf]; omega
      · have hkn : k = s.L.length := by omega
        subst hkn
        have hbwc := HM.out.below
        have hsz := H.out.2.2.2.2.1.size
        have hvz := H.out.2.2.2.2.2.2
        have hzi := hvz.inside
        have hE := (cp_endC hst H.out.2.1 HM.out.since HM.out.lo1 HG.out.2.2 HG.out.1 HM.out.below)
        have hlen : M.length = s.L.length := hst.len
        have oz := hvz.past HST.out.2.1 hzi
        obtain ⟨z0, z1⟩ := own2 oz
        have f0 := oz.open_ 0
        have f1 := oz.open_ 1
        have hX := (oz.set_ 0 (.slice A1 s.f.length s.f.length)).set_ 1 (.slice (some ⟨G, 0, none⟩) s.L.length s.L.length)
        obtain ⟨x0, x1⟩ := own2 hX
        have HX := Lib.hid ((hE.kept (KeptK.set_ (S := fun b => b = w.heap.size + 1) (KeptK.set_ (S := fun b => b = w.heap.size + 1) (KeptK.refl wr _) (.inl rfl) (.slice A1 s.f.length s.f.length) (o := 0)) (.inl rfl) (.slice (some ⟨G, 0, none⟩) s.L.length s.L.length) (o := 1)) hzi).low hsz)
        have HB := Lib.hid (((H.out.2.2.2.2.1.trans (HST.out.2.1.mono hsz)).setCell (p := ⟨w.heap.size + 1, 0, none⟩) (Nat.le_succ _) (.slice A1 s.f.length s.f.length)).setCell (p := ⟨w.heap.size + 1, 1, none⟩) (Nat.le_succ _) (.slice (some ⟨G, 0, none⟩) s.L.length s.L.length))
        have HLN := Lib.hid hlen
        have hn1 : ¬ ((s.L.length : Int) < (s.L.length : Int)) := by omega
        clear hst hbw oP hbwc hsz hvz hzi hE hlen oz hX
        go_wp2_with fail
        exact bodyPost_ret (v := .agg #[.slice A1 s.f.length s.f.length, .slice (some ⟨G, 0, none⟩) s.L.length s.L.length]) (by simp [results, Tryz.results28, go_sem, x0, x1]) rfl (HP.out _ _ ⟨A1, s.f.length, s.f, some ⟨G, 0, none⟩, s.L.length, M⟩ (by show _ = Ending.returned (.agg #[.slice A1 s.f.length s.f.length, .slice (some ⟨G, 0, none⟩) M.length s.L.length]); rw [HLN.out]) HX.out HB.out)
set_option maxRecDepth 100000 in
set_option maxHeartbeats 12800000 in
theorem insert_sp (s : Sp) (A : Option Addr) (c : Nat) (L : List (Rw Up)) (w : World) (hs : SpIn w w.heap.size s) (ok : SpOk s) (hl : ULs w w.heap.size A L) (hok : ∀ r ∈ L, ∀ u ∈ r.l, UOk u) (hw : wtS s.L + (flatR L).length ≤ 274877906944) (hn : L.length ≤ 1099511627776) :
    Calls Tryz.prog 30 #[s.val, .slice A L.length c] w (InsertedS s (flatR L) w) := by
  obtain ⟨V, hV, hvb, hvs, hvo, hvz⟩ := sp_box2 w s
  have hin := hs.keep hvb
  have y1 := Lib.hid (scheck_any s V hin ok)
  have H := Lib.hid (And.intro hs (And.intro ok (And.intro hl (And.intro hok (And.intro hw (And.intro hn (And.intro hvb (And.intro hvo hvz))))))))
  obtain ⟨d0, d1⟩ := own2 hvo
  have HP := Lib.hid (show ∀ x w' (s' : Sp) (E : Int), x = .returned (.tuple #[s'.val, .int .i64 E]) → (¬ SpGood s.f s.L ∧ E = 8 ∧ s' = Sp.nil ∨ SpGood s.f s.L ∧ s'.f = s.f ∧ (E = 0 ∧ consE [advL s.f (flatR L)] = 0 ∧ PutTo s.f s.L s'.L (flatR L) 1 (flatR L).length ∧ HasI s s' (flatR L) ∨ E ≠ 0 ∧ s'.L.map Lv.pl = s.L.map Lv.pl ∧ WhyI s (flatR L))) → SpIn w' w'.heap.size s' → SpOk s' → SpLo w.heap.size s' → Below w.heap.size w w' → InsertedS s (flatR L) w x w' from fun x w' s' E h1 h2 h3 h4 h5 h6 => ⟨s', E, h1, h2, h3, h4, h5, h6⟩)
  have hsv : s.val = .agg #[.slice s.sA s.f.length s.sc, .slice s.lA s.L.length s.lc] := rfl
  rw [hsv] at y1 ⊢
  clear hs ok hl hok hw hn hvb hvs hvo hvz hin
  go_enter Tryz.func30, Tryz.ntmps30
  go_upto_region 1 with fail
  rw [← hV]
  clear hV
  go_wp2_with fail
  refine y1.out.mono ?_
  rintro _ w1 ⟨n, rfl, hn, b1⟩
  have hv1 := H.out.2.2.2.2.2.2.2.1.past b1 H.out.2.2.2.2.2.2.2.1.inside
  have hz1 := H.out.2.2.2.2.2.2.2.2.past b1 H.out.2.2.2.2.2.2.2.2.inside
  have H1 := Lib.hid (And.intro hn (And.intro (H.out.2.2.2.2.2.2.1.trans (b1.mono H.out.2.2.2.2.2.2.1.size)) (And.intro hv1 (And.intro hz1 hz1.inside))))
  clear hn b1 d0 d1 y1
  by_cases h0 : n = 0
  case neg =>
    have t1 : (n != 0) = true := bne_iff_ne.2 h0
    have HN := Lib.hid (show ¬ SpGood s.f s.L ∧ n = 8 from by
      rcases H1.out.1 with ⟨_, h⟩ | h
      · exact absurd h h0
      · exact h)
    obtain ⟨z0, z1⟩ := own2 hz1
    have f0 := hz1.open_ 0
    have f1 := hz1.open_ 1
    have hX := (hz1.set_ 0 (.slice none 0 0)).set_ 1 (.slice none 0 0)
    obtain ⟨x0, x1⟩ := own2 hX
    have HB := Lib.hid (below_two H1.out.2.1 (Nat.le_succ _) (P := w.heap.size + 1) (.slice none 0 0) (.slice none 0 0))
    clear hv1 hz1 hX h0
    go_wp2_with fail
    exact bodyPost_ret (v := .tuple #[.agg #[.slice none 0 0, .slice none 0 0], .int .i64 n]) (by simp [results, Tryz.results30, go_sem, x0, x1]) rfl (HP.out _ _ Sp.nil n rfl (.inl ⟨HN.out.1, HN.out.2, rfl⟩) (sp_nil_in _ _) sp_nil_ok (sp_nil_lo _) HB.out)
  subst h0
  have hgood : SpGood s.f s.L := by
    rcases H1.out.1 with ⟨h, _⟩ | ⟨_, h⟩
    · exact h
    · exact absurd h (by decide)
  have hin1 := H.out.1.keep H1.out.2.1
  have hwt : wtS s.L ≤ 274877906944 := by have := H.out.2.2.2.2.1; omega
  have y2 := Lib.hid (copyS_any s w1 hin1 H.out.2.1 hgood hwt)
  have HG := Lib.hid hgood
  obtain ⟨d0, d1⟩ := own2 hv1
  rw [hsv] at y2
  clear hv1 hz1 hgood hin1 hwt
  go_wp2_with fail
  refine y2.out.mono ?_
  rintro _ w2 ⟨s1, rfl, hc, b2⟩
  rw [show s1.val = .agg #[.slice s1.sA s1.f.length s1.sc, .slice s1.lA s1.L.length s1.lc] from rfl]
  obtain ⟨V3, hV3⟩ : ∃ V3, V3 = w2.alloc (.cells #[.slice s1.sA s1.f.length s1.sc, .slice s1.lA s1.L.length s1.lc] 137) := ⟨_, rfl⟩
  obtain ⟨hwk, b3⟩ := wk_of_copy (base := w1.heap.size) hc (Nat.le_refl _) b2.size V3 hV3
  have b23 := belows b2 b3
  have b03 := belows H1.out.2.1 b23
  have HC := Lib.hid (And.intro hc.f hc.L)
  have H3 := Lib.hid (And.intro hwk (And.intro b03 (And.intro (H1.out.2.2.1.past b23 H1.out.2.2.1.inside) (And.intro (H1.out.2.2.2.1.past b23 H1.out.2.2.2.1.inside) (Nat.le_trans H1.out.2.2.2.2 b2.size)))))
  have y3 := Lib.hid (build_any s1.sA s1.sc s1.f A c L V3 hwk.since hwk.ok.f (H.out.2.2.1.keep b03) H.out.2.2.2.1 (by have := H.out.2.2.2.2.1; omega) H.out.2.2.2.2.2.1)
  have g0 : V3.cell? ⟨w2.heap.size, 0, none⟩ = some (.slice s1.sA s1.f.length s1.sc) := hwk.own.at_ 0
  clear hc hwk b2 b3 b23 b03 d0 d1 y2
  go_upto_region 5 with fail
  rw [← hV3]
  clear hV3
  go_wp2_with fail
  refine y3.out.mono ?_
  rintro _ w4 ⟨b, rfl, hb0, hbn, ib, ob, lb, b4⟩
  obtain ⟨E, hE⟩ : ∃ E, bldE s1.f (flatR L) = E := ⟨_, rfl⟩
  rw [hE] at hb0 hbn ⊢
  have HE := Lib.hid hE
  obtain ⟨V4, hV4, hb4, hs4, ho4⟩ := btbox w4 b
  have b44 := belows b4 hb4
  have H4 := Lib.hid (And.intro hb0 (And.intro (ib.keep hb4) (And.intro ob (And.intro lb (And.intro ho4 (And.intro (H3.out.1.past b44) (And.intro (belows H3.out.2.1 b44) (And.intro (H3.out.2.2.1.past b44 H3.out.2.2.1.inside) (And.intro (H3.out.2.2.2.1.past b44 H3.out.2.2.2.1.inside) b44)))))))))
  rw [show b.val = .agg #[.slice b.sA b.f.length b.sc, .slice b.uA b.l.length b.uc] from rfl]
  clear hb0 hbn ib ob lb b4 hb4 hs4 ho4 b44 hE g0 y3
  go_upto_region 6 with fail
  rw [← hV4]
  clear hV4
  by_cases hE0 : E = 0
  · have t1 : (E == 0) = true := by rw [hE0]; rfl
    have hlen : b.l.length ≤ (flatR L).length := by
      have h1 := congrArg List.length (H4.out.1 hE0).2.2
      have h2 := consL_len [advL s1.f (flatR L)]
      rw [List.length_map] at h1
      simp only [List.flatten_cons, List.flatten_nil, List.append_nil] at h2
      have h3 : (advL s1.f (flatR L)).length = (flatR L).length := List.length_map ..
      omega
    have hcons : consE [advL s1.f (flatR L)] = 0 := by
      have h1 := HE.out
      unfold bldE at h1
      rw [if_pos (show chk s1.f = 0 ∧ frontL s1.f = s1.f from (H4.out.1 hE0).1)] at h1
      omega
    have hgood1 : SpGood s1.f s1.L := by rw [HC.out.1]; exact pl_good HC.out.2.symm HG.out
    have hok : PutIn w1.heap.size w2.heap.size s1 b V4 := ⟨H4.out.2.2.2.2.2.1, hgood1, H4.out.2.1, H4.out.2.2.1, H4.out.2.2.2.1.of (fun k hk => (H3.out.1.lt k hk).2), H4.out.2.2.2.1.mono (H3.out.1.base_), by
      obtain ⟨k1, k2, k3⟩ := H4.out.1 hE0
      rw [k2]
      exact batch_ok k1 hcons k3, by rw [(H4.out.1 hE0).2.1]; exact later_refl _, by
      have h1 := (pl_parts HC.out.2).2.2.1
      have h2 := H.out.2.2.2.2.1
      omega⟩
    have y4 := Lib.hid (put_any w1.heap.size w2.heap.size _ s1 b V4 hok (Nat.le_refl _))
    have HK := Lib.hid (And.intro hlen (And.intro hcons hok))
    obtain ⟨e0, e1⟩ := own2 H4.out.2.2.2.2.1
    rw [show b.val = .agg #[.slice b.sA b.f.length b.sc, .slice b.uA b.l.length b.uc] from rfl] at y4
    have HE0 := Lib.hid hE0
    clear hlen hcons hgood1 hok hE0
    go_wp2_with fail
    refine y4.out.mono ?_
    rintro _ w5 ⟨E2, rfl, hk5, h5⟩
    have hlt2 : ∀ k, SpS w2.heap.size s1.lA k → w1.heap.size ≤ k := fun k hk => (H3.out.1.lt k hk).1
    have b05 : Below w.heap.size w w5 := H4.out.2.2.2.2.2.2.1.trans (hk5.below (fun k hk => Nat.le_trans H1.out.2.1.size (hlt2 k hk)) (H4.out.2.2.2.2.2.2.1.size))
    have o25 := hk5.own H4.out.2.2.2.2.2.2.2.1 (fun hs => by have h1 := hlt2 _ hs; have h2 := H1.out.2.2.2.2; omega)
    have oz5 := hk5.own H4.out.2.2.2.2.2.2.2.2.1 (fun hs => by have h1 := hlt2 _ hs; have h2 := H1.out.2.2.2.2; omega)
    have HB5 := Lib.hid (And.intro b05 (And.intro o25 oz5))
    by_cases hE2 : E2 = 0
    · have t2 : (E2 != 0) = false := by rw [hE2]; rfl
      have hput : ∃ s', PutOut w1.heap.size w2.heap.size s1 b.l 1 b.l.length V4 w5 s' := by
        rcases h5 with ⟨_, h⟩ | h
        · exact h
        · have := h.1; omega
      obtain ⟨s', hp⟩ := hput
      obtain ⟨g0, g1⟩ := own2 hp.wk.own
      obtain ⟨z0, z1⟩ := own2 oz5
      have f0 := oz5.open_ 0
      have f1 := oz5.open_ 1
      have hX := (oz5.set_ 0 (.slice s'.sA s'.f.length s'.sc)).set_ 1 (.slice s'.lA s'.L.length s'.lc)
      obtain ⟨x0, x1⟩ := own2 hX
      have hlo := hp.wk.lo_
      have HX := Lib.hid (And.intro (sp_kept hp.wk.spin (hlo.mono H1.out.2.2.2.2) (kept_two (P := w.heap.size + 1) (.slice s'.sA s'.f.length s'.sc) (.slice s'.lA s'.L.length s'.lc))) (And.intro hp.wk.ok (And.intro (hlo.mono H1.out.2.1.size) (And.intro (below_two b05 (Nat.le_succ w.heap.size) (.slice s'.sA s'.f.length s'.sc) (.slice s'.lA s'.L.length s'.lc)) (And.intro (hp.h3.trans HC.out.1) (by
        have h1 := hp.put.swap HC.out.2 (eqs_cons (HK.out.2.2.good.front.right) HK.out.2.1 (H4.out.1 HE0.out).2.2) HK.out.1
        rw [HC.out.1] at h1
        have h2 : HasI s s' (flatR L) := ⟨fun hb hq => by
          have e2 := (H4.out.1 HE0.out).2.2
          rw [HC.out.1] at e2
          have e3 := congrArg List.length e2
          rw [List.length_map] at e3
          rw [← e3]
          exact hp.has.new (by rw [(pl_parts HC.out.2).2.2.2]; exact hb) (fun h0 => hq (List.eq_nil_of_length_eq_zero (e3.symm.trans h0))), fun h => by
          have h3 := hp.has.fr
          rw [HC.out.1] at h3
          exact h3 (fr_pl HC.out.2 h)⟩
        exact And.intro h1 h2 : PutTo s.f s.L s'.L (flatR L) 1 (flatR L).length ∧ HasI s s' (flatR L)))))))
      have HCE := Lib.hid (show consE [advL s.f (flatR L)] = 0 by rw [← HC.out.1]; exact HK.out.2.1)
      clear hk5 h5 hlt2 b05 o25 oz5 hE2 hp hX hlo e0 e1 y4
      go_wp2_with fail
      exact bodyPost_ret (v := .tuple #[.agg #[.slice s'.sA s'.f.length s'.sc, .slice s'.lA s'.L.length s'.lc], .int .i64 0]) (by simp [results, Tryz.results30, go_sem, x0, x1]) rfl (HP.out _ _ s' 0 rfl (.inr ⟨HG.out, HX.out.2.2.2.2.1, .inl ⟨rfl, HCE.out, HX.out.2.2.2.2.2⟩⟩) HX.out.1 HX.out.2.1 HX.out.2.2.1 HX.out.2.2.2.1)
    · have t2 : (E2 != 0) = true := bne_iff_ne.2 hE2
      have HNE := Lib.hid hE2
      have HWY := Lib.hid (show WhyI s (flatR L) from by
        rcases h5 with ⟨h, _⟩ | h
        · exact absurd h hE2
        · exact why_pl HC.out.2 h.2)
      clear hk5 h5 hlt2 b05 o25 oz5 hE2 e0 e1 y4
      have hin6 := H.out.1.keep HB5.out.1
      have hwt6 : wtS s.L ≤ 274877906944 := by have := H.out.2.2.2.2.1; omega
      have y6 := Lib.hid (copyS_any s w5 hin6 H.out.2.1 HG.out hwt6)
      obtain ⟨d0, d1⟩ := own2 HB5.out.2.1
      rw [hsv] at y6
      clear hin6 hwt6
      go_wp2_with fail
      refine y6.out.mono ?_
      rintro _ w6 ⟨s3, rfl, hc3, b6⟩
      have oz := HB5.out.2.2.past b6 HB5.out.2.2.inside
      obtain ⟨z0, z1⟩ := own2 oz
      have f0 := oz.open_ 0
      have f1 := oz.open_ 1
      have hX := (oz.set_ 0 (.slice s3.sA s3.f.length s3.sc)).set_ 1 (.slice s3.lA s3.L.length s3.lc)
      obtain ⟨x0, x1⟩ := own2 hX
      have hP1 : w.heap.size + 1 < w5.heap.size := HB5.out.2.2.inside
      have HX := Lib.hid (And.intro (sp_kept hc3.in_ (hc3.lo.mono hP1) (kept_two (P := w.heap.size + 1) (.slice s3.sA s3.f.length s3.sc) (.slice s3.lA s3.L.length s3.lc))) (And.intro hc3.ok (And.intro (hc3.lo.mono HB5.out.1.size) (And.intro (below_two (belows HB5.out.1 b6) (Nat.le_succ w.heap.size) (.slice s3.sA s3.f.length s3.sc) (.slice s3.lA s3.L.length s3.lc)) (And.intro hc3.f hc3.L)))))
      rw [show s3.val = .agg #[.slice s3.sA s3.f.length s3.sc, .slice s3.lA s3.L.length s3.lc] from rfl]
      clear hc3 b6 oz hX d0 d1 y6
      go_wp2_with fail
      exact bodyPost_ret (v := .tuple #[.agg #[.slice s3.sA s3.f.length s3.sc, .slice s3.lA s3.L.length s3.lc], .int .i64 E2]) (by simp [results, Tryz.results30, go_sem, x0, x1]) rfl (HP.out _ _ s3 E2 rfl (.inr ⟨HG.out, HX.out.2.2.2.2.1, .inr ⟨HNE.out, HX.out.2.2.2.2.2, HWY.out⟩⟩) HX.out.1 HX.out.2.1 HX.out.2.2.1 HX.out.2.2.2.1)
  · have t1 : (E == 0) = false := beq_eq_false_iff_ne.2 hE0
    have t2 : (E != 0) = true := bne_iff_ne.2 hE0
    have HNE := Lib.hid hE0
    have HWY := Lib.hid (show WhyI s (flatR L) from .inl (by rw [← HC.out.1, HE.out]; exact hE0))
    have HB5 := Lib.hid (And.intro H4.out.2.2.2.2.2.2.1 (And.intro H4.out.2.2.2.2.2.2.2.1 H4.out.2.2.2.2.2.2.2.2.1))
    clear hE0
    have hin6 := H.out.1.keep HB5.out.1
    have hwt6 : wtS s.L ≤ 274877906944 := by have := H.out.2.2.2.2.1; omega
    have y6 := Lib.hid (copyS_any s V4 hin6 H.out.2.1 HG.out hwt6)
    obtain ⟨d0, d1⟩ := own2 HB5.out.2.1
    rw [hsv] at y6
    clear hin6 hwt6
    go_wp2_with fail
    refine y6.out.mono ?_
    rintro _ w6 ⟨s3, rfl, hc3, b6⟩
    have oz := HB5.out.2.2.past b6 HB5.out.2.2.inside
    obtain ⟨z0, z1⟩ := own2 oz
    have f0 := oz.open_ 0
    have f1 := oz.open_ 1
    have hX := (oz.set_ 0 (.slice s3.sA s3.f.length s3.sc)).set_ 1 (.slice s3.lA s3.L.length s3.lc)
    obtain ⟨x0, x1⟩ := own2 hX
    have hP1 : w.heap.size + 1 < V4.heap.size := HB5.out.2.2.inside
    have HX := Lib.hid (And.intro (sp_kept hc3.in_ (hc3.lo.mono hP1) (kept_two (P := w.heap.size + 1) (.slice s3.sA s3.f.length s3.sc) (.slice s3.lA s3.L.length s3.lc))) (And.intro hc3.ok (And.intro (hc3.lo.mono HB5.out.1.size) (And.intro (below_two (belows HB5.out.1 b6) (Nat.le_succ w.heap.size) (.slice s3.sA s3.f.length s3.sc) (.slice s3.lA s3.L.length s3.lc)) (And.intro hc3.f hc3.L)))))
    rw [show s3.val = .agg #[.slice s3.sA s3.f.length s3.sc, .slice s3.lA s3.L.length s3.lc] from rfl]
    clear hc3 b6 oz hX d0 d1 y6
    go_wp2_with fail
    exact bodyPost_ret (v := .tuple #[.agg #[.slice s3.sA s3.f.length s3.sc, .slice s3.lA s3.L.length s3.lc], .int .i64 E]) (by simp [results, Tryz.results30, go_sem, x0, x1]) rfl (HP.out _ _ s3 E rfl (.inr ⟨HG.out, HX.out.2.2.2.2.1, .inr ⟨HNE.out, HX.out.2.2.2.2.2, HWY.out⟩⟩) HX.out.1 HX.out.2.1 HX.out.2.2.1 HX.out.2.2.2.1)
def LikeS (s s' : Sp) : Prop := s'.f = s.f ∧ s'.L.map Lv.pl = s.L.map Lv.pl
def StepOk (own other own' other' : Sp) (port : Int) (l out : List Up) : Prop :=
  ∃ o1 o2 : Sp, LikeS own o1 ∧ LikeS other o2 ∧ LikeS other other' ∧ own'.f = own.f ∧ (PutTo o1.f o1.L own'.L l 1 l.length ∨ l = [] ∧ own'.L.map Lv.pl = own.L.map Lv.pl) ∧
    ∃ oth : List Up, (MatchOk o2.f (partsS o2.L) l oth ∨ l = []) ∧ chkUs oth = 0 ∧ (port = 0 → okPairs l oth = true ∧ fitP (pairsP l oth) = true ∧ out.map Up.p = nz Uk.cmp (pairsP l oth)) ∧ (port = 1 → okPairs oth l = true ∧ fitP (pairsP oth l) = true ∧ out.map Up.p = nz Uk.cmp (pairsP oth l))
def WhyS (own other : Sp) (port : Int) (l : List Up) : Prop :=
  ∃ o1 o2 : Sp, LikeS own o1 ∧ LikeS other o2 ∧ ((∃ k, bldE o2.f (partsK k o2.L) ≠ 0) ∨ WhyI o1 l ∨ ∃ oth : List Up, MatchOk o2.f (partsS o2.L) l oth ∧ chkUs oth = 0 ∧ (port = 0 → ¬ (okPairs l oth = true ∧ fitP (pairsP l oth) = true)) ∧ (port = 1 → ¬ (okPairs oth l = true ∧ fitP (pairsP oth l) = true)))
def StepE (left right : Sp) (port : Int) (l : List Up) (a b : Sp) (out : List Up) (t : Tm) (E : Int) : Prop :=
  (∃ Z, ChkE left right port l Z ∧ Z ≠ 0 ∧ E = Z ∧ a = Sp.nil ∧ b = Sp.nil ∧ out = []) ∨
  (ChkE left right port l 0 ∧ (E = 0 ∨ E = 10) ∧ (E = 0 → t = ⟨0, 0, 0⟩) ∧ (port = 0 → (E = 0 → StepOk left right a b 0 l out) ∧ (E ≠ 0 → WhyS left right 0 l)) ∧ (port = 1 → (E = 0 → StepOk right left b a 1 l out) ∧ (E ≠ 0 → WhyS right left 1 l)))
def StepS (left right : Sp) (port : Int) (l : List Up) (w : World) (x : Ending) (w' : World) : Prop :=
  ∃ (a b : Sp) (A : Option Addr) (c : Nat) (out : List Up) (t : Tm) (E : Int), x = .returned (.tuple #[a.val, b.val, .slice A out.length c, .agg #[.int .u64 (t.e : Int), .int .u64 (t.a : Int), .int .u64 (t.b : Int)], .int .i64 E]) ∧ StepE left right port l a b out t E ∧ SpIn w' w'.heap.size a ∧ SpOk a ∧ SpLo w.heap.size a ∧ SpIn w' w'.heap.size b ∧ SpOk b ∧ SpLo w.heap.size b ∧ Ups w' w'.heap.size A out ∧ (∀ u ∈ out, UOk u) ∧ out.length ≤ 1099511627776 ∧ Below w.heap.size w w'
def OfSp (S : Nat → Prop) (s : Sp) : Prop := OfT S s.sA s.f.length ∧ OfT S s.lA s.L.length ∧ ∀ l ∈ s.L, OfL S l
def Slices (w : World) (Q : Nat) : Prop := ∀ (j : Nat) (u : Value), w.cell? ⟨Q, j, none⟩ = some u → ∃ A n c, u = .slice A n c
theorem slices_own {w : World} {Q : Nat} {t : TypeId} {l : List Value} (h : Own w Q t l) (hl : ∀ u ∈ l, ∃ A n c, u = Value.slice A n c) : Slices w Q := fun j u hj => by
  rw [h.at_ j] at hj
  exact hl u (List.mem_of_getElem? hj)
theorem not_slice_int {k} {i : Int} : ¬ ∃ A n c, Value.int k i = .slice A n c := by rintro ⟨_, _, _, h⟩; cases h
theorem not_slice_bool {b : Bool} : ¬ ∃ A n c, Value.bool b = .slice A n c := by rintro ⟨_, _, _, h⟩; cases h
theorem times_sl {w : World} {B Q : Nat} {A : Option Addr} {l : List Tm} (hq : Slices w Q) (h : Times w B A l) : OfT (fun k => k = Q) A l.length := fun hp b o e hs => by
  obtain ⟨b', o', e', _, hc⟩ := h hp
  have hb := at_block e e'
  obtain ⟨x, hx⟩ : ∃ x, l[0]? = some x := ⟨_, List.getElem?_eq_getElem hp⟩
  have h0 := (hc 0 x hx).1
  rw [← hb, hs] at h0
  exact not_slice_int (hq _ _ h0)
theorem vals_sl {w : World} {B Q : Nat} {A : Option Addr} {l : List Vl} (hq : Slices w Q) (h : Vals w B A l) : OfT (fun k => k = Q) A l.length := fun hp b o e hs => by
  obtain ⟨b', o', e', _, hc⟩ := h hp
  have hb := at_block e e'
  obtain ⟨x, hx⟩ : ∃ x, l[0]? = some x := ⟨_, List.getElem?_eq_getElem hp⟩
  have h0 := (hc 0 x hx).1
  rw [← hb, hs] at h0
  exact not_slice_bool (hq _ _ h0)
theorem ups_sl {w : World} {B Q : Nat} {A : Option Addr} {l : List Up} (hq : Slices w Q) (h : Ups w B A l) : OfU (fun k => k = Q) A l :=
  ⟨fun hp b o e hs => by
    obtain ⟨b', o', e', _, hc⟩ := h.head hp
    have hb := at_block e e'
    obtain ⟨x, hx⟩ : ∃ x, l[0]? = some x := ⟨_, List.getElem?_eq_getElem hp⟩
    have h0 := hc 0 x hx 2 _ rfl
    rw [← hb, hs] at h0
    exact not_slice_int (hq _ _ h0), fun u hu => ⟨vals_sl hq (h.each_ u hu).key, vals_sl hq (h.each_ u hu).row⟩⟩
theorem lv_sl {w : World} {B Q : Nat} {l : Lv} (hq : Slices w Q) (h : LvIn w B l) : OfL (fun k => k = Q) l :=
  ⟨⟨times_sl hq h.b.since, ups_sl hq h.b.ups⟩, ⟨ups_sl hq h.m.a, ups_sl hq h.m.b, times_sl hq h.m.f, ups_sl hq h.m.o⟩⟩
theorem sp_sl {w : World} {B Q : Nat} {s : Sp} (hq : Slices w Q) (h : SpIn w B s) : OfSp (fun k => k = Q) s :=
  ⟨times_sl hq h.since, fun hp b o e hs => by
    obtain ⟨b', o', e', _, hc⟩ := h.lev.head hp
    have hb := at_block e e'
    obtain ⟨x, hx⟩ : ∃ x, s.L[0]? = some x := ⟨_, List.getElem?_eq_getElem hp⟩
    have h0 := hc 0 x hx 0 _ rfl
    rw [← hb, hs] at h0
    exact not_slice_int (hq _ _ h0), fun l hl => lv_sl hq (h.lev.each_ l hl)⟩
theorem SpLo.ofSp {B : Nat} {S : Nat → Prop} {s : Sp} (h : SpLo B s) (hS : ∀ k, S k → k < B) : OfSp S s := ⟨h.f.of hS, h.l.of hS, fun l hl => (h.each_ l hl).of hS⟩
theorem sp_keptO {w w' : World} {S : Nat → Prop} {s : Sp} (h : SpIn w w.heap.size s) (ho : OfSp S s) (k : KeptK w w' S) : SpIn w' w'.heap.size s :=
  ⟨times_kept h.since ho.1 k, ⟨lies_kept h.lev.head ho.2.1 k, fun l hl => lv_kept (h.lev.each_ l hl) (ho.2.2 l hl) k⟩⟩
theorem keys_short {l : List Up} (h : chkUs l = 0) : ∀ u ∈ l, u.key.length ≤ 1099511627776 := fun u hu => by
  have h1 : chkRow u.key = 0 := (chkK_zero (chkUs_all.1 h u hu)).1
  rcases chk_two u.key with ⟨_, h2⟩ | h2
  · omega
  · omega
structure Mid (w0 : World) (B Q : Nat) (a b : Sp) (X : World) : Prop where
  own : Own X Q 77 [.slice a.sA a.f.length a.sc, .slice a.lA a.L.length a.lc, .slice b.sA b.f.length b.sc, .slice b.lA b.L.length b.lc]
  ina : SpIn X X.heap.size a
  oka : SpOk a
  loa : SpLo (B + 5) a
  inb : SpIn X X.heap.size b
  okb : SpOk b
  lob : SpLo (B + 5) b
  z2 : Own X (B + 2) 36 [.slice none 0 0, .slice none 0 0]
  z3 : Own X (B + 3) 36 [.slice none 0 0, .slice none 0 0]
  z4 : Own X (B + 4) 26 [.int .u64 0, .int .u64 0, .int .u64 0]
  low : Below B w0 X
  q : B + 5 ≤ Q
theorem Mid.keep {w0 X Y : World} {B Q : Nat} {a b : Sp} (h : Mid w0 B Q a b X) (hb : Below X.heap.size X Y) : Mid w0 B Q a b Y :=
  ⟨h.own.past hb h.own.inside, h.ina.keep hb, h.oka, h.loa, h.inb.keep hb, h.okb, h.lob, h.z2.past hb h.z2.inside, h.z3.past hb h.z3.inside, h.z4.past hb h.z4.inside, h.low.trans (hb.mono (by have h1 := h.own.inside; have h2 := h.q; omega)), h.q⟩
theorem Mid.slices {w0 X : World} {B Q : Nat} {a b : Sp} (h : Mid w0 B Q a b X) : Slices X Q := slices_own h.own (fun u hu => by
  simp only [List.mem_cons, List.not_mem_nil, or_false] at hu
  rcases hu with rfl | rfl | rfl | rfl <;> exact ⟨_, _, _, rfl⟩)
theorem Mid.turnA {w0 X : World} {B Q : Nat} {a b s : Sp} (h : Mid w0 B Q a b X) (hs : SpIn X X.heap.size s) (ok : SpOk s) (lo : SpLo (B + 5) s) (hq : B ≤ Q) :
    Mid w0 B Q s b ((X.setCell ⟨Q, 0, none⟩ (.slice s.sA s.f.length s.sc)).setCell ⟨Q, 1, none⟩ (.slice s.lA s.L.length s.lc)) ∧ KeptK X ((X.setCell ⟨Q, 0, none⟩ (.slice s.sA s.f.length s.sc)).setCell ⟨Q, 1, none⟩ (.slice s.lA s.L.length s.lc)) (fun k => k = Q) := by
  have k := kept_two (w := X) (P := Q) (.slice s.sA s.f.length s.sc) (.slice s.lA s.L.length s.lc)
  have hne := h.q
  exact ⟨⟨(h.own.set_ 0 _).set_ 1 _, sp_keptO hs (sp_sl h.slices hs) k, ok, lo, sp_keptO h.inb (sp_sl h.slices h.inb) k, h.okb, h.lob, k.own h.z2 (by omega), k.own h.z3 (by omega), k.own h.z4 (by omega), below_two h.low hq _ _, h.q⟩, k⟩
theorem Mid.turnB {w0 X : World} {B Q : Nat} {a b s : Sp} (h : Mid w0 B Q a b X) (hs : SpIn X X.heap.size s) (ok : SpOk s) (lo : SpLo (B + 5) s) (hq : B ≤ Q) :
    Mid w0 B Q a s ((X.setCell ⟨Q, 2, none⟩ (.slice s.sA s.f.length s.sc)).setCell ⟨Q, 3, none⟩ (.slice s.lA s.L.length s.lc)) ∧ KeptK X ((X.setCell ⟨Q, 2, none⟩ (.slice s.sA s.f.length s.sc)).setCell ⟨Q, 3, none⟩ (.slice s.lA s.L.length s.lc)) (fun k => k = Q) := by
  have k : KeptK X ((X.setCell ⟨Q, 2, none⟩ (.slice s.sA s.f.length s.sc)).setCell ⟨Q, 3, none⟩ (.slice s.lA s.L.length s.lc)) (fun k => k = Q) := KeptK.set_ (S := fun b => b = Q) (KeptK.set_ (S := fun b => b = Q) (KeptK.refl X _) (.inl rfl) _) (.inl rfl) _
  have hne := h.q
  have hl : Below B w0 ((X.setCell ⟨Q, 2, none⟩ (.slice s.sA s.f.length s.sc)).setCell ⟨Q, 3, none⟩ (.slice s.lA s.L.length s.lc)) := (h.low.setCell (p := ⟨Q, 2, none⟩) hq _).setCell (p := ⟨Q, 3, none⟩) hq _
  exact ⟨⟨(h.own.set_ 2 _).set_ 3 _, sp_keptO h.ina (sp_sl h.slices h.ina) k, h.oka, h.loa, sp_keptO hs (sp_sl h.slices hs) k, ok, lo, k.own h.z2 (by omega), k.own h.z3 (by omega), k.own h.z4 (by omega), hl, h.q⟩, k⟩
theorem slices_turn {X : World} {Q : Nat} {A : Option Addr} {l : List Up} {w0 Y : World} {B : Nat} {a b : Sp} (m : Mid w0 B Q a b X) (h : Ups X X.heap.size A l) (k : KeptK X Y (fun k => k = Q)) : Ups Y Y.heap.size A l := ups_kept h (ups_sl m.slices h) k
theorem step_box (w : World) (a b : Sp) : ∃ V, V = ((((w.alloc (.cells #[.slice a.sA a.f.length a.sc, .slice a.lA a.L.length a.lc] 36)).alloc (.cells #[.slice b.sA b.f.length b.sc, .slice b.lA b.L.length b.lc] 36)).alloc (.cells #[.slice none 0 0, .slice none 0 0] 36)).alloc (.cells #[.slice none 0 0, .slice none 0 0] 36)).alloc (.cells #[.int .u64 0, .int .u64 0, .int .u64 0] 26) ∧ Below w.heap.size w V ∧ Own V w.heap.size 36 a.cells ∧ Own V (w.heap.size + 1) 36 b.cells ∧ Own V (w.heap.size + 2) 36 [.slice none 0 0, .slice none 0 0] ∧ Own V (w.heap.size + 3) 36 [.slice none 0 0, .slice none 0 0] ∧ Own V (w.heap.size + 4) 26 [.int .u64 0, .int .u64 0, .int .u64 0] ∧ V.heap.size = w.heap.size + 5 := by
  obtain ⟨V1, e1, b1, s1, o1⟩ := spbox w a
  obtain ⟨V2, e2, b2, s2, o2⟩ := spbox V1 b
  obtain ⟨V3, e3, b3, s3, o3⟩ := spbox V2 Sp.nil
  obtain ⟨V4, e4, b4, s4, o4⟩ := spbox V3 Sp.nil
  obtain ⟨V5, e5, s5, b5, o5⟩ := boxd V4 [.int .u64 0, .int .u64 0, .int .u64 0] 26
  have h1 : V1.heap.size = w.heap.size + 1 := s1
  have h2 : V2.heap.size = w.heap.size + 2 := by omega
  have h3 : V3.heap.size = w.heap.size + 3 := by omega
  have h4 : V4.heap.size = w.heap.size + 4 := by omega
  rw [h1] at o2
  rw [h2] at o3
  rw [h3] at o4
  rw [h4] at o5
  refine ⟨V5, by rw [e5, e4, e3, e2, e1]; rfl, belows (belows (belows (belows b1 b2) b3) b4) b5, ?_, ?_, ?_, ?_, o5, by omega⟩
  · exact (((o1.past b2 o1.inside).past b3 (by have := o1.inside; omega)).past b4 (by have := o1.inside; omega)).past b5 (by have := o1.inside; omega)
  · exact ((o2.past b3 o2.inside).past b4 (by have := o2.inside; omega)).past b5 (by have := o2.inside; omega)
  · exact (o3.past b4 o3.inside).past b5 (by have := o3.inside; omega)
  · exact o4.past b5 o4.inside
theorem zero_three {w : World} {P : Nat} {ty : TypeId} (h : Own w P ty [.int .u64 0, .int .u64 0, .int .u64 0]) : Own (((w.setCell ⟨P, 0, none⟩ (.int .u64 0)).setCell ⟨P, 1, none⟩ (.int .u64 0)).setCell ⟨P, 2, none⟩ (.int .u64 0)) P ty [.int .u64 0, .int .u64 0, .int .u64 0] := ((h.set_ 0 (.int .u64 0)).set_ 1 (.int .u64 0)).set_ 2 (.int .u64 0)
structure Kp (B : Nat) (V w : World) : Prop where
  k : KeptK V w (fun k => k = B + 2 ∨ k = B + 3 ∨ k = B + 4)
  o2 : ∃ x y, Own w (B + 2) 36 [x, y]
  o3 : ∃ x y, Own w (B + 3) 36 [x, y]
  o4 : ∃ x y z, Own w (B + 4) 26 [x, y, z]
theorem kept_set {w : World} {P i : Nat} (u : Value) : KeptK w (w.setCell ⟨P, i, none⟩ u) (fun b => b = P) := KeptK.set_ (S := fun b => b = P) (KeptK.refl w _) (.inl rfl) u
theorem own_set2 {w : World} {P i : Nat} {ty : TypeId} (u : Value) (h : ∃ x y, Own w P ty [x, y]) : ∃ x y, Own (w.setCell ⟨P, i, none⟩ u) P ty [x, y] := by
  obtain ⟨x, y, h⟩ := h
  match i with
  | 0 => exact ⟨_, _, h.set_ 0 u⟩
  | 1 => exact ⟨_, _, h.set_ 1 u⟩
  | n + 2 => exact ⟨_, _, h.set_ (n + 2) u⟩
theorem own_set3 {w : World} {P i : Nat} {ty : TypeId} (u : Value) (h : ∃ x y z, Own w P ty [x, y, z]) : ∃ x y z, Own (w.setCell ⟨P, i, none⟩ u) P ty [x, y, z] := by
  obtain ⟨x, y, z, h⟩ := h
  match i with
  | 0 => exact ⟨_, _, _, h.set_ 0 u⟩
  | 1 => exact ⟨_, _, _, h.set_ 1 u⟩
  | 2 => exact ⟨_, _, _, h.set_ 2 u⟩
  | n + 3 => exact ⟨_, _, _, h.set_ (n + 3) u⟩
theorem Kp.s2 {B i : Nat} {V w : World} (h : Kp B V w) (u : Value) : Kp B V (w.setCell ⟨B + 1 + 1, i, none⟩ u) :=
  ⟨KeptK.set_ h.k (.inl (.inl rfl)) u, own_set2 u h.o2, h.o3.imp fun x => Exists.imp fun y o => (kept_set u).own o (by omega), h.o4.imp fun x => Exists.imp fun y => Exists.imp fun z o => (kept_set u).own o (by omega)⟩
theorem Kp.s3 {B i : Nat} {V w : World} (h : Kp B V w) (u : Value) : Kp B V (w.setCell ⟨B + 1 + 1 + 1, i, none⟩ u) :=
  ⟨KeptK.set_ h.k (.inl (.inr (.inl rfl))) u, h.o2.imp fun x => Exists.imp fun y o => (kept_set u).own o (by omega), own_set2 u h.o3, h.o4.imp fun x => Exists.imp fun y => Exists.imp fun z o => (kept_set u).own o (by omega)⟩
theorem Kp.s4 {B i : Nat} {V w : World} (h : Kp B V w) (u : Value) : Kp B V (w.setCell ⟨B + 1 + 1 + 1 + 1, i, none⟩ u) :=
  ⟨KeptK.set_ h.k (.inl (.inr (.inr rfl))) u, h.o2.imp fun x => Exists.imp fun y o => (kept_set u).own o (by omega), h.o3.imp fun x => Exists.imp fun y o => (kept_set u).own o (by omega), own_set3 u h.o4⟩
def KpS (B Q P : Nat) (a b : Sp) (t : Tm) (w : World) : Prop :=
  (w.cell? ⟨Q, 0, none⟩ = some (.slice a.sA a.f.length a.sc) ∧ w.cell? ⟨Q, 1, none⟩ = some (.slice a.lA a.L.length a.lc) ∧ w.cell? ⟨Q, 2, none⟩ = some (.slice b.sA b.f.length b.sc) ∧ w.cell? ⟨Q, 3, none⟩ = some (.slice b.lA b.L.length b.lc)) ∧
  (w.cell? ⟨P, 0, none⟩ = some (.int .u64 (t.e : Int)) ∧ w.cell? ⟨P, 1, none⟩ = some (.int .u64 (t.a : Int)) ∧ w.cell? ⟨P, 2, none⟩ = some (.int .u64 (t.b : Int)))
theorem Kp.open_ {B Q P : Nat} {V w : World} {a b : Sp} {t : Tm} (h : Kp B V w) (hq : Own V Q 77 [.slice a.sA a.f.length a.sc, .slice a.lA a.L.length a.lc, .slice b.sA b.f.length b.sc, .slice b.lA b.L.length b.lc]) (hp : Own V P 26 [.int .u64 (t.e : Int), .int .u64 (t.a : Int), .int .u64 (t.b : Int)]) (h1 : B + 5 ≤ Q) (h2 : B + 5 ≤ P) : KpS B Q P a b t w := by
  have q := h.k.own hq (by omega)
  have p := h.k.own hp (by omega)
  exact ⟨⟨q.at_ 0, q.at_ 1, q.at_ 2, q.at_ 3⟩, p.at_ 0, p.at_ 1, p.at_ 2⟩
theorem step_fin {W : World} {B : Nat} (z2 : Own W (B + 2) 36 [.slice none 0 0, .slice none 0 0]) (z3 : Own W (B + 3) 36 [.slice none 0 0, .slice none 0 0]) (z4 : Own W (B + 4) 26 [.int .u64 0, .int .u64 0, .int .u64 0]) (p0 p1 q0 q1 t0 t1 t2 : Value) :
    ∃ X, X = ((((((W.setCell ⟨B + 1 + 1, 0, none⟩ p0).setCell ⟨B + 1 + 1, 1, none⟩ p1).setCell ⟨B + 1 + 1 + 1, 0, none⟩ q0).setCell ⟨B + 1 + 1 + 1, 1, none⟩ q1).setCell ⟨B + 1 + 1 + 1 + 1, 0, none⟩ t0).setCell ⟨B + 1 + 1 + 1 + 1, 1, none⟩ t1).setCell ⟨B + 1 + 1 + 1 + 1, 2, none⟩ t2 ∧
      Own X (B + 2) 36 [p0, p1] ∧ Own X (B + 3) 36 [q0, q1] ∧ Own X (B + 4) 26 [t0, t1, t2] ∧ Kp B W X ∧ Own W (B + 1 + 1) 36 [.slice none 0 0, .slice none 0 0] ∧
      Own ((W.setCell ⟨B + 1 + 1, 0, none⟩ p0).setCell ⟨B + 1 + 1, 1, none⟩ p1) (B + 1 + 1 + 1) 36 [.slice none 0 0, .slice none 0 0] ∧
      Own ((((W.setCell ⟨B + 1 + 1, 0, none⟩ p0).setCell ⟨B + 1 + 1, 1, none⟩ p1).setCell ⟨B + 1 + 1 + 1, 0, none⟩ q0).setCell ⟨B + 1 + 1 + 1, 1, none⟩ q1) (B + 1 + 1 + 1 + 1) 26 [.int .u64 0, .int .u64 0, .int .u64 0] := by
  have e3 := (kept_set (P := B + 1 + 1) (i := 0) p0).own z3 (by omega)
  have e3 := (kept_set (P := B + 1 + 1) (i := 1) p1).own e3 (by omega)
  have e4 := (kept_set (P := B + 1 + 1) (i := 0) p0).own z4 (by omega)
  have e4 := (kept_set (P := B + 1 + 1) (i := 1) p1).own e4 (by omega)
  have e4 := (kept_set (P := B + 1 + 1 + 1) (i := 0) q0).own e4 (by omega)
  have e4 := (kept_set (P := B + 1 + 1 + 1) (i := 1) q1).own e4 (by omega)
  refine ⟨_, rfl, ?_, ?_, ?_, ?_, z2, e3, e4⟩
  · have e : Own ((W.setCell ⟨B + 1 + 1, 0, none⟩ p0).setCell ⟨B + 1 + 1, 1, none⟩ p1) (B + 2) 36 [p0, p1] := (z2.set_ 0 p0).set_ 1 p1
    have e := (kept_set (P := B + 1 + 1 + 1) (i := 0) q0).own e (by omega)
    have e := (kept_set (P := B + 1 + 1 + 1) (i := 1) q1).own e (by omega)
    have e := (kept_set (P := B + 1 + 1 + 1 + 1) (i := 0) t0).own e (by omega)
    have e := (kept_set (P := B + 1 + 1 + 1 + 1) (i := 1) t1).own e (by omega)
    exact (kept_set (P := B + 1 + 1 + 1 + 1) (i := 2) t2).own e (by omega)
  · have e := (kept_set (P := B + 1 + 1) (i := 0) p0).own z3 (by omega)
    have e := (kept_set (P := B + 1 + 1) (i := 1) p1).own e (by omega)
    have e : Own _ (B + 3) 36 [q0, q1] := (e.set_ 0 q0).set_ 1 q1
    have e := (kept_set (P := B + 1 + 1 + 1 + 1) (i := 0) t0).own e (by omega)
    have e := (kept_set (P := B + 1 + 1 + 1 + 1) (i := 1) t1).own e (by omega)
    exact (kept_set (P := B + 1 + 1 + 1 + 1) (i := 2) t2).own e (by omega)
  · have e := (kept_set (P := B + 1 + 1) (i := 0) p0).own z4 (by omega)
    have e := (kept_set (P := B + 1 + 1) (i := 1) p1).own e (by omega)
    have e := (kept_set (P := B + 1 + 1 + 1) (i := 0) q0).own e (by omega)
    have e := (kept_set (P := B + 1 + 1 + 1) (i := 1) q1).own e (by omega)
    exact ((e.set_ 0 t0).set_ 1 t1).set_ 2 t2
  · exact (((((((⟨KeptK.refl _ _, ⟨_, _, z2⟩, ⟨_, _, z3⟩, ⟨_, _, _, z4⟩⟩ : Kp B W W).s2 p0).s2 p1).s3 q0).s3 q1).s4 t0).s4 t1).s4 t2
theorem tbox3 (w : World) (t : Tm) : ∃ V, V = w.alloc (.cells #[.int .u64 (t.e : Int), .int .u64 (t.a : Int), .int .u64 (t.b : Int)] 26) ∧ Below w.heap.size w V ∧ V.heap.size = w.heap.size + 1 ∧ Own V w.heap.size 26 [.int .u64 (t.e : Int), .int .u64 (t.a : Int), .int .u64 (t.b : Int)] :=
  ⟨_, rfl, (Below.refl _ _).alloc (Nat.le_refl _) _, by simp, Own.made w _ [.int .u64 (t.e : Int), .int .u64 (t.a : Int), .int .u64 (t.b : Int)]⟩
theorem step_done {left right a b : Sp} {port : Int} {l out : List Up} {w W X : World} {Q : Nat} {A : Option Addr} {c : Nat} {t : Tm} {E : Int} (m : Mid w w.heap.size Q a b W) (k : Kp w.heap.size W X) (hE : StepE left right port l a b out t E) (ho : Ups W W.heap.size A out) (oo : ∀ u ∈ out, UOk u) (hof : OfU (fun k => k = w.heap.size + 2 ∨ k = w.heap.size + 3 ∨ k = w.heap.size + 4) A out) (hln : out.length ≤ 1099511627776) :
    StepS left right port l w (.returned (.tuple #[.agg #[.slice a.sA a.f.length a.sc, .slice a.lA a.L.length a.lc], .agg #[.slice b.sA b.f.length b.sc, .slice b.lA b.L.length b.lc], .slice A out.length c, .agg #[.int .u64 (t.e : Int), .int .u64 (t.a : Int), .int .u64 (t.b : Int)], .int .i64 E])) X :=
  ⟨a, b, A, c, out, t, E, rfl, hE, sp_keptO m.ina (m.loa.ofSp (fun k hk => by omega)) k.k, m.oka, m.loa.mono (by omega), sp_keptO m.inb (m.lob.ofSp (fun k hk => by omega)) k.k, m.okb, m.lob.mono (by omega), ups_kept ho hof k.k, oo, hln, m.low.trans (k.k.below (fun k hk => by omega) m.low.size)⟩
theorem stepE_fail {left right a b a' b' : Sp} {port : Int} {l out : List Up} {t : Tm} {E : Int} (hc : ChkE left right port l 0) (hE : E = 0 ∨ E = 10) (ht : E = 0 → t = ⟨0, 0, 0⟩) (la : LikeS left a) (lb : LikeS right b) (la' : LikeS left a') (lb' : LikeS right b') (h0 : E = 0 → l = [] ∧ out = []) (w0 : port = 0 → (∃ k, bldE b.f (partsK k b.L) ≠ 0) ∨ WhyI a l) (w1 : port = 1 → (∃ k, bldE a.f (partsK k a.L) ≠ 0) ∨ WhyI b l) : StepE left right port l a' b' out t E :=
  .inr ⟨hc, hE, ht, fun hp => ⟨fun h => ⟨a, b, la, lb, lb', la'.1, .inr ⟨(h0 h).1, la'.2⟩, [], .inr (h0 h).1, rfl, fun _ => ⟨by rw [(h0 h).1]; rfl, by rw [(h0 h).1]; rfl, by rw [(h0 h).2, (h0 h).1]; rfl⟩, fun h' => absurd h' (by decide)⟩, fun _ => ⟨a, b, la, lb, (w0 hp).imp id .inl⟩⟩,
    fun hp => ⟨fun h => ⟨b, a, lb, la, la', lb'.1, .inr ⟨(h0 h).1, lb'.2⟩, [], .inr (h0 h).1, rfl, fun h' => absurd h' (by decide), fun _ => ⟨by rw [(h0 h).1]; rfl, by rw [(h0 h).1]; rfl, by rw [(h0 h).2, (h0 h).1]; rfl⟩⟩, fun _ => ⟨b, a, lb, la, (w1 hp).imp id .inl⟩⟩⟩
theorem stepE_ok0 {left right a b s : Sp} {l oth out : List Up} {t : Tm} {E : Int} (hc : ChkE left right 0 l 0) (hE : E = 0 ∨ E = 10) (ht : E = 0 → t = ⟨0, 0, 0⟩) (la : LikeS left a) (lb : LikeS right b) (hf : s.f = a.f) (hp : PutTo a.f a.L s.L l 1 l.length) (hm : MatchOk b.f (partsS b.L) l oth) (hk : chkUs oth = 0) (hi : E = 0 ↔ okPairs l oth = true ∧ fitP (pairsP l oth) = true) (ho : E = 0 → out.map Up.p = nz Uk.cmp (pairsP l oth)) : StepE left right 0 l s b out t E :=
  .inr ⟨hc, hE, ht, fun _ => ⟨fun h => ⟨a, b, la, lb, lb, hf.trans la.1, .inl hp, oth, .inl hm, hk, fun _ => ⟨(hi.1 h).1, (hi.1 h).2, ho h⟩, fun h' => absurd h' (by decide)⟩, fun h => ⟨a, b, la, lb, .inr (.inr ⟨oth, hm, hk, fun _ hh => h (hi.2 hh), fun h' => absurd h' (by decide)⟩)⟩⟩, fun h => absurd h (by decide)⟩
theorem stepE_ok1 {left right a b s : Sp} {l oth out : List Up} {t : Tm} {E : Int} (hc : ChkE left right 1 l 0) (hE : E = 0 ∨ E = 10) (ht : E = 0 → t = ⟨0, 0, 0⟩) (la : LikeS left a) (lb : LikeS right b) (hf : s.f = b.f) (hp : PutTo b.f b.L s.L l 1 l.length) (hm : MatchOk a.f (partsS a.L) l oth) (hk : chkUs oth = 0) (hi : E = 0 ↔ okPairs oth l = true ∧ fitP (pairsP oth l) = true) (ho : E = 0 → out.map Up.p = nz Uk.cmp (pairsP oth l)) : StepE left right 1 l a s out t E :=
  .inr ⟨hc, hE, ht, fun h => absurd h (by decide), fun _ => ⟨fun h => ⟨b, a, lb, la, la, hf.trans lb.1, .inl hp, oth, .inl hm, hk, fun h' => absurd h' (by decide), fun _ => ⟨(hi.1 h).1, (hi.1 h).2, ho h⟩⟩, fun h => ⟨b, a, lb, la, .inr (.inr ⟨oth, hm, hk, fun h' => absurd h' (by decide), fun _ hh => h (hi.2 hh)⟩)⟩⟩⟩
theorem made_is {x y M out : List Up} {why E : Int} {t : Tm} (cx : chkUs x = 0) (cy : chkUs y = 0) (hok : why = 0 ↔ okPairs x y = true) (hper : why = 0 → (M.map Up.p).Perm (pairsP x y)) (hM : ∀ u ∈ M, chkU u = 0) (hE0 : E = 0 ↔ why = 0 ∧ fitU M = true) (hEo : E = 0 → out.map Up.p = nz Uk.cmp (M.map Up.p) ∧ t = ⟨0, 0, 0⟩) :
    (E = 0 ↔ okPairs x y = true ∧ fitP (pairsP x y) = true) ∧ (E = 0 → out.map Up.p = nz Uk.cmp (pairsP x y)) := by
  have key := fun h : okPairs x y = true => fitU_pairs hM (okPairs_right cx cy h) (hper (hok.2 h))
  constructor
  · rw [hE0]
    constructor
    · rintro ⟨h1, h2⟩
      have h3 := hok.1 h1
      exact ⟨h3, by rw [← (key h3).1]; exact h2⟩
    · rintro ⟨h1, h2⟩
      exact ⟨hok.2 h1, by rw [(key h1).1]; exact h2⟩
  · intro h
    have h3 := hok.1 (hE0.1 h).1
    rw [(hEo h).1, (key h3).2]
def jF (x : Up) (K : Uk) (y : Uk) : Int := if Uk.cmp ⟨[], x.row ++ y.row, x.t.sup y.t⟩ K = 0 then x.d else 0
theorem cons_is {X : List Up} (hc : chkUs X = 0) (h : consE [X] = 0) : consL [X] = nz Uk.cmp (X.map Up.p) := by
  have c0 : chkLs [X] = 0 := chkLs_all.2 fun l hl => by
    obtain rfl := List.mem_singleton.1 hl
    exact hc
  unfold consE at h
  unfold consL
  rw [if_pos c0] at h ⊢
  unfold resE at h
  unfold resL
  simp only [List.flatten_cons, List.flatten_nil, List.append_nil] at h ⊢
  split at h
  · rename_i h1
    rw [if_pos h1]
  · exact absurd h (by decide)
theorem chk_ofKey {k : List Vl} {P : List Up} (h : chkUs P = 0) : chkUs (ofKey k P) = 0 := chkUs_all.2 fun u hu => chkUs_all.1 h u (List.mem_filter.1 hu).1
theorem sup_adv {x s : Tm} {f : List Tm} (h : beyond f x = true) : x.sup (adv s f) = x.sup s := by
  obtain ⟨y, hy, hyx⟩ := beyond_iff.1 h
  have hb : beyond f (x.sup s) = true := beyond_iff.2 ⟨y, hy, by rw [Tm.le_iff] at *; simp only [Tm.sup]; omega⟩
  have h1 : (adv s f).le (x.sup s) = true := by
    rw [← adv_same s (x.sup s) f hb, Tm.le_iff]
    simp only [Tm.sup]; omega
  have h2 := le_adv_t s f
  rw [Tm.le_iff] at h1 h2
  simp only [Tm.sup] at h1 ⊢
  congr 1 <;> omega
def joinQ (x y : Up) : Uk × Int := (⟨[], y.row ++ x.row, y.t.sup x.t⟩, y.d * x.d)
theorem pairs_flip (l : List Up) (K : Uk) : ∀ P : List Up, sumOf Uk.cmp (pairsP P l) K = (l.map fun x => sumOf Uk.cmp ((ofKey x.key P).map (joinQ x)) K).sum := by
  induction l with
  | nil =>
    intro P
    have e : pairsP P [] = [] := by
      unfold pairsP ofKey
      induction P with
      | nil => rfl
      | cons y P ih => rw [List.flatMap_cons, ih]; rfl
    rw [e]; rfl
  | cons x l ih =>
    intro P
    have h := pairs_right [x] l (fun _ => True) P K
    rw [List.map_cons, List.sum_cons, ← ih P]
    rw [show ([x] ++ l : List Up) = x :: l from rfl] at h
    rw [h, sumOf_append]
    congr 1
    clear ih h
    induction P with
    | nil => rfl
    | cons y P ih =>
      unfold pairsP at *
      rw [List.flatMap_cons, sumOf_append, ih]
      unfold ofKey
      rw [List.filter_cons, List.filter_cons]
      have hs := row_lin.swap x.key y.key
      by_cases h0 : cmpRows x.key y.key = 0
      · have h1 : cmpRows y.key x.key = 0 := by omega
        simp only [h0, h1, decide_true, if_true, List.filter_nil, List.map_cons, List.map_nil, sumOf]
        rw [show joinQ x y = joinP y x from rfl, Int.add_zero]
      · have h1 : ¬ cmpRows y.key x.key = 0 := by omega
        simp only [h0, h1, decide_false, Bool.false_eq_true, if_false, List.filter_nil, List.map_nil, sumOf, Int.zero_add]
def jQ (x : Up) (K : Uk) (y : Uk) : Int := if Uk.cmp ⟨[], y.row ++ x.row, y.t.sup x.t⟩ K = 0 then x.d else 0
theorem sum_joinQ (x : Up) (K : Uk) : ∀ Y : List Up, sumOf Uk.cmp (Y.map (joinQ x)) K = wsum (jQ x K) (Y.map Up.p)
  | [] => rfl
  | y :: Y => by
    have ih := sum_joinQ x K Y
    show (if Uk.cmp ⟨[], y.row ++ x.row, y.t.sup x.t⟩ K = 0 then y.d * x.d else 0) + sumOf Uk.cmp (Y.map (joinQ x)) K = jQ x K y.k * y.d + wsum (jQ x K) (Y.map Up.p)
    rw [ih]
    show _ = (if Uk.cmp ⟨[], y.row ++ x.row, y.t.sup x.t⟩ K = 0 then x.d else 0) * y.d + _
    split
    · rw [Int.mul_comm]
    · omega
theorem sup_swap (s t : Tm) : s.sup t = t.sup s := by simp only [Tm.sup, Nat.max_comm]
theorem jQ_adv {x : Up} {f : List Tm} (K : Uk) (h : f = [] ∨ beyond f x.t = true) : ∀ Y : List Up, wsum (jQ x K) ((advL f Y).map Up.p) = wsum (jQ x K) (Y.map Up.p)
  | [] => rfl
  | y :: Y => by
    have ih := jQ_adv K h Y
    show jQ x K ⟨y.key, y.row, adv y.t f⟩ * y.d + wsum (jQ x K) ((advL f Y).map Up.p) = jQ x K y.k * y.d + wsum (jQ x K) (Y.map Up.p)
    rw [ih]
    congr 2
    unfold jQ
    show (if Uk.cmp ⟨[], y.row ++ x.row, (adv y.t f).sup x.t⟩ K = 0 then x.d else 0) = if Uk.cmp ⟨[], y.row ++ x.row, y.t.sup x.t⟩ K = 0 then x.d else 0
    rcases h with rfl | h
    · rfl
    · rw [sup_swap, sup_adv h, sup_swap]
theorem match_sumR {f : List Tm} {P l oth : List Up} (h : MatchOk f P l oth) (hf : ∀ x ∈ f, x.right = true) (hP : chkUs P = 0) (hb : f = [] ∨ ∀ x ∈ l, beyond f x.t = true) (K : Uk) : sumOf Uk.cmp (pairsP oth l) K = sumOf Uk.cmp (pairsP P l) K := by
  rw [pairs_flip, pairs_flip]
  congr 1
  refine List.map_congr_left fun x hx => ?_
  obtain ⟨h1, h2⟩ := h x hx
  have hc : chkUs (advL f (ofKey x.key P)) = 0 := (chkUs_adv hf _).trans (chk_ofKey hP)
  rw [sum_joinQ, sum_joinQ, h2, cons_is hc h1, wsum_nz uk_lin _ (keys_right (chkUs_all.1 hc)), jQ_adv K (hb.imp id fun h => h x hx)]
theorem pairs_sameR {P Q : List Up} (hP : chkUs P = 0) (hQ : chkUs Q = 0) (h : ∀ k, sumOf Uk.cmp (P.map Up.p) k = sumOf Uk.cmp (Q.map Up.p) k) (l : List Up) (K : Uk) : sumOf Uk.cmp (pairsP P l) K = sumOf Uk.cmp (pairsP Q l) K := by
  rw [pairs_flip, pairs_flip]
  congr 1
  refine List.map_congr_left fun x _ => ?_
  have hp := keys_right (chkUs_all.1 hP)
  have hq := keys_right (chkUs_all.1 hQ)
  rw [sum_joinQ, sum_joinQ, ofKey_p, ofKey_p, ← wsum_nz uk_lin _ (fun y hy => hp y (List.mem_filter.1 hy).1), ← wsum_nz uk_lin _ (fun y hy => hq y (List.mem_filter.1 hy).1)]
  have e1 := nz_filter uk_lin (fun k : Uk => decide (cmpRows k.key x.key = 0)) hp
  have e2 := nz_filter uk_lin (fun k : Uk => decide (cmpRows k.key x.key = 0)) hq
  rw [e1, e2, nz_ext uk_lin hp hq h]
def ja (G1 G2 : Nat) : Up := ⟨some ⟨G1, 0, none⟩, 1, [vnum 1], some ⟨G2, 0, none⟩, 1, [vnum 1], ⟨1, 0, 0⟩, 2⟩
def jb (G1 G2 : Nat) : Up := ⟨some ⟨G1, 0, none⟩, 1, [vnum 1], some ⟨G2, 0, none⟩, 1, [vnum 5], ⟨2, 0, 0⟩, 3⟩
def jk : Uk := ⟨[], [vnum 1, vnum 5], ⟨2, 0, 0⟩⟩
theorem pairs_ab (G1 G2 G3 G4 : Nat) : chkUs [ja G1 G2] = 0 ∧ chkUs [jb G3 G4] = 0 ∧ okPairs [ja G1 G2] [jb G3 G4] = true ∧ fitP (pairsP [ja G1 G2] [jb G3 G4]) = true ∧ nz Uk.cmp (pairsP [ja G1 G2] [jb G3 G4]) = [(jk, (6 : Int))] := ⟨by kernel_rfl, by kernel_rfl, by kernel_rfl, by kernel_rfl, by kernel_rfl⟩
theorem bld_ab (G1 G2 : Nat) : bldE [] [ja G1 G2] = 0 ∧ bldE [] [jb G1 G2] = 0 ∧ bldE [] [] = 0 ∧ consL [[ja G1 G2]] = [(ja G1 G2).p] ∧ goodP (ja G1 G2) (jb G1 G2) = true := ⟨by kernel_rfl, by kernel_rfl, by kernel_rfl, by kernel_rfl, by kernel_rfl⟩
theorem frontL_none : frontL [] = [] := by kernel_rfl
theorem sp_goodN : SpGood [] [] := ⟨⟨rfl, frontL_none⟩, fun l hl => (by cases hl), List.Pairwise.nil, fun l hl => (by cases hl)⟩
theorem like_nil {s : Sp} (h : LikeS Sp.nil s) : s.f = [] ∧ s.L = [] := ⟨h.1, List.map_eq_nil_iff.1 h.2⟩
theorem LikeS.trans {a b c : Sp} (h : LikeS a b) (k : LikeS b c) : LikeS a c := ⟨k.1.trans h.1, k.2.trans h.2⟩
theorem LikeS.good {a b : Sp} (h : LikeS a b) (g : SpGood a.f a.L) : SpGood b.f b.L := by rw [h.1]; exact pl_good h.2.symm g
theorem LikeS.parts {a b : Sp} (h : LikeS a b) : (partsS b.L).map Up.p = (partsS a.L).map Up.p := (pl_parts h.2).1
theorem pairs_none {l oth : List Up} (h : ∀ x ∈ l, ofKey x.key oth = []) : okPairs l oth = true ∧ pairsP l oth = [] := by
  constructor
  · unfold okPairs
    rw [List.all_eq_true]
    intro x hx
    rw [h x hx]; rfl
  · unfold pairsP
    rw [List.flatMap_eq_nil_iff]
    intro x hx
    rw [h x hx]; rfl
theorem fitP_ext {P Q : List (Uk × Int)} (hP : ∀ q ∈ P, UkR q.1) (hQ : ∀ q ∈ Q, UkR q.1) (h : ∀ k, sumOf Uk.cmp P k = sumOf Uk.cmp Q k) : fitP P = fitP Q ∧ nz Uk.cmp P = nz Uk.cmp Q := by
  refine ⟨?_, nz_ext uk_lin (R := UkR) hP hQ h⟩
  have := (resL_ext uk_lin (R := UkR) hP hQ h).2
  unfold resE at this
  unfold fitP
  rw [Bool.eq_iff_iff]
  constructor <;> intro h1
  · rw [if_pos h1] at this
    apply Decidable.byContradiction
    intro h2
    rw [if_neg h2] at this
    cases this
  · rw [if_pos h1] at this
    apply Decidable.byContradiction
    intro h2
    rw [if_neg h2] at this
    cases this
theorem uk_key {a b : Uk} (h : Uk.cmp a b = 0) : cmpRows a.key b.key = 0 := by
  unfold Uk.cmp at h
  apply Decidable.byContradiction
  intro hn
  rw [if_neg hn] at h
  exact hn h
theorem sum_ofKey (k : List Vl) (K : Uk) : ∀ l : List Up, sumOf Uk.cmp ((ofKey k l).map Up.p) K = if cmpRows K.key k = 0 then sumOf Uk.cmp (l.map Up.p) K else 0
  | [] => by simp [ofKey, sumOf]
  | u :: l => by
    have ih := sum_ofKey k K l
    have hs : sumOf Uk.cmp ((u :: l).map Up.p) K = (if Uk.cmp u.k K = 0 then u.d else 0) + sumOf Uk.cmp (l.map Up.p) K := rfl
    rw [hs]
    unfold ofKey at ih ⊢
    rw [List.filter_cons]
    have s1 := row_lin.swap K.key u.key
    by_cases hu : cmpRows u.key k = 0
    · rw [if_pos (by simpa using hu), List.map_cons]
      have hs2 : sumOf Uk.cmp (u.p :: (l.filter fun u => decide (cmpRows u.key k = 0)).map Up.p) K = (if Uk.cmp u.k K = 0 then u.d else 0) + sumOf Uk.cmp ((l.filter fun u => decide (cmpRows u.key k = 0)).map Up.p) K := rfl
      rw [hs2, ih]
      by_cases hK : cmpRows K.key k = 0
      · rw [if_pos hK, if_pos hK]
      · rw [if_neg hK, if_neg hK, if_neg]
        · rfl
        · intro h0
          have h1 : cmpRows u.key K.key = 0 := uk_key h0
          exact hK (rows_eq0 (show cmpRows K.key u.key = 0 by omega) hu)
    · rw [if_neg (by simpa using hu), ih]
      by_cases hK : cmpRows K.key k = 0
      · rw [if_pos hK, if_pos hK, if_neg]
        · omega
        · intro h0
          have h1 : cmpRows u.key K.key = 0 := uk_key h0
          exact hu (rows_eq0 h1 hK)
      · rw [if_neg hK, if_neg hK]
theorem eqs_key {X Y : List Up} (h : EqS [] X Y) (k : List Vl) : EqS [] (ofKey k X) (ofKey k Y) :=
  ⟨chk_ofKey h.l, chk_ofKey h.r, fun K => by
    have hs := h.s K
    rw [advL_nil, advL_nil] at hs ⊢
    rw [sum_ofKey, sum_ofKey, hs]⟩
theorem step_one {G1 G2 : Nat} {a b : Sp} {out : List Up} {t : Tm} {E : Int} (h : StepE Sp.nil Sp.nil 0 [ja G1 G2] a b out t E) :
    E = 0 ∧ out = [] ∧ LikeS Sp.nil b ∧ a.f = [] ∧ SpGood a.f a.L ∧ EqS [] (partsS a.L) [ja G1 G2] ∧ wtS a.L ≤ 1 := by
  have hno : ∀ {o2 : Sp} {oth : List Up}, LikeS Sp.nil o2 → MatchOk o2.f (partsS o2.L) [ja G1 G2] oth → okPairs [ja G1 G2] oth = true ∧ pairsP [ja G1 G2] oth = [] := fun {o2 oth} l2 hm => pairs_none fun x hx => by
    have h2 := (hm x hx).2
    obtain ⟨e1, e2⟩ := like_nil l2
    rw [e1, e2] at h2
    exact List.map_eq_nil_iff.1 h2
  rcases h with ⟨Z, hc, hz, _⟩ | ⟨hc, hE, ht, h0, _⟩
  · exfalso
    rcases hc with ⟨h, _⟩ | ⟨_, ⟨h, _⟩ | ⟨_, h⟩⟩
    · exact h ⟨sp_goodN, sp_goodN⟩
    · exact h (.inl rfl)
    · exact hz (h.trans (pairs_ab G1 G2 G1 G2).1)
  · have hE0 : E = 0 := by
      apply Decidable.byContradiction
      intro hne
      obtain ⟨o1, o2, l1, l2, hw⟩ := (h0 rfl).2 hne
      obtain ⟨e1, e2⟩ := like_nil l1
      obtain ⟨e3, e4⟩ := like_nil l2
      rcases hw with ⟨k, hk⟩ | hk | ⟨oth, hm, _, hn, _⟩
      · rw [e3, e4] at hk
        exact hk (bld_ab 0 0).2.2.1
      · rcases hk with hk | ⟨hk, _⟩
        · rw [e1] at hk
          exact hk (bld_ab G1 G2).1
        · rw [e2] at hk
          exact hk rfl
      · obtain ⟨p1, p2⟩ := hno l2 hm
        exact hn rfl ⟨p1, by rw [p2]; rfl⟩
    obtain ⟨o1, o2, l1, l2, l3, hf, hp, oth, hm, _, h00, _⟩ := (h0 rfl).1 hE0
    obtain ⟨e1, e2⟩ := like_nil l1
    have hm' : MatchOk o2.f (partsS o2.L) [ja G1 G2] oth := hm.resolve_right (by simp)
    obtain ⟨p1, p2⟩ := hno l2 hm'
    have ho := (h00 rfl).2.2
    rw [p2] at ho
    rcases hp with hp | ⟨hp, _⟩
    · rw [e1, e2] at hp
      refine ⟨hE0, List.map_eq_nil_iff.1 ho, l3, hf, by rw [hf]; exact hp.good, hp.eq, hp.wt⟩
    · cases hp
theorem step_chk {l r : Sp} {u : List Up} {p Z : Int} (gl : SpGood l.f l.L) (gr : SpGood r.f r.L) (hc : chkUs u = 0) (h : ChkE l r p u Z) : ¬ (p = 0 ∨ p = 1) ∧ Z = 1 ∨ (p = 0 ∨ p = 1) ∧ Z = 0 := by
  rcases h with ⟨h, _⟩ | ⟨_, ⟨h, e⟩ | ⟨h, e⟩⟩
  · exact absurd ⟨gl, gr⟩ h
  · exact .inl ⟨h, e⟩
  · exact .inr ⟨h, e.trans hc⟩
theorem step_two {G1 G2 G3 G4 : Nat} {l r a b : Sp} {out : List Up} {t : Tm} {E : Int} (hf : l.f = []) (gl : SpGood l.f l.L) (he : EqS [] (partsS l.L) [ja G1 G2]) (hr : LikeS Sp.nil r) (h : StepE l r 1 [jb G3 G4] a b out t E) :
    E = 0 ∧ out.map Up.p = [(jk, (6 : Int))] := by
  obtain ⟨ca, cb, ok, ft, hz⟩ := pairs_ab G1 G2 G3 G4
  have gr : SpGood r.f r.L := by obtain ⟨e1, e2⟩ := like_nil hr; rw [e1, e2]; exact sp_goodN
  have key : ∀ {o2 : Sp} {oth : List Up}, LikeS l o2 → MatchOk o2.f (partsS o2.L) [jb G3 G4] oth → chkUs oth = 0 → okPairs oth [jb G3 G4] = true ∧ fitP (pairsP oth [jb G3 G4]) = true ∧ nz Uk.cmp (pairsP oth [jb G3 G4]) = [(jk, (6 : Int))] := fun {o2 oth} l2 hm hco => by
    have hP : EqS [] (partsS o2.L) [ja G1 G2] := (EqS.of_p he.l l2.parts.symm).symm.trans he
    have hf2 : o2.f = [] := l2.1.trans hf
    rw [hf2] at hm
    have h2 := (hm _ (List.mem_singleton.2 rfl)).2
    have h3 := ((eqs_key hP (jb G3 G4).key).cons (fun x hx => by cases hx)).1
    rw [h3, advL_nil] at h2
    have h4 : ofKey (jb G3 G4).key [ja G1 G2] = [ja G1 G2] := by kernel_rfl
    rw [h4, (bld_ab G1 G2).2.2.2.1] at h2
    have hok : okPairs oth [jb G3 G4] = true := by
      unfold okPairs
      rw [List.all_eq_true]
      intro x hx
      rw [List.all_eq_true]
      intro y hy
      obtain ⟨hy1, hy2⟩ := List.mem_filter.1 hy
      obtain rfl := List.mem_singleton.1 hy1
      have hc0 := of_decide_eq_true hy2
      have s1 := row_lin.swap (jb G3 G4).key x.key
      have hx2 : x ∈ ofKey (jb G3 G4).key oth := List.mem_filter.2 ⟨hx, by simp; omega⟩
      have hx3 : x.p ∈ (ofKey (jb G3 G4).key oth).map Up.p := List.mem_map_of_mem hx2
      rw [h2] at hx3
      have hx4 : x.p = (ja G1 G2).p := List.mem_singleton.1 hx3
      have hk : x.k = (ja G1 G2).k := congrArg Prod.fst hx4
      have hd : x.d = (ja G1 G2).d := congrArg Prod.snd hx4
      have hrow : x.row = (ja G1 G2).row := congrArg Uk.row hk
      have hg : goodP x (jb G3 G4) = goodP (ja G1 G2) (jb G3 G4) := by
        unfold goodP
        rw [hd, hrow]
      rw [hg]
      exact (show ∀ G1 G2 G3 G4, goodP (ja G1 G2) (jb G3 G4) = true from fun _ _ _ _ => by kernel_rfl) G1 G2 G3 G4
    have hs : ∀ K, sumOf Uk.cmp (pairsP oth [jb G3 G4]) K = sumOf Uk.cmp (pairsP [ja G1 G2] [jb G3 G4]) K := fun K => by
      rw [match_sumR hm (fun x hx => by cases hx) hP.l (.inl rfl) K]
      exact pairs_sameR hP.l hP.r (fun k => by have := hP.s k; rwa [advL_nil, advL_nil] at this) _ K
    obtain ⟨f1, f2⟩ := fitP_ext (okPairs_right hco cb hok) (okPairs_right ca cb ok) hs
    exact ⟨hok, by rw [f1]; exact ft, by rw [f2]; exact hz⟩
  rcases h with ⟨Z, hc, hz', _⟩ | ⟨hc, hE, ht, _, h1⟩
  · exfalso
    rcases step_chk gl gr cb hc with ⟨h, _⟩ | ⟨_, h⟩
    · exact h (.inr rfl)
    · exact hz' h
  · have hE0 : E = 0 := by
      apply Decidable.byContradiction
      intro hne
      obtain ⟨o1, o2, l1, l2, hw⟩ := (h1 rfl).2 hne
      obtain ⟨e1, e2⟩ := like_nil (hr.trans l1)
      rcases hw with ⟨k, hk⟩ | hk | ⟨oth, hm, hco, _, hn⟩
      · have g2 := l2.good gl
        have hP : EqS [] (partsS o2.L) [ja G1 G2] := (EqS.of_p he.l l2.parts.symm).symm.trans he
        have hf2 : o2.f = [] := l2.1.trans hf
        refine hk ?_
        rw [show partsK k o2.L = ofKey k (partsS o2.L) from partsK_eq k g2.each, hf2]
        unfold bldE
        rw [if_pos ⟨rfl, frontL_none⟩, ((eqs_key hP k).cons (fun x hx => by cases hx)).2]
        by_cases h0 : cmpRows (ja G1 G2).key k = 0
        · have : ofKey k [ja G1 G2] = [ja G1 G2] := by unfold ofKey; rw [List.filter_cons, if_pos (by simpa using h0)]; rfl
          rw [this]; exact (show ∀ G1 G2, consE [advL [] [ja G1 G2]] = 0 from fun _ _ => by kernel_rfl) G1 G2
        · have : ofKey k [ja G1 G2] = [] := by unfold ofKey; rw [List.filter_cons, if_neg (by simpa using h0)]; rfl
          rw [this]; exact (show consE [advL [] []] = 0 from by kernel_rfl)
      · rcases hk with hk | ⟨hk, _⟩
        · rw [e1] at hk
          exact hk (bld_ab G3 G4).2.1
        · rw [e2] at hk
          exact hk rfl
      · obtain ⟨p1, p2, _⟩ := key l2 hm hco
        exact hn rfl ⟨p1, p2⟩
    obtain ⟨o1, o2, l1, l2, l3, _, hp, oth, hm, hco, _, h11⟩ := (h1 rfl).1 hE0
    have hm' : MatchOk o2.f (partsS o2.L) [jb G3 G4] oth := hm.resolve_right (by simp)
    obtain ⟨_, _, p3⟩ := key l2 hm' hco
    exact ⟨hE0, (h11 rfl).2.2.trans p3⟩
theorem step_three {G3 G4 : Nat} {l r a b : Sp} {out : List Up} {t : Tm} {E : Int} (gl : SpGood l.f l.L) (hr : LikeS Sp.nil r) (h : StepE l r 2 [jb G3 G4] a b out t E) : E = 1 := by
  have cb := (pairs_ab G3 G4 G3 G4).2.1
  have gr : SpGood r.f r.L := by obtain ⟨e1, e2⟩ := like_nil hr; rw [e1, e2]; exact sp_goodN
  rcases h with ⟨Z, hc, hz', hE, _⟩ | ⟨hc, _⟩
  · rcases step_chk gl gr cb hc with ⟨_, h⟩ | ⟨h, _⟩
    · exact hE.trans h
    · rcases h with h | h <;> exact absurd h (by decide)
  · rcases step_chk gl gr cb hc with ⟨_, h⟩ | ⟨h, _⟩
    · exact absurd h (by decide)
    · rcases h with h | h <;> exact absurd h (by decide)
def SizeS (s : Sp) (w : World) (x : Ending) (w' : World) : Prop :=
  ∃ n k e : Int, x = .returned (.tuple #[.int .i64 n, .int .i64 k, .int .i64 e]) ∧ ((¬ SpGood s.f s.L ∧ n = 0 ∧ k = 0 ∧ e = 8) ∨ (SpGood s.f s.L ∧ n = (cntS s.L : Int) ∧ k = ((partsS s.L).length : Int) ∧ e = 0)) ∧ Below w.heap.size w w'
def bk (n : Int) : Uk := ⟨[], [vnum n], ⟨0, 0, 0⟩⟩
theorem parts_wt (L : List Lv) : (partsS L).length ≤ wtS L := by
  induction L with
  | nil => exact Nat.zero_le _
  | cons l L ih =>
    have e : wtS (l :: L) = wtL l + wtS L := by unfold wtS; rw [List.map_cons, List.sum_cons]
    rw [partsS_cons, List.length_append, e]
    have : (partsL l).length ≤ wtL l := by
      unfold partsL wtL
      split
      · omega
      · exact Nat.le_refl _
    omega
def tk (k : Nat) : List Up := [lu 0 0 1 0, lu 0 1 1 0, lu 0 2 1 0].take k
def bk2 (n : Int) : Uk := ⟨[], [vnum n], ⟨2, 0, 0⟩⟩
structure St (k : Nat) (s : Sp) : Prop where
  f : s.f = []
  good : SpGood [] s.L
  eq : EqS [] (partsS s.L) (tk k)
  wt : wtS s.L ≤ k
  fr : AllFr [] s.L
  has : 0 < k → HasB s.L 1
end Go.Proofs.YtjffohpdjicfpaaGreat
