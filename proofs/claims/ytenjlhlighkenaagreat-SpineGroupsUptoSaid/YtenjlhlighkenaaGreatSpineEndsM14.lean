/- Part 14 of the texts on which SpineEnds rests: facts and contracts. -/
import Derived.Test.YtenjlhlighkenaaGreatSpineEndsM13
import Derived.WalkKit
import Derived.ProofKit
import Derived.OpenShut
import Derived.JoinedCond
import Derived.Carry
import Derived.ChangeArms
import Derived.Deep.Slices
import Derived.SizedLaws
import Derived.Test.YtenjlhlighkenaaGreatRows
namespace Go.Proofs.YtenjlhlighkenaaGreat
open Go Go.RowKit

def AllS (s : Sp) (w : World) (x : Ending) (w' : World) : Prop :=
  ∃ (b : Bt) (e : Int), x = .returned (.tuple #[.slice b.uA b.l.length b.uc, .int .i64 e]) ∧ ((¬ SpGood s.f s.L ∧ e = 8 ∧ b = Bt.nil) ∨ (SpGood s.f s.L ∧ e = bldE s.f (partsS s.L) ∧ (e = 0 → b.l.map Up.p = consL [advL s.f (partsS s.L)]) ∧ (e ≠ 0 → b = Bt.nil))) ∧ BtIn w' w'.heap.size b ∧ BtOk b ∧ BtLo w.heap.size b ∧ Below w.heap.size w w'
set_option maxRecDepth 100000 in
set_option maxHeartbeats 6400000 in
theorem all_any (s : Sp) (w : World) (hs : SpIn w w.heap.size s) (os : SpOk s) (hn : (partsS s.L).length ≤ 1099511627776) :
    Calls Tryz.prog 13 #[s.val] w (AllS s w) := by
  obtain ⟨V, hV, hvb, hvs, hvo⟩ := spbox w s
  have hin := hs.keep hvb
  have u1 := Lib.hid (scheck_any s V hin os)
  have H := Lib.hid (And.intro hin (And.intro os (And.intro hvb (And.intro hvo hn))))
  obtain ⟨d0, d1⟩ := own2 hvo
  rw [show s.val = .agg #[.slice s.sA s.f.length s.sc, .slice s.lA s.L.length s.lc] from rfl] at u1 ⊢
  have HP := Lib.hid (show ∀ (b : Bt) e w', ((¬ SpGood s.f s.L ∧ e = 8 ∧ b = Bt.nil) ∨ (SpGood s.f s.L ∧ e = bldE s.f (partsS s.L) ∧ (e = 0 → b.l.map Up.p = consL [advL s.f (partsS s.L)]) ∧ (e ≠ 0 → b = Bt.nil))) → BtIn w' w'.heap.size b → BtOk b → BtLo w.heap.size b → Below w.heap.size w w' → AllS s w (.returned (.tuple #[.slice b.uA b.l.length b.uc, .int .i64 e])) w' from fun b e w' h1 h2 h3 h4 h5 => ⟨b, e, rfl, h1, h2, h3, h4, h5⟩)
  clear hs os hvb hvs hvo hin hn
  go_enter Tryz.func13, Tryz.ntmps13
  go_upto_region 1 with fail
  rw [← hV]
  clear hV
  go_wp2_with fail
  refine u1.out.mono ?_
  rintro _ w1 ⟨e, rfl, he, b1⟩
  have H1 := Lib.hid (And.intro b1 he)
  clear u1
  obtain ⟨d0, d1⟩ := own2 (H.out.2.2.2.1.past b1 H.out.2.2.2.1.inside)
  by_cases h0 : e = 0
  · have hg : SpGood s.f s.L := by
      rcases he with ⟨h, _⟩ | ⟨_, h⟩
      · exact h
      · omega
    have u2 := Lib.hid (collect_all s w1 (H.out.1.keep b1) H.out.2.1 hg H.out.2.2.2.2)
    rw [show s.val = .agg #[.slice s.sA s.f.length s.sc, .slice s.lA s.L.length s.lc] from rfl] at u2
    have HG := Lib.hid hg
    have t1 : (e != 0) = false := by simp [h0]
    clear he b1 hg h0
    go_wp2_with fail
    refine u2.out.mono ?_
    rintro _ w2 ⟨b, rfl, h1, h2, h3, h4, h5, h6⟩
    have H2 := Lib.hid (And.intro h1 (And.intro h2 (And.intro h3 (And.intro h4 (And.intro h5 h6)))))
    clear h1 h2 h3 h4 h5 h6 u2
    go_wp2_with fail
    exact bodyPost_ret (v := .tuple #[.slice b.uA b.l.length b.uc, .int .i64 (bldE s.f (partsS s.L))]) (by simp [results, Tryz.results13, go_sem]) rfl (HP.out b _ _ (.inr ⟨HG.out, rfl, fun h => (H2.out.1 h).2.2, H2.out.2.1⟩) H2.out.2.2.1 H2.out.2.2.2.1 (H2.out.2.2.2.2.1.mono (belows H.out.2.2.1 H1.out.1).size) (belows H.out.2.2.1 (belows H1.out.1 H2.out.2.2.2.2.2)))
  · have hg : ¬ SpGood s.f s.L ∧ e = 8 := by
      rcases he with ⟨_, h⟩ | h
      · exact absurd h h0
      · exact h
    have t1 : (e != 0) = true := bne_iff_ne.2 h0
    have HG := Lib.hid hg
    clear he b1 hg h0
    go_wp2_with fail
    exact bodyPost_ret (v := .tuple #[.slice none 0 0, .int .i64 e]) (by simp [results, Tryz.results13, go_sem]) rfl (HP.out Bt.nil e _ (.inl ⟨HG.out.1, HG.out.2, rfl⟩) (bt_nil_in _ _) bt_nil_ok (bt_nil_lo _) (belows H.out.2.2.1 H1.out.1))
end Go.Proofs.YtenjlhlighkenaaGreat
namespace Go.Proofs.YtenjlhlighkenaaGreat
open Go Go.RowKit

theorem times_keepS {w w' : World} {A : Option Addr} {l : List Tm} (h : Times w w.heap.size A l) (hb : Below w.heap.size w w') : Times w' w'.heap.size A l := (h.past hb (Nat.le_refl _)).wide hb.size
def CompS (s : Sp) (g : List Tm) (w : World) (x : Ending) (w' : World) : Prop :=
  ∃ (s' : Sp) (E : Int), x = .returned (.tuple #[s'.val, .int .i64 E]) ∧ ((¬ SpGood s.f s.L ∧ E = 8 ∧ s' = Sp.nil) ∨ (SpGood s.f s.L ∧ s'.L.map Lv.pl = s.L.map Lv.pl ∧ ((¬ FrontOk g ∧ E = 4 ∧ s'.f = s.f) ∨ (FrontOk g ∧ ¬ LaterF g s.f ∧ E = 1 ∧ s'.f = s.f) ∨ (FrontOk g ∧ LaterF g s.f ∧ E = 0 ∧ s'.f = g)))) ∧ SpIn w' w'.heap.size s' ∧ SpOk s' ∧ SpLo w.heap.size s' ∧ Below w.heap.size w w'
set_option maxRecDepth 100000 in
set_option maxHeartbeats 12800000 in
theorem compact_any (s : Sp) (A : Option Addr) (c : Nat) (g : List Tm) (w : World) (hs : SpIn w w.heap.size s) (ok : SpOk s) (hgt : Times w w.heap.size A g) (hgo : TsOk g c) (hw : wtS s.L ≤ 274877906944) :
    Calls Tryz.prog 9 #[s.val, .slice A g.length c] w (CompS s g w) := by
  obtain ⟨V, hV, hvb, hvs, hvo, hvz⟩ := sp_box2 w s
  have hin := hs.keep hvb
  have y1 := Lib.hid (scheck_any s V hin ok)
  have H := Lib.hid (And.intro hs (And.intro ok (And.intro hgt (And.intro hgo (And.intro hw (And.intro hvb (And.intro hvo hvz)))))))
  obtain ⟨d0, d1⟩ := own2 hvo
  have HP := Lib.hid (show ∀ x w' (s' : Sp) (E : Int), x = .returned (.tuple #[s'.val, .int .i64 E]) → ((¬ SpGood s.f s.L ∧ E = 8 ∧ s' = Sp.nil) ∨ (SpGood s.f s.L ∧ s'.L.map Lv.pl = s.L.map Lv.pl ∧ ((¬ FrontOk g ∧ E = 4 ∧ s'.f = s.f) ∨ (FrontOk g ∧ ¬ LaterF g s.f ∧ E = 1 ∧ s'.f = s.f) ∨ (FrontOk g ∧ LaterF g s.f ∧ E = 0 ∧ s'.f = g)))) → SpIn w' w'.heap.size s' → SpOk s' → SpLo w.heap.size s' → Below w.heap.size w w' → CompS s g w x w' from fun x w' s' E h1 h2 h3 h4 h5 h6 => ⟨s', E, h1, h2, h3, h4, h5, h6⟩)
  have hsv : s.val = .agg #[.slice s.sA s.f.length s.sc, .slice s.lA s.L.length s.lc] := rfl
  rw [hsv] at y1 ⊢
  clear hs ok hgt hgo hw hvb hvs hvo hvz hin
  go_enter Tryz.func9, Tryz.ntmps9
  go_upto_region 1 with fail
  rw [← hV]
  clear hV
  go_wp2_with fail
  refine y1.out.mono ?_
  rintro _ w1 ⟨n, rfl, hn, b1⟩
  have hv1 := H.out.2.2.2.2.2.2.1.past b1 H.out.2.2.2.2.2.2.1.inside
  have hz1 := H.out.2.2.2.2.2.2.2.past b1 H.out.2.2.2.2.2.2.2.inside
  have H1 := Lib.hid (And.intro hn (And.intro (H.out.2.2.2.2.2.1.trans (b1.mono H.out.2.2.2.2.2.1.size)) (And.intro hv1 (And.intro hz1 hz1.inside))))
  clear hn b1 d0 d1 y1
  by_cases h0 : n = 0
  case neg =>
    have t1 : (n != 0) = true := bne_iff_ne.2 h0
    have HN := Lib.hid (show ¬ SpGood s.f s.L ∧ n = 8 from by
      rcases H1.out.1 with ⟨_, h⟩ | h
      · exact absurd h h0
      · exact h)
    obtain ⟨z0, z1⟩ := own2 hz1
    have f0 := hz1.open_ 0
    have f1 := hz1.open_ 1
    have hX := (hz1.set_ 0 (.slice none 0 0)).set_ 1 (.slice none 0 0)
    obtain ⟨x0, x1⟩ := own2 hX
    have HB := Lib.hid (below_two H1.out.2.1 (Nat.le_succ _) (P := w.heap.size + 1) (.slice none 0 0) (.slice none 0 0))
    clear hv1 hz1 hX h0
    go_wp2_with fail
    exact bodyPost_ret (v := .tuple #[.agg #[.slice none 0 0, .slice none 0 0], .int .i64 n]) (by simp [results, Tryz.results9, go_sem, x0, x1]) rfl (HP.out _ _ Sp.nil n rfl (.inl ⟨HN.out.1, HN.out.2, rfl⟩) (sp_nil_in _ _) sp_nil_ok (sp_nil_lo _) HB.out)
  subst h0
  have hgood : SpGood s.f s.L := by
    rcases H1.out.1 with ⟨h, _⟩ | ⟨_, h⟩
    · exact h
    · exact absurd h (by decide)
  have hin1 := H.out.1.keep H1.out.2.1
  have y2 := Lib.hid (copyS_any s w1 hin1 H.out.2.1 hgood H.out.2.2.2.2.1)
  have HG := Lib.hid hgood
  obtain ⟨d0, d1⟩ := own2 hv1
  rw [hsv] at y2
  clear hv1 hz1 hgood hin1
  go_wp2_with fail
  refine y2.out.mono ?_
  rintro _ w2 ⟨s1, rfl, hc, b2⟩
  rw [show s1.val = .agg #[.slice s1.sA s1.f.length s1.sc, .slice s1.lA s1.L.length s1.lc] from rfl]
  obtain ⟨V3, hV3, b3, hs3, o3⟩ := spbox w2 s1
  have b23 := belows b2 b3
  have b03 := belows H1.out.2.1 b23
  have HC := Lib.hid (And.intro hc.f hc.L)
  have HL := Lib.hid (And.intro hc.in_ (And.intro hc.ok (And.intro hc.lo (And.intro b2.size b3))))
  have H3 := Lib.hid (And.intro b03 (And.intro (H1.out.2.2.1.past b23 H1.out.2.2.1.inside) (And.intro (H1.out.2.2.2.1.past b23 H1.out.2.2.2.1.inside) o3)))
  have hgt3 := times_keepS H.out.2.2.1 b03
  have y3 := Lib.hid (frontier_anyS A c g V3 hgt3 H.out.2.2.2.1)
  clear hc b2 b3 b23 b03 d0 d1 y2 hs3 o3 hgt3
  go_upto_region 5 with fail
  rw [← hV3]
  clear hV3
  go_wp2_with fail
  refine y3.out.mono ?_
  rintro _ w4 ⟨fb, rfl, hfb, b4⟩
  have H4 := Lib.hid (And.intro (belows H3.out.1 b4) (And.intro (H3.out.2.1.past b4 H3.out.2.1.inside) (And.intro (H3.out.2.2.1.past b4 H3.out.2.2.1.inside) (And.intro (H3.out.2.2.2.past b4 H3.out.2.2.2.inside) (belows HL.out.2.2.2.2 b4)))))
  have HFB := Lib.hid hfb
  clear b4 hfb y3
  cases fb with
  | false =>
    have oz := H4.out.2.2.1
    obtain ⟨z0, z1⟩ := own2 oz
    have f0 := oz.open_ 0
    have f1 := oz.open_ 1
    obtain ⟨g0, g1⟩ := own2 H4.out.2.2.2.1
    have hX := (oz.set_ 0 (.slice s1.sA s1.f.length s1.sc)).set_ 1 (.slice s1.lA s1.L.length s1.lc)
    obtain ⟨x0, x1⟩ := own2 hX
    have hP1 : w.heap.size + 1 < w1.heap.size := H1.out.2.2.2.2
    have HX := Lib.hid (And.intro (sp_kept ((HL.out.1.past H4.out.2.2.2.2 (Nat.le_refl _)).wide H4.out.2.2.2.2.size) (HL.out.2.2.1.mono hP1) (kept_two (P := w.heap.size + 1) (.slice s1.sA s1.f.length s1.sc) (.slice s1.lA s1.L.length s1.lc))) (And.intro (HL.out.2.2.1.mono H1.out.2.1.size) (below_two H4.out.1 (Nat.le_succ w.heap.size) (.slice s1.sA s1.f.length s1.sc) (.slice s1.lA s1.L.length s1.lc))))
    clear oz hX
    go_wp2_with fail
    exact bodyPost_ret (v := .tuple #[.agg #[.slice s1.sA s1.f.length s1.sc, .slice s1.lA s1.L.length s1.lc], .int .i64 4]) (by simp [results, Tryz.results9, go_sem, x0, x1]) rfl (HP.out _ _ s1 4 rfl (.inr ⟨HG.out, HC.out.2, .inl ⟨fun h => absurd (HFB.out.2 h) (by decide), rfl, HC.out.1⟩⟩) HX.out.1 HL.out.2.1 HX.out.2.1 HX.out.2.2)
  | true =>
    have hgt4 := times_keepS H.out.2.2.1 H4.out.1
    have y4 := Lib.hid (later_any A c g s.sA s.sc s.f w4 hgt4 (Nat.le_trans H.out.2.2.2.1.le H.out.2.2.2.1.c_) (H.out.1.keep H4.out.1).since (Nat.le_trans H.out.2.1.f.le H.out.2.1.f.c_))
    obtain ⟨d0, d1⟩ := own2 H4.out.2.1
    clear hgt4
    go_wp2_with fail
    refine y4.out.mono ?_
    rintro _ w5 ⟨lb, rfl, hlb, b5⟩
    have H5 := Lib.hid (And.intro (belows H4.out.1 b5) (And.intro (H4.out.2.2.1.past b5 H4.out.2.2.1.inside) (And.intro (H4.out.2.2.2.1.past b5 H4.out.2.2.2.1.inside) (belows H4.out.2.2.2.2 b5))))
    have HLB := Lib.hid hlb
    clear b5 hlb y4 d0 d1
    cases lb with
    | false =>
      have oz := H5.out.2.1
      obtain ⟨z0, z1⟩ := own2 oz
      have f0 := oz.open_ 0
      have f1 := oz.open_ 1
      obtain ⟨g0, g1⟩ := own2 H5.out.2.2.1
      have hX := (oz.set_ 0 (.slice s1.sA s1.f.length s1.sc)).set_ 1 (.slice s1.lA s1.L.length s1.lc)
      obtain ⟨x0, x1⟩ := own2 hX
      have hP1 : w.heap.size + 1 < w1.heap.size := H1.out.2.2.2.2
      have HX := Lib.hid (And.intro (sp_kept ((HL.out.1.past H5.out.2.2.2 (Nat.le_refl _)).wide H5.out.2.2.2.size) (HL.out.2.2.1.mono hP1) (kept_two (P := w.heap.size + 1) (.slice s1.sA s1.f.length s1.sc) (.slice s1.lA s1.L.length s1.lc))) (And.intro (HL.out.2.2.1.mono H1.out.2.1.size) (below_two H5.out.1 (Nat.le_succ w.heap.size) (.slice s1.sA s1.f.length s1.sc) (.slice s1.lA s1.L.length s1.lc))))
      clear oz hX
      go_wp2_with fail
      exact bodyPost_ret (v := .tuple #[.agg #[.slice s1.sA s1.f.length s1.sc, .slice s1.lA s1.L.length s1.lc], .int .i64 1]) (by simp [results, Tryz.results9, go_sem, x0, x1]) rfl (HP.out _ _ s1 1 rfl (.inr ⟨HG.out, HC.out.2, .inr (.inl ⟨HFB.out.1 (by first | trivial | rfl), fun h => absurd (HLB.out.2 h) (by decide), rfl, HC.out.1⟩)⟩) HX.out.1 HL.out.2.1 HX.out.2.1 HX.out.2.2)
    | true =>
      have hgn := H.out.2.2.2.1.n
      have y5 := Lib.hid (listT_times A c g w5 (times_keepS H.out.2.2.1 H5.out.1) (by omega))
      go_wp2_with fail
      refine y5.out.mono ?_
      rintro _ w6 ⟨A', rfl, ht6, hlo6, b6⟩
      have oz := H5.out.2.1.past b6 H5.out.2.1.inside
      have oq := H5.out.2.2.1.past b6 H5.out.2.2.1.inside
      have b26 := belows H5.out.2.2.2 b6
      have b06 := belows H5.out.1 b6
      have hq : w2.heap.size < w5.heap.size := H5.out.2.2.1.inside
      have hPQ : w.heap.size + 1 ≠ w2.heap.size := by have := H1.out.2.2.2.2; have := HL.out.2.2.2.1; omega
      have hP1 : w.heap.size + 1 < w1.heap.size := H1.out.2.2.2.2
      have hP2 := HL.out.2.2.2.1
      have hin7 : SpIn (w6.setCell ⟨w2.heap.size, 0, none⟩ (.slice A' g.length g.length)) w2.heap.size s1 := HL.out.1.past (b26.setCell (p := ⟨w2.heap.size, 0, none⟩) (Nat.le_refl _) _) (Nat.le_refl _)
      have hlo6' : LoT w5.heap.size A' := fun b o e => (hlo6 b o e).1
      have ht7 := times_kept ht6 (hlo6'.of (S := fun b => b = w2.heap.size) (fun b e => by omega)) (KeptK.set_ (S := fun b => b = w2.heap.size) (o := 0) (KeptK.refl w6 _) (.inl rfl) (.slice A' g.length g.length))
      have hsz : (w6.setCell ⟨w2.heap.size, 0, none⟩ (.slice A' g.length g.length)).heap.size = w6.heap.size := by simp
      have hspi : SpIn (w6.setCell ⟨w2.heap.size, 0, none⟩ (.slice A' g.length g.length)) (w6.setCell ⟨w2.heap.size, 0, none⟩ (.slice A' g.length g.length)).heap.size ⟨A', g.length, g, s1.lA, s1.lc, s1.L⟩ := ⟨ht7, (hin7.wide (by rw [hsz]; exact b26.size)).lev⟩
      have hlo7 : SpLo w1.heap.size ⟨A', g.length, g, s1.lA, s1.lc, s1.L⟩ := ⟨hlo6'.mono (by omega), HL.out.2.2.1.l, HL.out.2.2.1.each_⟩
      have hok7 : SpOk ⟨A', g.length, g, s1.lA, s1.lc, s1.L⟩ := ⟨⟨hgn, Nat.le_refl _, by show g.length ≤ maxLen; unfold maxLen; omega⟩, HL.out.2.1.n, HL.out.2.1.le, HL.out.2.1.c_, HL.out.2.1.each_⟩
      have oq7 := oq.set_ 0 (.slice A' g.length g.length)
      have oz7 := (KeptK.set_ (S := fun b => b = w2.heap.size) (o := 0) (KeptK.refl w6 _) (.inl rfl) (.slice A' g.length g.length)).own oz hPQ
      have fq := oq.open_ 0
      obtain ⟨k0, k1⟩ := own2 oq
      obtain ⟨g0, g1⟩ := own2 oq7
      obtain ⟨z0, z1⟩ := own2 oz7
      have f0 := oz7.open_ 0
      have f1 := oz7.open_ 1
      have hX := (oz7.set_ 0 (.slice A' g.length g.length)).set_ 1 (.slice s1.lA s1.L.length s1.lc)
      obtain ⟨x0, x1⟩ := own2 hX
      have HX := Lib.hid (And.intro (sp_kept hspi (hlo7.mono hP1) (kept_two (P := w.heap.size + 1) (.slice A' g.length g.length) (.slice s1.lA s1.L.length s1.lc))) (And.intro (hlo7.mono H1.out.2.1.size) (And.intro (below_two (b06.setCell (p := ⟨w2.heap.size, 0, none⟩) (by show w.heap.size ≤ w2.heap.size; omega) (.slice A' g.length g.length)) (Nat.le_succ w.heap.size) (.slice A' g.length g.length) (.slice s1.lA s1.L.length s1.lc)) hok7)))
      clear oz oq b26 b06 hq hPQ hin7 hlo6' ht7 hspi hlo7 hok7 oq7 oz7 hX ht6 hlo6 b6 hP2 hP1 y5
      go_wp2_with fail
      exact bodyPost_ret (v := .tuple #[.agg #[.slice A' g.length g.length, .slice s1.lA s1.L.length s1.lc], .int .i64 0]) (by simp [results, Tryz.results9, go_sem, x0, x1]) rfl (HP.out _ _ ⟨A', g.length, g, s1.lA, s1.lc, s1.L⟩ 0 rfl (.inr ⟨HG.out, HC.out.2, .inr (.inr ⟨HFB.out.1 (by first | trivial | rfl), HLB.out.1 (by first | trivial | rfl), rfl, rfl⟩)⟩) HX.out.1 HX.out.2.2.2 HX.out.2.1 HX.out.2.2.1)
end Go.Proofs.YtenjlhlighkenaaGreat
namespace Go.Proofs.YtenjlhlighkenaaGreat
open Go Go.RowKit

def bk (n : Int) : Uk := ⟨[], [vnum n], ⟨0, 0, 0⟩⟩
theorem bfront_nil : FrontOk [] := by
  have h1 := frontTo_len (sortT []) (sortT []).length (Nat.le_refl _)
  have h2 : (sortT []).length = 0 := by simp [sortT]
  exact ⟨by rfl, List.eq_nil_of_length_eq_zero (by unfold frontL; omega)⟩
end Go.Proofs.YtenjlhlighkenaaGreat
namespace Go.Proofs.YtenjlhlighkenaaGreat
open Go Go.RowKit

theorem cls_ge {n k : Nat} (h : k < clsN n) : 2 ^ k ≤ n := by
  rcases Nat.lt_or_ge n (2 ^ k) with h1 | h1
  · have := cls_pow h1; omega
  · exact h1
theorem lv_wt {f : List Tm} {l : Lv} (g : LvGood f l) (hp : 1 ≤ l.cls) : 1 ≤ wtL l ∧ (l.busy = true → 2 ≤ wtL l) ∧ (2 ≤ l.cls → 2 ≤ wtL l) ∧ (2 ≤ l.cls → l.busy = true → 4 ≤ wtL l) ∧ (3 ≤ l.cls → 4 ≤ wtL l) := by
  cases hb : l.busy
  · obtain ⟨_, _, h3, _⟩ := g.idle hb
    have e : wtL l = l.b.l.length := by unfold wtL; rw [hb]; simp
    rw [e]
    have g1 : 0 < clsN l.b.l.length → 1 ≤ l.b.l.length := fun h => by simpa using cls_ge h
    have g2 : 1 < clsN l.b.l.length → 2 ≤ l.b.l.length := fun h => by simpa using cls_ge h
    have g3 : 2 < clsN l.b.l.length → 4 ≤ l.b.l.length := fun h => by simpa using cls_ge h
    refine ⟨g1 (by omega), fun h => (by cases h), fun h => g2 (by omega), fun _ h => (by cases h), fun h => g3 (by omega)⟩
  · obtain ⟨_, _, _, h3, h4, _⟩ := g.busy hb
    have e : l.m.a.length + l.m.b.length ≤ wtL l := by unfold wtL; rw [if_pos hb]; omega
    have g1 : 0 < clsN l.m.a.length → 1 ≤ l.m.a.length := fun h => by simpa using cls_ge h
    have g2 : 1 < clsN l.m.a.length → 2 ≤ l.m.a.length := fun h => by simpa using cls_ge h
    have g3 : 2 < clsN l.m.a.length → 4 ≤ l.m.a.length := fun h => by simpa using cls_ge h
    have k1 : 0 < clsN l.m.b.length → 1 ≤ l.m.b.length := fun h => by simpa using cls_ge h
    have k2 : 1 < clsN l.m.b.length → 2 ≤ l.m.b.length := fun h => by simpa using cls_ge h
    have a1 := g1 (by omega)
    have b1 := k1 (by omega)
    refine ⟨by omega, fun _ => by omega, fun h => by have := g2 (by omega); omega, fun h _ => by have := g2 (by omega); have := k2 (by omega); omega, fun h => by have := g3 (by omega); omega⟩
theorem parts_wt (L : List Lv) : (partsS L).length ≤ wtS L := by
  induction L with
  | nil => exact Nat.zero_le _
  | cons l L ih =>
    have e : wtS (l :: L) = wtL l + wtS L := by unfold wtS; rw [List.map_cons, List.sum_cons]
    rw [partsS_cons, List.length_append, e]
    have : (partsL l).length ≤ wtL l := by
      unfold partsL wtL
      split
      · omega
      · exact Nat.le_refl _
    omega
theorem wt_cons' (l : Lv) (L : List Lv) : wtS (l :: L) = wtL l + wtS L := by unfold wtS; rw [List.map_cons, List.sum_cons]
theorem busy_wt {f : List Tm} : ∀ (L : List Lv), (∀ l ∈ L, 1 ≤ l.cls) → (∀ l ∈ L, LvGood f l) → 2 * busyN L ≤ wtS L
  | [], _, _ => Nat.zero_le _
  | l :: L, h1, h2 => by
    have ih := busy_wt L (fun x hx => h1 x (List.mem_cons_of_mem _ hx)) (fun x hx => h2 x (List.mem_cons_of_mem _ hx))
    have hw := lv_wt (h2 l List.mem_cons_self) (h1 l List.mem_cons_self)
    rw [busyN_cons, wt_cons']
    split
    · next hb => have := hw.2.1 hb; omega
    · omega
theorem one_level {f : List Tm} {L : List Lv} {l : Lv} (g : SpGood f L) (hw : wtS L ≤ 2) (hl : l ∈ L) (hb : l.busy = true) : L = [l] := by
  have h2 := (lv_wt (g.each l hl) (g.pos l hl)).2.1 hb
  match L, g, hw, hl with
  | x :: M, g, hw, hl =>
    rw [wt_cons'] at hw
    rcases List.mem_cons.1 hl with rfl | hm
    · match M, g, hw with
      | [], _, _ => rfl
      | y :: N, g, hw =>
        have := (lv_wt (g.each y (by simp)) (g.pos y (by simp))).1
        rw [wt_cons'] at hw
        omega
    · have h3 := wt_le hm
      have := (lv_wt (g.each x (by simp)) (g.pos x (by simp))).1
      omega
theorem cls_12 : clsN 1 = 1 ∧ clsN 2 = 2 := ⟨by rfl, by rfl⟩
theorem st_three {L : List Lv} (g : SpGood [] L) (hw : wtS L ≤ 3) (hp : 3 ≤ (partsS L).length) (fr : AllFr [] L) (has : HasB L 1) : ∃ x y, L = [x, y] ∧ x.cls = 2 ∧ x.busy = false ∧ y.busy = false := by
  match L, g, hw, hp, fr, has with
  | [], _, _, hp, _, _ => simp [partsS] at hp
  | [x], g, hw, hp, fr, has =>
    exfalso
    have hx := lv_wt (g.each x (by simp)) (g.pos x (by simp))
    rw [wt_cons'] at hw
    have e : (partsS [x]).length = (partsL x).length := by rw [partsS_cons, List.length_append]; rfl
    rw [e] at hp
    cases hb : x.busy
    · obtain ⟨l, hl, h⟩ := has
      obtain rfl : l = x := by simpa using hl
      have e2 : partsL l = l.b.l := by unfold partsL; rw [hb]; simp
      rw [e2] at hp
      rcases h with ⟨_, h⟩ | ⟨h, _⟩
      · omega
      · rw [hb] at h; cases h
    · obtain ⟨f1, f2, f3, _⟩ := fr x (by simp) hb
      have e2 : (partsL x).length = x.m.a.length + x.m.b.length := by unfold partsL partsM; rw [if_pos hb, f1, f2, f3]; simp
      obtain ⟨_, _, _, h3, h4, _⟩ := (g.each x (by simp)).busy hb
      have e3 : x.m.a.length + x.m.b.length ≤ wtL x := by unfold wtL; rw [if_pos hb]; omega
      have h5 : clsN x.m.a.length = clsN x.m.b.length := by omega
      have h6 := g.pos x (by simp)
      have z1 := (cls_zero (n := x.m.a.length)).2
      have z2 := (cls_zero (n := x.m.b.length)).2
      have hab : x.m.a.length = 1 ∧ x.m.b.length = 2 ∨ x.m.a.length = 2 ∧ x.m.b.length = 1 := by
        have : x.m.a.length ≠ 0 := fun h => by have := z1 h; omega
        have : x.m.b.length ≠ 0 := fun h => by have := z2 h; omega
        omega
      rcases hab with ⟨h7, h8⟩ | ⟨h7, h8⟩
      · rw [h7, h8, cls_12.1, cls_12.2] at h5; omega
      · rw [h7, h8, cls_12.1, cls_12.2] at h5; omega
  | [x, y], g, hw, hp, fr, has =>
    have hx := lv_wt (g.each x (by simp)) (g.pos x (by simp))
    have hy := lv_wt (g.each y (by simp)) (g.pos y (by simp))
    have hyp := g.pos y (by simp)
    have hf := (List.pairwise_cons.1 g.fall).1 y (by simp)
    rw [wt_cons', wt_cons'] at hw
    have h0 := hx.2.2.1 (by omega)
    have h1 := hy.1
    refine ⟨x, y, rfl, ?_, ?_, ?_⟩
    · by_cases h3 : 3 ≤ x.cls
      · have := hx.2.2.2.2 h3; omega
      · omega
    · cases hb : x.busy
      · rfl
      · have := hx.2.2.2.1 (by omega) hb; omega
    · cases hb : y.busy
      · rfl
      · have := hy.2.1 hb; omega
  | x :: y :: z :: M, g, hw, hp, fr, has =>
    exfalso
    have hzp := g.pos z (by simp)
    have hf := (List.pairwise_cons.1 g.fall).1 y (by simp)
    have hf2 := (List.pairwise_cons.1 (List.pairwise_cons.1 g.fall).2).1 z (by simp)
    have hx := (lv_wt (g.each x (by simp)) (g.pos x (by simp))).2.2.2.2 (by omega)
    rw [wt_cons'] at hw
    omega
def tk (k : Nat) : List Up := [lu 0 0 1 0, lu 0 1 1 0, lu 0 2 1 0].take k
theorem tk_E {k : Nat} (h : k ≤ 3) : consE [advL [] (tk k)] = 0 := by
  match k, h with
  | 0, _ => exact (by kernel_rfl : consE [advL [] (tk 0)] = 0)
  | 1, _ => exact (by kernel_rfl : consE [advL [] (tk 1)] = 0)
  | 2, _ => exact (by kernel_rfl : consE [advL [] (tk 2)] = 0)
  | 3, _ => exact (by kernel_rfl : consE [advL [] (tk 3)] = 0)
theorem tx_E {k : Nat} (G : Nat) (h : k < 3) : consE [advL [] [lu G (k : Int) 1 0]] = 0 ∧ (consL [advL [] [lu G (k : Int) 1 0]]).length = 1 ∧ (tk k ++ [lu G (k : Int) 1 0]).map Up.p = (tk (k + 1)).map Up.p ∧ chkUs (tk (k + 1)) = 0 := by
  match k, h with
  | 0, _ => exact ⟨by kernel_rfl, by kernel_rfl, by kernel_rfl, by kernel_rfl⟩
  | 1, _ => exact ⟨by kernel_rfl, by kernel_rfl, by kernel_rfl, by kernel_rfl⟩
  | 2, _ => exact ⟨by kernel_rfl, by kernel_rfl, by kernel_rfl, by kernel_rfl⟩
theorem tk_L : (consL [advL [] (tk 3)]).length = 3 := by kernel_rfl
def bk2 (n : Int) : Uk := ⟨[], [vnum n], ⟨2, 0, 0⟩⟩
theorem tk_L2 : consL [advL [⟨2, 0, 0⟩] (tk 3)] = [(bk2 0, (1 : Int)), (bk2 1, 1), (bk2 2, 1)] ∧ consE [advL [⟨2, 0, 0⟩] (tk 3)] = 0 := ⟨by kernel_rfl, by kernel_rfl⟩
structure St (k : Nat) (s : Sp) : Prop where
  f : s.f = []
  good : SpGood [] s.L
  eq : EqS [] (partsS s.L) (tk k)
  wt : wtS s.L ≤ k
  fr : AllFr [] s.L
  has : 0 < k → HasB s.L 1
theorem st_zero : St 0 Sp.nil := ⟨rfl, ⟨bfront_nil, fun _ h => (by cases h), List.Pairwise.nil, fun _ h => (by cases h)⟩, EqS.refl (by rfl), Nat.le_refl _, fun _ h => (by cases h), fun h => by omega⟩
theorem st_next {k G : Nat} {s s' : Sp} {E : Int} (h : St k s) (hk : k < 3) (hr : ¬ SpGood s.f s.L ∧ E = 8 ∧ s' = Sp.nil ∨ SpGood s.f s.L ∧ s'.f = s.f ∧ (E = 0 ∧ consE [advL s.f [lu G (k : Int) 1 0]] = 0 ∧ PutTo s.f s.L s'.L [lu G (k : Int) 1 0] 1 1 ∧ HasI s s' [lu G (k : Int) 1 0] ∨ E ≠ 0 ∧ s'.L.map Lv.pl = s.L.map Lv.pl ∧ WhyI s [lu G (k : Int) 1 0])) : E = 0 ∧ St (k + 1) s' := by
  have hb := busy_wt s.L h.good.pos h.good.each
  have hwt := h.wt
  have tx := tx_E G hk
  rcases hr with ⟨h1, _⟩ | ⟨_, h2, h3⟩
  · exact absurd (by rw [h.f]; exact h.good) h1
  rw [h.f] at h2 h3
  rcases h3 with ⟨e, _, hp, hi⟩ | ⟨_, _, hw⟩
  · refine ⟨e, h2, hp.good, hp.eq.trans ((h.eq.app (EqS.refl ?_)).trans (EqS.of_p ?_ tx.2.2.1)), ?_, ?_, fun _ => ?_⟩
    · exact (chkUs_parts hp.eq.r).2
    · rw [chkUs_p tx.2.2.1]; exact tx.2.2.2
    · have := hp.wt; omega
    · have := hi.2; rw [h.f] at this; exact this h.fr
    · have h5 := hi.1 (by omega)
      rw [h.f] at h5
      have h6 := h5 (fun h0 => by have := tx.2.1; rw [h0] at this; cases this)
      rw [tx.2.1] at h6
      exact h6
  · exfalso
    rcases hw with hw | ⟨hw, hl⟩
    · rw [h.f] at hw
      exact hw ((if_pos bfront_nil).trans tx.1)
    · obtain ⟨l, hl1, hl2, hl3⟩ := hl (by omega)
      obtain ⟨l0, hm, hpl⟩ := List.mem_map.1 hl1
      have e := LvEq.of hpl
      have hb0 : l0.busy = true := by rw [e.busy]; exact hl2
      have hL := one_level h.good (by omega) hm hb0
      have hfr := h.fr l0 hm hb0
      have hpp := (pl_parts (L := [l0]) (K := [l]) (by rw [List.map_cons, List.map_cons, hpl])).1
      have e1 : partsS [l0] = partsM l0.m := by rw [partsS_cons]; unfold partsL; rw [if_pos hb0]; exact List.append_nil _
      have e2 : partsS [l] = partsM l.m := by rw [partsS_cons]; unfold partsL; rw [if_pos hl2]; exact List.append_nil _
      rw [← e.f, hfr.2.2.2] at hl3
      have heq := h.eq
      rw [hL] at heq
      rw [e1] at hpp heq
      rw [e2] at hpp
      have h7 := ((EqS.of_p (f := []) heq.l hpp).cons (fun _ hx => (by cases hx))).2
      have h8 := (heq.cons (fun _ hx => (by cases hx))).2
      rw [← h7, h8, tk_E (by omega)] at hl3
      exact absurd hl3 (by decide)
end Go.Proofs.YtenjlhlighkenaaGreat
namespace Go.Proofs.YtenjlhlighkenaaGreat
open Go Go.RowKit

structure BoxS (P : Nat) (s : Sp) (w : World) : Prop where
  own : Own w P 31 s.cells
  in_ : SpIn w w.heap.size s
  ok : SpOk s
  lo : SpLo (P + 1) s
theorem BoxS.keep {P : Nat} {s : Sp} {w w' : World} (h : BoxS P s w) (hb : Below w.heap.size w w') : BoxS P s w' := ⟨h.own.past hb h.own.inside, h.in_.keep hb, h.ok, h.lo⟩
structure MadeS (X : List Up) (s : Sp) : Prop where
  f : s.f = []
  good : SpGood [] s.L
  eq : EqS [] (partsS s.L) X
  wt : wtS s.L ≤ X.length
end Go.Proofs.YtenjlhlighkenaaGreat
namespace Go.Proofs.YtenjlhlighkenaaGreat
open Go Go.RowKit

theorem sbox_one (w : World) (G : Nat) (n d : Int) (h : Vals w w.heap.size (some ⟨G, 0, none⟩) [vnum n]) :
    ∃ V, V = w.alloc (.cells #[.slice none 0 0, .slice (some ⟨G, 0, none⟩) 1 1, .int .u64 0, .int .u64 0, .int .u64 0, .int .i64 d] 57) ∧ Below w.heap.size w V ∧ Ups V V.heap.size (some ⟨w.heap.size, 0, none⟩) [lu G n d 0] := by
  obtain ⟨W, e1, s1, b1, o1⟩ := boxd w [.slice none 0 0, .slice (some ⟨G, 0, none⟩) 1 1, .int .u64 0, .int .u64 0, .int .u64 0, .int .i64 d] 57
  refine ⟨W, e1, b1, ups_own (t := 57) (l := [lu G n d 0]) o1 fun u hu => ?_⟩
  obtain rfl : u = lu G n d 0 := by simpa using hu
  exact lu_in (vals_keep h b1)
def OneS (n : Int) (w : World) (x : Ending) (w' : World) : Prop := ∃ G H, x = .returned (.slice (some ⟨H, 0, none⟩) 1 1) ∧ Ups w' w'.heap.size (some ⟨H, 0, none⟩) [lu G n 1 0] ∧ Below w.heap.size w w'
set_option maxRecDepth 100000 in
set_option maxHeartbeats 1600000 in
theorem sone_any (n : Int) (w : World) : Calls Tryz.prog 19 #[.int .i64 n] w (OneS n w) := by
  have hv := vals_num w n
  obtain ⟨V, hV, hb, hu⟩ := sbox_one _ w.heap.size n 1 hv
  simp only [World.size_alloc] at hu
  have HV := Lib.hid (And.intro hu (((Below.refl w.heap.size w).alloc (Nat.le_refl _) (.cells #[.bool false, .int .i64 n, .string ⟨#[]⟩] 104)).trans (hb.mono (by simp))))
  clear hv hb hu
  go_enter Tryz.func19, Tryz.ntmps19
  go_wp2_with fail
  go_ret
  dsimp only
  rw [← hV]
  exact ⟨_, _, rfl, HV.out.1, HV.out.2⟩
def Bw (V W : World) : Prop := Below V.heap.size V W
theorem Bw.self (V : World) : Bw V V := Below.refl _ _
theorem Bw.drew {V W : World} (h : Bw V W) : Bw V W.drew := Below.drew h
theorem Bw.more {V W : World} (h : Bw V W) (o : Obj) : Bw V (W.alloc o) := Below.alloc h h.size o
theorem Bw.call {V X Y : World} (h : Bw V X) (b : Below X.heap.size X Y) : Bw V Y := belows h b
theorem Bw.set {V W : World} (h : Bw V W) {Q o : Nat} (hQ : V.heap.size ≤ Q) (x : Value) : Bw V (W.setCell ⟨Q, o, none⟩ x) := h.setCell (p := ⟨Q, o, none⟩) hQ x
theorem ul_more {X : World} {A : Option Addr} {L : List (Rw Up)} (h : ULs X X.heap.size A L) (o : Obj) : ULs (X.alloc o) (X.alloc o).heap.size A L := h.keep ((Below.refl _ _).alloc (Nat.le_refl _) o)
theorem ul_one {w1 Y : World} {Hh G k : Nat} (hu : Ups w1 w1.heap.size (some ⟨Hh, 0, none⟩) [lu G (k : Int) 1 0]) (hY : Bw w1 Y) : ULs (Y.alloc (.cells #[.slice (some ⟨Hh, 0, none⟩) 1 1] 32)) (Y.alloc (.cells #[.slice (some ⟨Hh, 0, none⟩) 1 1] 32)).heap.size (some ⟨Y.heap.size, 0, none⟩) [⟨some ⟨Hh, 0, none⟩, 1, [lu G (k : Int) 1 0]⟩] := by
  obtain ⟨V, hV, _, h⟩ := one_list Y (some ⟨Hh, 0, none⟩) 1 [lu G (k : Int) 1 0] (hu.keep hY)
  rw [show V = Y.alloc (.cells #[.slice (some ⟨Hh, 0, none⟩) 1 1] 32) from hV] at h
  exact h
structure InLv (P : Nat) (k : Nat) (s : Sp) (w : World) : Prop where
  box : BoxS P s w
  st : St k s
theorem lu_okS {G k : Nat} (h : k < 3) : UOk (lu G (k : Int) 1 0) := lu_ok (by omega) (by omega)
theorem ins_lv {k G H P B : Nat} {s : Sp} {X : World} (h : InLv P k s X) (hk : k < 3) (hu : ULs X X.heap.size (some ⟨B, 0, none⟩) [⟨some ⟨H, 0, none⟩, 1, [lu G (k : Int) 1 0]⟩]) :
    Calls Tryz.prog 7 #[.agg #[.slice s.sA s.f.length s.sc, .slice s.lA s.L.length s.lc], .slice (some ⟨B, 0, none⟩) 1 1] X fun x w' => ∃ s', x = .returned (.tuple #[.agg #[.slice s'.sA s'.f.length s'.sc, .slice s'.lA s'.L.length s'.lc], .int .i64 0]) ∧ St (k + 1) s' ∧ SpIn w' w'.heap.size s' ∧ SpOk s' ∧ SpLo X.heap.size s' ∧ Below X.heap.size X w' := by
  have hwt := h.st.wt
  have := insert_sp s (some ⟨B, 0, none⟩) 1 [⟨some ⟨H, 0, none⟩, 1, [lu G (k : Int) 1 0]⟩] X h.box.in_ h.box.ok hu (fun r hr u hu => by
    rw [List.mem_singleton.1 hr] at hu
    rw [List.mem_singleton.1 hu]
    exact lu_okS hk) (by simp [flatR]; omega) (by simp)
  refine this.mono fun x w' ⟨s', E, h1, h2, h3, h4, h5, h6⟩ => ?_
  obtain ⟨rfl, hst⟩ := st_next h.st hk h2
  exact ⟨s', h1, hst, h3, h4, h5, h6⟩
theorem mid_new {w wr w2 : World} {k n : Nat} {s s' : Sp} (hin : InLv w.heap.size k s wr) (hb : Below w.heap.size w wr) (hb2 : Bw wr w2) (st2 : St (k + 1) s') (i2 : SpIn w2 w2.heap.size s') (o2 : SpOk s') (lo2 : SpLo n s') (hn : wr.heap.size ≤ n) :
    ∃ (Q : Nat) (s'' : Sp), Value.pointer (some ⟨w2.heap.size, 0, none⟩) = .pointer (some ⟨Q, 0, none⟩) ∧ Value.int .i64 0 = .int .i64 0 ∧ St (k + 1) s'' ∧ SpIn (w2.alloc (.cells #[.slice s'.sA s'.f.length s'.sc, .slice s'.lA s'.L.length s'.lc] 31)) (w2.alloc (.cells #[.slice s'.sA s'.f.length s'.sc, .slice s'.lA s'.L.length s'.lc] 31)).heap.size s'' ∧ SpOk s'' ∧ SpLo (w.heap.size + 1) s'' ∧ Own (w2.alloc (.cells #[.slice s'.sA s'.f.length s'.sc, .slice s'.lA s'.L.length s'.lc] 31)) Q 31 s''.cells ∧ Own (w2.alloc (.cells #[.slice s'.sA s'.f.length s'.sc, .slice s'.lA s'.L.length s'.lc] 31)) w.heap.size 31 s.cells ∧ Below w.heap.size w (w2.alloc (.cells #[.slice s'.sA s'.f.length s'.sc, .slice s'.lA s'.L.length s'.lc] 31)) := by
  have hP := hin.box.own.inside
  exact ⟨w2.heap.size, s', rfl, rfl, st2, i2.keep ((Below.refl _ _).alloc (Nat.le_refl _) _), o2, lo2.mono (by omega), Own.made w2 _ s'.cells, hin.box.own.past (hb2.more _) hP, belows hb (hb2.more _)⟩
theorem mid_set {w wr w2 : World} {k n Q : Nat} {s s' : Sp} (hin : InLv w.heap.size k s wr) (hb : Below w.heap.size w wr) (hb2 : Bw wr w2) (st2 : St (k + 1) s') (i2 : SpIn w2 w2.heap.size s') (o2 : SpOk s') (lo2 : SpLo n s') (hQ : wr.heap.size ≤ Q) (hn : Q + 1 ≤ n) (oz : Own w2 Q 31 [.slice none 0 0, .slice none 0 0]) :
    ∃ (Q' : Nat) (s'' : Sp), Value.pointer (some ⟨Q, 0, none⟩) = .pointer (some ⟨Q', 0, none⟩) ∧ Value.int .i64 0 = .int .i64 0 ∧ St (k + 1) s'' ∧ SpIn ((w2.setCell ⟨Q, 0, none⟩ (.slice s'.sA s'.f.length s'.sc)).setCell ⟨Q, 1, none⟩ (.slice s'.lA s'.L.length s'.lc)) ((w2.setCell ⟨Q, 0, none⟩ (.slice s'.sA s'.f.length s'.sc)).setCell ⟨Q, 1, none⟩ (.slice s'.lA s'.L.length s'.lc)).heap.size s'' ∧ SpOk s'' ∧ SpLo (w.heap.size + 1) s'' ∧ Own ((w2.setCell ⟨Q, 0, none⟩ (.slice s'.sA s'.f.length s'.sc)).setCell ⟨Q, 1, none⟩ (.slice s'.lA s'.L.length s'.lc)) Q' 31 s''.cells ∧ Own ((w2.setCell ⟨Q, 0, none⟩ (.slice s'.sA s'.f.length s'.sc)).setCell ⟨Q, 1, none⟩ (.slice s'.lA s'.L.length s'.lc)) w.heap.size 31 s.cells ∧ Below w.heap.size w ((w2.setCell ⟨Q, 0, none⟩ (.slice s'.sA s'.f.length s'.sc)).setCell ⟨Q, 1, none⟩ (.slice s'.lA s'.L.length s'.lc)) := by
  have hP := hin.box.own.inside
  have hb3 : Bw wr ((w2.setCell ⟨Q, 0, none⟩ (.slice s'.sA s'.f.length s'.sc)).setCell ⟨Q, 1, none⟩ (.slice s'.lA s'.L.length s'.lc)) := (hb2.set hQ _).set hQ _
  exact ⟨Q, s', rfl, rfl, st2, sp_kept i2 (lo2.mono hn) (kept_two _ _), o2, lo2.mono (by omega), (oz.set_ 0 _).set_ 1 _, hin.box.own.past hb3 hP, belows hb hb3⟩
theorem good_later {f g : List Tm} {L : List Lv} (h : SpGood f L) (hg : FrontOk g) (hl : LaterF g f) : SpGood g L :=
  ⟨hg, h.pos, h.fall, fun l hm => ⟨fun hb => by
    obtain ⟨h1, h2, h3, h4, h5, h6, h7⟩ := (h.each l hm).busy hb
    exact ⟨h1, h2, h3, h4, h5, later_trans hl h6, h7⟩, fun hb => by
    obtain ⟨h1, h2, h3, h4⟩ := (h.each l hm).idle hb
    exact ⟨h1, h2, h3, later_trans hl h4⟩⟩⟩
theorem front_2 : FrontOk [⟨2, 0, 0⟩] := ⟨by kernel_rfl, by kernel_rfl⟩
theorem st_end {s : Sp} (h : St 3 s) : (∃ x y, s.L = [x, y] ∧ x.cls = 2) ∧ cntS s.L = 2 ∧ (partsS s.L).length = 3 ∧ (consL [advL [] (partsS s.L)]).length = 3 ∧ bldE [] (partsS s.L) = 0 ∧ wtS s.L ≤ 3 := by
  have hc := h.eq.cons (fun _ hx => (by cases hx))
  have h3 : (consL [advL [] (partsS s.L)]).length = 3 := by rw [hc.1]; exact tk_L
  have h4 := consL_len [advL [] (partsS s.L)]
  simp only [List.flatten_cons, List.flatten_nil, List.append_nil] at h4
  have h5 : (advL [] (partsS s.L)).length = (partsS s.L).length := List.length_map ..
  have h6 := parts_wt s.L
  have h7 := h.wt
  obtain ⟨x, y, e, k1, k2, k3⟩ := st_three h.good h.wt (by omega) h.fr (h.has (by omega))
  refine ⟨⟨x, y, e, k1⟩, ?_, by omega, h3, ?_, h.wt⟩
  · rw [cnt_busy, e, busyN_cons, busyN_cons, k2, k3]; rfl
  · exact (if_pos bfront_nil).trans (hc.2.trans (tk_E (Nat.le_refl 3)))
theorem comp_2 {s c : Sp} {E : Int} (h : St 3 s) (hr : (¬ SpGood s.f s.L ∧ E = 8 ∧ c = Sp.nil) ∨ (SpGood s.f s.L ∧ c.L.map Lv.pl = s.L.map Lv.pl ∧ ((¬ FrontOk [⟨2, 0, 0⟩] ∧ E = 4 ∧ c.f = s.f) ∨ (FrontOk [⟨2, 0, 0⟩] ∧ ¬ LaterF [⟨2, 0, 0⟩] s.f ∧ E = 1 ∧ c.f = s.f) ∨ (FrontOk [⟨2, 0, 0⟩] ∧ LaterF [⟨2, 0, 0⟩] s.f ∧ E = 0 ∧ c.f = [⟨2, 0, 0⟩])))) :
    E = 0 ∧ c.f = [⟨2, 0, 0⟩] ∧ SpGood [⟨2, 0, 0⟩] c.L ∧ consL [advL [⟨2, 0, 0⟩] (partsS c.L)] = [(bk2 0, (1 : Int)), (bk2 1, 1), (bk2 2, 1)] ∧ bldE [⟨2, 0, 0⟩] (partsS c.L) = 0 ∧ wtS c.L ≤ 3 := by
  rcases hr with ⟨h1, _⟩ | ⟨_, hpl, h2⟩
  · exact absurd (by rw [h.f]; exact h.good) h1
  have hlf : LaterF [⟨2, 0, 0⟩] s.f := .inl h.f
  rcases h2 with ⟨h1, _⟩ | ⟨_, h1, _⟩ | ⟨_, _, hE, hf⟩
  · exact absurd front_2 h1
  · exact absurd hlf h1
  have hpp := pl_parts hpl
  have hg := pl_good hpl.symm (good_later h.good front_2 (.inl rfl))
  have he : EqS [⟨2, 0, 0⟩] (partsS c.L) (tk 3) := (EqS.of_p hg.chk hpp.1).trans (h.eq.later (fun _ hx => (by cases hx)) (.inl rfl))
  have hc := he.cons front_2.right
  exact ⟨hE, hf, hg, hc.1.trans tk_L2.1, (if_pos front_2).trans (hc.2.trans tk_L2.2), by rw [hpp.2.2.1]; exact h.wt⟩
set_option maxRecDepth 100000 in
set_option maxHeartbeats 12800000 in
theorem slives_true (w : World) : Calls Tryz.prog 6 #[] w fun e w' => e = .returned (.bool true) ∧ Below w.heap.size w w' := by
  have y1 := fun n W => Lib.hid (sone_any n W)
  obtain ⟨V, hV, bV, hsV, oV⟩ := spbox w Sp.nil
  have H := Lib.hid (And.intro (⟨⟨oV, sp_nil_in _ _, sp_nil_ok, sp_nil_lo _⟩, st_zero⟩ : InLv w.heap.size 0 Sp.nil V) bV)
  dsimp only [Sp.nil, List.length_nil] at hV
  clear bV hsV oV
  go_enter Tryz.func6, Tryz.ntmps6
  go_upto_region 2 with fail
  rw [← hV]
  clear hV
  go_wp2_with fail
  go_loopw [2] (fun v wr => ∃ (k : Nat) (s : Sp), v = .int .i64 (k : Int) ∧ k ≤ 3 ∧ InLv w.heap.size k s wr ∧ Below w.heap.size w wr)
    (fun v _ => 3 - (intOf v).toNat)
  case atStart => exact ⟨0, Sp.nil, rfl, by omega, H.out.1, H.out.2⟩
  case round =>
    obtain ⟨k, s, rfl, hk, hin, hb⟩ := hrel
    by_cases hlt : k < 3
    · obtain ⟨d0, d1⟩ := own2 hin.box.own
      go_upto_region 5 with fail
      go_cut [3, 4] (fun s3 s4 wx => ∃ (Q : Nat) (s' : Sp), s3 = .pointer (some ⟨Q, 0, none⟩) ∧ s4 = .int .i64 0 ∧ St (k + 1) s' ∧ SpIn wx wx.heap.size s' ∧ SpOk s' ∧ SpLo (w.heap.size + 1) s' ∧ Own wx Q 31 s'.cells ∧ Own wx w.heap.size 31 s.cells ∧ Below w.heap.size w wx)
      case first =>
        have HS := Lib.hid (fun W (h : Bw _ W) => own2 (hin.box.own.past h hin.box.own.inside))
        have hself := Bw.self wr
        have hinX := Lib.hid (fun X (h : Bw wr X) => (⟨hin.box.keep h, hin.st⟩ : InLv w.heap.size k s X))
        have hPr := hin.box.own.inside
        have HI := Lib.hid hin
        have HB := Lib.hid hb
        clear hin
        go_region_held3 (fun w' => Bw wr w' ∧ (w'.cell? ⟨w.heap.size, 0, none⟩ = some (.slice s.sA s.f.length s.sc) ∧ w'.cell? ⟨w.heap.size, 1, none⟩ = some (.slice s.lA s.L.length s.lc)))
          ((refine (fun h => And.intro h (HS.out _ h)) ?_; repeat (first | with_reducible exact hb2 | with_reducible exact hb1 | with_reducible exact hself | with_reducible refine Bw.set ?_ (by first | exact Nat.le_refl _ | exact hz1 | exact Nat.le_succ_of_le hz1) _ | with_reducible refine Bw.more ?_ _ | with_reducible refine Bw.drew ?_)))
          (first | (go_at_call 19; refine (y1 _ _).out.mono ?_; rintro _ w1 ⟨G, Hh, rfl, hu1, b1⟩; have hb1 : Bw wr w1 := Bw.call (by repeat (first | with_reducible exact hself | with_reducible refine Bw.more ?_ _ | with_reducible refine Bw.drew ?_)) b1; have hz1 : wr.heap.size ≤ w1.heap.size := hb1.size; (try (have oz1 : Own w1 wr.heap.size 31 [.slice none 0 0, .slice none 0 0] := (Own.past (by first | exact Own.made _ _ [.slice none 0 0, .slice none 0 0] | exact own_drewKS (Own.made _ _ [.slice none 0 0, .slice none 0 0])) b1 (by simp))))) | (go_at_call 7; refine (ins_lv (G := G) (H := Hh) (hinX.out _ (by repeat (first | with_reducible exact hb1 | with_reducible refine Bw.more ?_ _ | with_reducible refine Bw.drew ?_))) hlt (by first | exact ul_one hu1 (Bw.self _) | exact ul_more (ul_one hu1 (Bw.self _)) _ | simpa using ul_one hu1 ((Bw.self _).more (.cells #[.slice none 0 0, .slice none 0 0] 31)))).mono ?_; rintro _ w2 ⟨s', rfl, st2, i2, o2, lo2, b2⟩; have hb2 : Bw wr w2 := Bw.call (by repeat (first | with_reducible exact hb1 | with_reducible refine Bw.more ?_ _ | with_reducible refine Bw.drew ?_)) b2; (try (have oz : Own w2 wr.heap.size 31 [.slice none 0 0, .slice none 0 0] := Own.past (Own.more oz1 _) b2 (by have := oz1.inside; simp; omega); obtain ⟨e0, e1⟩ := own2 oz; have f0 := oz.open_ 0; have f1 := oz.open_ 1)); (try (have oz : Own w2 w1.heap.size 31 [.slice none 0 0, .slice none 0 0] := Own.past (Own.more (Own.made w1 31 [.slice none 0 0, .slice none 0 0]) _) b2 (by simp <;> omega); obtain ⟨e0, e1⟩ := own2 oz; have f0 := oz.open_ 0; have f1 := oz.open_ 1)); (try (have oz : Own w2 (w1.heap.size + 1) 31 [.slice none 0 0, .slice none 0 0] := Own.past (by simpa using Own.made (w1.alloc _) 31 [.slice none 0 0, .slice none 0 0]) b2 (by simp); obtain ⟨e0, e1⟩ := own2 oz; have f0 := oz.open_ 0; have f1 := oz.open_ 1))))
        all_goals
          go_wp2_with fail
          go_meet
          first
          | exact mid_new HI.out HB.out hb2 st2 i2 o2 lo2 (by simp <;> omega)
          | exact mid_set HI.out HB.out hb2 st2 i2 o2 lo2 (by first | exact Nat.le_refl _ | exact hz1 | exact Nat.le_succ_of_le hz1) (by simp <;> omega) oz
      case rest =>
        obtain ⟨Q, s', rfl, rfl, st2, i2, o2, lo2, oQ, oP, hbx⟩ := hcut
        obtain ⟨g0, g1⟩ := own2 oQ
        obtain ⟨d0, d1⟩ := own2 oP
        have f0 := oP.open_ 0
        have f1 := oP.open_ 1
        have hX := (oP.set_ 0 (.slice s'.sA s'.f.length s'.sc)).set_ 1 (.slice s'.lA s'.L.length s'.lc)
        have HX := Lib.hid (And.intro (⟨⟨hX, sp_kept i2 lo2 (kept_two (P := w.heap.size) (.slice s'.sA s'.f.length s'.sc) (.slice s'.lA s'.L.length s'.lc)), o2, lo2⟩, st2⟩ : InLv w.heap.size (k + 1) s' _) (below_two hbx (Nat.le_refl _) (P := w.heap.size) (.slice s'.sA s'.f.length s'.sc) (.slice s'.lA s'.L.length s'.lc)))
        clear st2 i2 o2 lo2 oQ oP hbx hX hin hb
        go_wp2_with fail
        go_roundw
        case rel => exact ⟨k + 1, s', by go_num, by omega, HX.out.1, HX.out.2⟩
        case measure => simp [intOf]; omega
    · obtain rfl : k = 3 := by omega
      obtain ⟨⟨x, y, hL, hx2⟩, hcnt, hprt, hlen, hbld, hw3⟩ := st_end hin.st
      have hsf := hin.st.f
      have hgd : SpGood s.f s.L := by rw [hsf]; exact hin.st.good
      have y2 := Lib.hid (size_any s _ hin.box.in_ hin.box.ok (by omega))
      rw [show s.val = .agg #[.slice s.sA s.f.length s.sc, .slice s.lA s.L.length s.lc] from rfl] at y2
      obtain ⟨d0, d1⟩ := own2 hin.box.own
      have HR := Lib.hid (And.intro hin hb)
      have HF := Lib.hid (And.intro hL (And.intro hx2 (And.intro hcnt (And.intro hprt (And.intro hlen (And.intro hbld (And.intro hsf hgd)))))))
      clear hin hb hL hx2 hcnt hprt hlen hbld hsf hgd
      go_wp2_with fail
      refine y2.out.mono ?_
      rintro _ w2 ⟨n2, k2, e2, rfl, r2, b2⟩
      obtain ⟨rfl, rfl, rfl⟩ : n2 = 2 ∧ k2 = 3 ∧ e2 = 0 := by
        rcases r2 with ⟨h, _⟩ | ⟨_, h1, h2, h3⟩
        · exact absurd HF.out.2.2.2.2.2.2.2 h
        · rw [HF.out.2.2.1] at h1; rw [HF.out.2.2.2.1] at h2; exact ⟨h1, h2, h3⟩
      have bx2 := HR.out.1.box.keep b2
      have H2 := Lib.hid (And.intro bx2 (belows HR.out.2 b2))
      have y3 := Lib.hid (all_any s w2 bx2.in_ bx2.ok (by have := HF.out.2.2.2.1; omega))
      rw [show s.val = .agg #[.slice s.sA s.f.length s.sc, .slice s.lA s.L.length s.lc] from rfl] at y3
      clear d0 d1
      obtain ⟨d0, d1⟩ := own2 bx2.own
      clear r2 b2 bx2 y2
      go_wp2_with fail
      refine y3.out.mono ?_
      rintro _ w3 ⟨ba, ea, rfl, ra, ia, oa, _, b3⟩
      have hra : ea = 0 ∧ ba.l.length = 3 := by
        rcases ra with ⟨h, _⟩ | ⟨_, h1, h2, _⟩
        · exact absurd HF.out.2.2.2.2.2.2.2 h
        · rw [HF.out.2.2.2.2.2.2.1] at h1 h2
          have h3 : ea = 0 := h1.trans HF.out.2.2.2.2.2.1
          have h4 := congrArg List.length (h2 h3)
          rw [List.length_map, HF.out.2.2.2.2.1] at h4
          exact ⟨h3, h4⟩
      obtain ⟨rfl, hal⟩ := hra
      have bx3 := H2.out.1.keep b3
      obtain ⟨V4, hV4, hs4, bb4, o4⟩ := boxd w3 [.int .u64 2, .int .u64 0, .int .u64 0] 26
      have bx4 := bx3.keep bb4
      have ht4 : Times V4 V4.heap.size (some ⟨w3.heap.size, 0, none⟩) [⟨2, 0, 0⟩] := by rw [hV4]; exact times_made w3 ⟨2, 0, 0⟩
      have y4 := Lib.hid (compact_any s (some ⟨w3.heap.size, 0, none⟩) 1 [⟨2, 0, 0⟩] V4 bx4.in_ bx4.ok ht4 ⟨by simp, by simp, by unfold maxLen; omega⟩ (by omega))
      rw [show s.val = .agg #[.slice s.sA s.f.length s.sc, .slice s.lA s.L.length s.lc] from rfl] at y4
      have H4 := Lib.hid (And.intro bx4 (belows H2.out.2 (belows b3 bb4)))
      clear d0 d1
      obtain ⟨d0, d1⟩ := own2 bx3.own
      clear ra ia oa b3 bb4 bx3 bx4 ht4 o4 hs4 y3
      go_wp2_with fail
      rw [← hV4]
      clear hV4
      refine y4.out.mono ?_
      rintro _ w5 ⟨sc, Ec, rfl, rc, ic, oc, _, b5⟩
      obtain ⟨rfl, hcf, hcg, hcl, hcb, hcw⟩ := comp_2 HR.out.1.st rc
      obtain ⟨V6, hV6, bb6, hs6, o6⟩ := spbox w5 sc
      have hpw := parts_wt sc.L
      have y5 := Lib.hid (all_any sc V6 (ic.keep bb6) oc (by omega))
      rw [show sc.val = .agg #[.slice sc.sA sc.f.length sc.sc, .slice sc.lA sc.L.length sc.lc] from rfl] at y5 ⊢
      have H6 := Lib.hid (And.intro (H4.out.1.keep (belows b5 bb6)) (And.intro (belows H4.out.2 (belows b5 bb6)) (And.intro (ic.keep bb6) (And.intro oc (And.intro o6 (And.intro hcf (And.intro hcg (And.intro hcl (And.intro hcb hcw)))))))))
      clear d0 d1
      obtain ⟨g0, g1⟩ := own2 o6
      clear rc ic oc b5 bb6 hs6 o6 hcf hcg hcl hcb y4
      go_upto_region 12 with fail
      rw [← hV6]
      clear hV6
      go_wp2_with fail
      refine y5.out.mono ?_
      rintro _ w7 ⟨bm, em, rfl, rm, im, om, _, b7⟩
      have hrm : em = 0 ∧ bm.l.map Up.p = [(bk2 0, (1 : Int)), (bk2 1, 1), (bk2 2, 1)] := by
        rw [H6.out.2.2.2.2.2.1] at rm
        rcases rm with ⟨h, _⟩ | ⟨_, h1, h2, _⟩
        · exact absurd H6.out.2.2.2.2.2.2.1 h
        · have h3 : em = 0 := h1.trans H6.out.2.2.2.2.2.2.2.2.1
          exact ⟨h3, (h2 h3).trans H6.out.2.2.2.2.2.2.2.1⟩
      obtain ⟨rfl, hmp⟩ := hrm
      have hob7 := H6.out.2.2.2.2.1.past b7 H6.out.2.2.2.2.1.inside
      have y6 := Lib.hid (compact_any sc none 0 [] w7 (H6.out.2.2.1.keep b7) H6.out.2.2.2.1 Times.nil_ ts_nil (by omega))
      rw [show sc.val = .agg #[.slice sc.sA sc.f.length sc.sc, .slice sc.lA sc.L.length sc.lc] from rfl] at y6
      have H7 := Lib.hid (And.intro (H6.out.1.keep b7) (And.intro (belows H6.out.2.1 b7) (And.intro im hmp)))
      clear g0 g1
      obtain ⟨g0, g1⟩ := own2 hob7
      clear rm im om b7 hmp hob7 y5
      go_wp2_with fail
      refine y6.out.mono ?_
      rintro _ w8 ⟨sd, Ed, rfl, rd, _, _, _, b8⟩
      have hEd : Ed = 1 := by
        rw [H6.out.2.2.2.2.2.1] at rd
        rcases rd with ⟨h, _⟩ | ⟨_, _, h2⟩
        · exact absurd H6.out.2.2.2.2.2.2.1 h
        · rcases h2 with ⟨h, _⟩ | ⟨_, _, h, _⟩ | ⟨_, h, _⟩
          · exact absurd bfront_nil h
          · exact h
          · rcases h with h | ⟨h, _⟩
            · cases h
            · exact absurd rfl h
      subst hEd
      obtain ⟨V9, hV9, bb9, hs9, _⟩ := spbox w8 sd
      have b89 := belows b8 bb9
      have bx9 := H7.out.1.keep b89
      have im9 := H7.out.2.2.1.keep b89
      have H9 := Lib.hid (belows H7.out.2.1 b89)
      obtain ⟨d0, d1⟩ := own2 bx9.own
      have hL2 : s.L.length = 2 := by rw [HF.out.1]; rfl
      obtain ⟨b, o, hA, _, hc⟩ := lies_lv bx9.in_.lev.head (by omega)
      have c0 := hc 0 x (by rw [HF.out.1]; rfl) 0 (.int .i64 x.cls) rfl
      rw [HF.out.2.1, show o + 0 * 10 + 0 = o by omega] at c0
      have hml : bm.l.length = 3 := by
        have := congrArg List.length H7.out.2.2.2
        rw [List.length_map] at this
        exact this
      obtain ⟨b', o', hA', _, hc'⟩ := im9.ups.head (by omega)
      obtain ⟨u, hu, hue⟩ : ∃ u, bm.l[0]? = some u ∧ u.t.e = 2 := by
        have h1 := congrArg (fun l => l[0]?) H7.out.2.2.2
        try dsimp only at h1
        rw [List.getElem?_map] at h1
        cases h2 : bm.l[0]? with
        | none => rw [h2] at h1; cases h1
        | some u =>
          rw [h2] at h1
          refine ⟨u, rfl, ?_⟩
          have h3 : u.p = (bk2 0, (1 : Int)) := Option.some.inj h1
          exact congrArg (fun q : Uk × Int => q.1.t.e) h3
      have e0 := hc' 0 u hu 2 (.int .u64 (u.t.e : Int)) rfl
      rw [hue, show o' + 0 * 6 + 2 = o' + 2 by omega] at e0
      rw [show sd.val = .agg #[.slice sd.sA sd.f.length sd.sc, .slice sd.lA sd.L.length sd.lc] from rfl]
      clear rd b8 bb9 hs9 b89 bx9 im9 hc hc' hu hue g0 g1 y6
      go_upto_region 14 with fail
      rw [← hV9]
      clear hV9
      go_wp2_with fail
      go_ret
      exact ⟨rfl, H9.out⟩
end Go.Proofs.YtenjlhlighkenaaGreat
namespace Go.Proofs.YtenjlhlighkenaaGreat
open Go Go.RowKit

structure EndsR (P i : Nat) (s : Sp) (w : World) : Prop where
  own : Own w P 31 s.cells
  in_ : SpIn w w.heap.size s
  ok : SpOk s
  wt : wtS s.L ≤ 1048576
  st : i = 0 ∨ SpGood s.f s.L ∧ busyN s.L ≠ 0 ∧ cntS s.L + i ≤ 42
theorem ends_lt {P i : Nat} {s : Sp} {w : World} (h : EndsR P i s w) : i < 42 := by
  rcases h.st with h0 | ⟨_, h1, h2⟩
  · omega
  · rw [cnt_busy] at h2
    omega
theorem ends_next {s s' : Sp} {i c : Nat} (hst : i = 0 ∨ SpGood s.f s.L ∧ busyN s.L ≠ 0 ∧ cntS s.L + i ≤ 42) (hw : wtS s.L ≤ 1048576) (hg : SpGood s.f s.L) (h : WkFin s.f s.L 4611686018427387904 s'.L c) (hb : busyN s'.L ≠ 0) : 0 < c ∧ cntS s'.L + (i + 1) ≤ 42 := by
  obtain ⟨h1, h2⟩ := h.full (by omega)
  obtain ⟨h3, h4⟩ := h2 hb
  have h5 := cnt_few hg hw
  refine ⟨h3, ?_⟩
  rcases hst with h0 | ⟨_, h5, h6⟩
  · omega
  · omega
set_option maxRecDepth 100000 in
set_option maxHeartbeats 12800000 in
theorem ends_walk (s : Sp) (w : World) (hs : SpIn w w.heap.size s) (ok : SpOk s) (hw : wtS s.L ≤ 1048576) :
    Calls Tryz.prog 5 #[s.val] w fun e w' => e = .returned (.bool true) ∧ Below w.heap.size w w' := by
  obtain ⟨V, hV, hvb, hvs, hvo⟩ := spbox w s
  have y0 := Lib.hid (slives_true V)
  have H := Lib.hid (And.intro (hs.keep hvb) (And.intro ok (And.intro hw (And.intro hvb hvo))))
  rw [show s.val = .agg #[.slice s.sA s.f.length s.sc, .slice s.lA s.L.length s.lc] from rfl]
  clear hs ok hw hvb hvs hvo
  go_enter Tryz.func5, Tryz.ntmps5
  go_upto_region 1 with fail
  rw [← hV]
  clear hV
  go_wp2_with fail
  refine y0.out.mono ?_
  rintro _ w1 ⟨rfl, b1⟩
  have HB := Lib.hid (show Below w.heap.size w w1 ∧ EndsR w.heap.size 0 s w1 from ⟨belows H.out.2.2.2.1 b1, H.out.2.2.2.2.past b1 H.out.2.2.2.2.inside, H.out.1.keep b1, H.out.2.1, H.out.2.2.1, .inl rfl⟩)
  clear b1 y0
  go_wp2_with fail
  go_loopw [3] (fun v3 wr => ∃ (i : Nat) (si : Sp), v3 = .int .i64 (i : Int) ∧ EndsR w.heap.size i si wr ∧ Below w.heap.size w wr)
    (fun v _ => 70 - (intOf v).toNat)
  case atStart => exact ⟨0, s, rfl, HB.out.2, HB.out.1⟩
  case round =>
    obtain ⟨i, si, rfl, hr, hbw⟩ := hrel
    obtain ⟨w0, hw0⟩ : ∃ w0, w0 = wr := ⟨_, rfl⟩
    rw [← hw0] at hr hbw ⊢
    clear hw0
    have hi := ends_lt hr
    obtain ⟨d0, d1⟩ := own2 hr.own
    have y1 := Lib.hid (work_sp si 4611686018427387904 w0 hr.in_ hr.ok (by have := hr.wt; omega) (by decide) (by decide))
    rw [show si.val = .agg #[.slice si.sA si.f.length si.sc, .slice si.lA si.L.length si.lc] from rfl] at y1
    have HR := Lib.hid (And.intro hr hbw)
    have q0 : (i : Int) < 70 := by omega
    have q1 : IntKind.i64.wrap ((i : Int) + 1) = (i : Int) + 1 := by rw [IntKind.wrap_i64]; omega
    clear hr hbw
    go_wp2_with fail
    refine y1.out.mono ?_
    rintro _ w2 ⟨s2, c, E, rfl, hres, i2, o2, lo2, b2⟩
    obtain ⟨V3, hV3, hb3, hs3, ho3⟩ := spbox w2 s2
    have HW := Lib.hid (And.intro hres (And.intro (i2.keep hb3) (And.intro o2 (And.intro lo2 (And.intro (belows b2 hb3) (And.intro ho3 (b2.size)))))))
    rw [show s2.val = .agg #[.slice s2.sA s2.f.length s2.sc, .slice s2.lA s2.L.length s2.lc] from rfl]
    clear hres i2 o2 lo2 b2 hb3 hs3 ho3 d0 d1 y1
    go_upto_region 7 with fail
    rw [← hV3]
    clear hV3
    by_cases h0 : E = 0
    case neg =>
      have hE : (E = 8 ∧ i = 0) ∨ E = 10 := by
        rcases HW.out.1 with ⟨h1, h2, _⟩ | ⟨_, _, h1 | h1⟩
        · refine .inl ⟨h2, ?_⟩
          rcases HR.out.1.st with h3 | ⟨h3, _⟩
          · exact h3
          · exact absurd h3 h1
        · exact absurd h1.1 h0
        · exact .inr h1.1
      have HZ := Lib.hid (belows HR.out.2 HW.out.2.2.2.2.1)
      clear h0 hi q0 q1
      rcases hE with ⟨rfl, rfl⟩ | rfl
      · go_wp2_with fail
        go_ret
        exact ⟨rfl, HZ.out⟩
      · go_wp2_with fail
        go_ret
        exact ⟨rfl, HZ.out⟩
    case pos =>
      subst h0
      have hfin : SpGood si.f si.L ∧ s2.f = si.f ∧ WkFin si.f si.L 4611686018427387904 s2.L c := by
        rcases HW.out.1 with ⟨_, h2, _⟩ | ⟨h1, h2, h3 | h3⟩
        · exact absurd h2 (by decide)
        · exact ⟨h1, h2, h3.2⟩
        · exact absurd h3.1 (by decide)
      have HF := Lib.hid hfin
      obtain ⟨e0, e1⟩ := own2 HW.out.2.2.2.2.2.1
      have hL2 := HW.out.2.2.1.n
      clear hfin hi
      go_wp2_with fail
      go_loopw [7, 40] (fun v7 v40 wr => ∃ (k : Nat) (bb : Bool), v7 = .bool bb ∧ v40 = .int .i64 (k : Int) ∧ k ≤ s2.L.length ∧ (bb = true ↔ busyN (s2.L.take k) ≠ 0) ∧ Below V3.heap.size V3 wr)
        (fun _ i _ => s2.L.length - (intOf i).toNat)
      case atStart => exact ⟨0, false, rfl, rfl, Nat.zero_le _, by rw [List.take_zero]; decide, Below.refl _ _⟩
      case round =>
        obtain ⟨k, bb, rfl, rfl, hk, hbb, hb⟩ := hrel
        by_cases hlt : k < s2.L.length
        · obtain ⟨l, hl⟩ : ∃ l, s2.L[k]? = some l := ⟨_, List.getElem?_eq_getElem hlt⟩
          obtain ⟨b, o, hA, hB, hc⟩ := lies_lv HW.out.2.1.lev.head (by omega)
          obtain ⟨c0, c1, c2, c3, c4, c5, c6, c7, c8, c9⟩ := lv_ten fun j u hj => (hb.cell (p := ⟨b, o + k * 10 + j, none⟩) hB).trans (hc k l hl j u hj)
          obtain ⟨V5, hV5, hb5, hs5, ho5⟩ := lvbox wr l
          obtain ⟨f0, f1, f2, f3, f4, f5, f6, f7, f8, f9⟩ := own10 ho5
          have hbt := busyN_take hl
          have HN := Lib.hid (show (bb || l.busy) = true ↔ busyN (s2.L.take (k + 1)) ≠ 0 from by
            rw [hbt, Bool.or_eq_true, hbb]
            cases l.busy <;> simp <;> omega)
          have HB5 := Lib.hid (belows hb hb5)
          have p0 : (0 : Int) ≤ (k : Int) := by omega
          have p1 : (k : Int) < (s2.L.length : Int) := by omega
          clear hbb hb hl hb5 hs5 ho5 hbt hc
          rw [hA]
          go_upto_region 13 with fail
          rw [← hV5]
          clear hV5
          cases bb with
          | true =>
            go_wp2_with fail
            go_roundw
            case rel => exact ⟨k + 1, true, rfl, by go_num, hlt, by have := HN.out; simpa using this, HB5.out⟩
            case measure => simp [intOf]; omega
          | false =>
            go_wp2_with fail
            go_roundw
            case rel => exact ⟨k + 1, l.busy, rfl, by go_num, hlt, by have := HN.out; simpa using this, HB5.out⟩
            case measure => simp [intOf]; omega
        · obtain rfl : k = s2.L.length := by omega
          rw [List.take_length] at hbb
          have HBB := Lib.hid hbb
          have own2' := HW.out.2.2.2.2.2.1.past hb HW.out.2.2.2.2.2.1.inside
          have hin2 := HW.out.2.1.keep hb
          have hgood2 : SpGood s2.f s2.L := by rw [HF.out.2.1]; exact HF.out.2.2.good
          have hwt2 : wtS s2.L ≤ 1048576 := Nat.le_trans HF.out.2.2.wt HR.out.1.wt
          have hpw := parts_wt s2.L
          have hbw2 : Below w0.heap.size w0 wr := HW.out.2.2.2.2.1.trans (hb.mono HW.out.2.2.2.2.1.size)
          have HX := Lib.hid (And.intro own2' (And.intro hin2 (And.intro hgood2 (And.intro hwt2 (And.intro hbw2 (HR.out.1.own.past hbw2 HR.out.1.own.inside))))))
          obtain ⟨e0, e1⟩ := own2 own2'
          cases bb with
          | false =>
            have y2 := Lib.hid (size_any s2 wr hin2 HW.out.2.2.1 (by omega))
            have hz : busyN s2.L = 0 := by
              by_cases hz : busyN s2.L = 0
              · exact hz
              · exact absurd (hbb.2 hz) (by decide)
            have hcn : (cntS s2.L : Int) = (s2.L.length : Int) := by rw [cnt_busy, hz, Nat.add_zero]
            rw [show s2.val = .agg #[.slice s2.sA s2.f.length s2.sc, .slice s2.lA s2.L.length s2.lc] from rfl] at y2
            have HCN := Lib.hid hcn
            clear hbb hb own2' hin2 hgood2 hwt2 hpw hbw2 hz hcn
            go_wp2_with fail
            refine y2.out.mono ?_
            rintro _ w6 ⟨nn, kk, ee, rfl, hh, b6⟩
            have hh2 : nn = (s2.L.length : Int) ∧ ee = 0 := by
              rcases hh with ⟨h1, _⟩ | ⟨_, h1, _, h2⟩
              · exact absurd HX.out.2.2.1 h1
              · exact ⟨h1.trans HCN.out, h2⟩
            obtain ⟨rfl, rfl⟩ := hh2
            have HE := Lib.hid (belows HR.out.2 (belows HX.out.2.2.2.2.1 b6))
            obtain ⟨e0, e1⟩ := own2 (HX.out.1.past b6 HX.out.1.inside)
            clear hh b6 y2
            go_wp2_with fail
            go_ret
            exact ⟨rfl, HE.out⟩
          | true =>
            have hnb : busyN s2.L ≠ 0 := hbb.1 rfl
            have hnx := ends_next HR.out.1.st HR.out.1.wt HF.out.1 HF.out.2.2 hnb
            have hc0 : ((c : Int) == 0) = false := beq_eq_false_iff_ne.2 (by have := hnx.1; omega)
            have oP := HX.out.2.2.2.2.2
            have f0 := oP.open_ 0
            have f1 := oP.open_ 1
            obtain ⟨p0, p1⟩ := own2 oP
            have hP : w.heap.size < w0.heap.size := HR.out.1.own.inside
            have hX := (oP.set_ 0 (.slice s2.sA s2.f.length s2.sc)).set_ 1 (.slice s2.lA s2.L.length s2.lc)
            have HN := Lib.hid (show EndsR w.heap.size (i + 1) s2 ((wr.setCell ⟨w.heap.size, 0, none⟩ (.slice s2.sA s2.f.length s2.sc)).setCell ⟨w.heap.size, 1, none⟩ (.slice s2.lA s2.L.length s2.lc)) ∧ Below w.heap.size w ((wr.setCell ⟨w.heap.size, 0, none⟩ (.slice s2.sA s2.f.length s2.sc)).setCell ⟨w.heap.size, 1, none⟩ (.slice s2.lA s2.L.length s2.lc)) from
              ⟨⟨hX, sp_kept hin2 (HW.out.2.2.2.1.mono hP) (kept_two _ _), HW.out.2.2.1, hwt2, .inr ⟨hgood2, hnb, hnx.2⟩⟩, below_two (belows HR.out.2 hbw2) (Nat.le_refl _) _ _⟩)
            clear hbb hb own2' hin2 hgood2 hwt2 hpw hbw2 hnb hnx oP hP hX
            go_wp2_with fail
            go_roundw
            case rel => exact ⟨i + 1, s2, by go_num, HN.out.1, HN.out.2⟩
            case measure => simp [intOf]; omega
end Go.Proofs.YtenjlhlighkenaaGreat
namespace Go.Proofs.YtenjlhlighkenaaGreat
open Go Go.RowKit Go.ChangeShapes Go.WideShapes Go.ChangeAt Go.Deep

section
variable {H : Type} {enc : TypeId × Value → H} {P : Program} {w : World} {base : Nat} {spare : Nat → Bool} {held : Bool}
end
end Go.Proofs.YtenjlhlighkenaaGreat
namespace Go.Proofs.YtenjlhlighkenaaGreat
open Go
variable {H : Type}
theorem bulk_pos (d : DataW H) : 1 ≤ Rows.uptoBulk d := by
  cases d with
  | lit l => cases l <;> simp [Rows.uptoBulk]
  | nil => simp [Rows.uptoBulk]
  | ptr d => simp [Rows.uptoBulk]
  | slice es sp => simp [Rows.uptoBulk]
  | agg ps => simp [Rows.uptoBulk]
  | iface t d => simp [Rows.uptoBulk]
  | map es => simp [Rows.uptoBulk]
  | held h => simp [Rows.uptoBulk]
end Go.Proofs.YtenjlhlighkenaaGreat
namespace Go.Proofs.YtenjlhlighkenaaGreat
open Go Go.RowKit Go.ChangeShapes Go.WideShapes Go.ChangeAt Go.Deep

section
variable {H : Type} {enc : TypeId × Value → H} {P : Program} {w : World} {base : Nat} {spare : Nat → Bool} {held : Bool}
theorem lies_gen {α : Type} {size : Nat} {cells : α → List Value} (hcl : ∀ x, 0 < (cells x).length) {len : Nat} {a : Addr} {f : Nat → α} (hp : 0 < len) (hf : ∀ i, i < len → ∀ (j : Nat) (u : Value), (cells (f i))[j]? = some u → w.cell? ((a.add (i * size)).add j) = some u) :
    Lies size cells w w.heap.size (some a) ((List.range len).map f) := fun _ => by
  have hz : ((a.add (0 * size)).add 0) = a := by unfold Addr.add; simp
  obtain ⟨v0, h0⟩ : ∃ v0, w.cell? a = some v0 := by
    have := hf 0 hp 0 _ (List.getElem?_eq_getElem (hcl (f 0)))
    rw [hz] at this
    exact ⟨_, this⟩
  have hspot : a.spot = none := by
    cases hs : a.spot with
    | none => rfl
    | some s =>
      unfold World.cell? at h0
      rw [hs] at h0
      split at h0 <;> simp at h0
  obtain ⟨b, o, sp⟩ := a
  simp only at hspot
  subst hspot
  have hadd : ∀ k j, ((⟨b, o, none⟩ : Addr).add k).add j = ⟨b, o + k + j, none⟩ := fun k j => by unfold Addr.add; split <;> split <;> simp_all
  refine ⟨b, o, rfl, World.block_lt_of_cell? w _ h0, fun i x hit j u hj => ?_⟩
  have hil : i < len := by have := (List.getElem?_eq_some_iff.1 hit).1; simpa using this
  have hti : f i = x := by simpa [hil] using hit
  subst hti
  have := hf i hil j u hj
  rwa [hadd] at this
theorem bulk_sum : ∀ es : List (DataW H × List MemPlace), (es.map (fun z => Rows.uptoBulk z.1)).sum = Rows.uptoBulkAll (es.map (·.1))
  | [] => by simp [Rows.uptoBulkAll]
  | x :: es => by simp only [List.map_cons, List.sum_cons, Rows.uptoBulkAll]; rw [bulk_sum es]
theorem mem_le_sum : ∀ {bs : List Nat} {b : Nat}, b ∈ bs → b ≤ bs.sum
  | [], _, h => by cases h
  | x :: bs, b, h => by
    rw [List.sum_cons]
    rcases List.mem_cons.1 h with rfl | h
    · omega
    · have := mem_le_sum h; omega
theorem len_le_sum : ∀ {bs : List Nat}, (∀ b ∈ bs, 1 ≤ b) → bs.length ≤ bs.sum
  | [], _ => Nat.le_refl _
  | x :: bs, h => by
    have h1 := h x (by simp)
    have h2 := len_le_sum (bs := bs) fun b hb => h b (by simp [hb])
    rw [List.sum_cons, List.length_cons]
    omega
theorem open_list_bulk {α : Type} [Inhabited α] {size : Nat} {cells : α → List Value} {OK : α → Nat → Prop} {t e : TypeId} {fuel : Nat} (ht : P.underlying t = some (.slice e)) (hc : P.cellsOf e = size) (hcl : ∀ x, 0 < (cells x).length)
    (dec : ∀ {n : Nat} {cs : List Value} {x : DataW H × List MemPlace}, n < fuel → DataW.trod enc P w base spare held n e cs = some x → ∃ a, cs = cells a ∧ OK a (Rows.uptoBulk x.1))
    {cs : List Value} {x : DataW H × List MemPlace} (hf : DataW.trod enc P w base spare held fuel t cs = some x) :
    ∃ (A : Option Addr) (c : Nat) (l : List α) (bs : List Nat), cs = [.slice A l.length c] ∧ l.length ≤ c ∧ c ≤ maxLen ∧ Lies size cells w w.heap.size A l ∧ bs.length = l.length ∧ bs.sum + 1 ≤ Rows.uptoBulk x.1 ∧ (∀ b ∈ bs, 1 ≤ b) ∧
      ∀ (i : Nat) (a : α), l[i]? = some a → ∃ b, bs[i]? = some b ∧ OK a b := by
  rcases DataW.trod_slice ht hf with ⟨h1, h2⟩ | ⟨a, len, cap, elems, rest, n, hfu, h1, h2, hb, hl, hm, hlen, hel, hsp, hns⟩
  · subst h1 h2
    exact ⟨none, 0, [], [], rfl, Nat.le_refl _, Nat.zero_le _, Lies.nil_, rfl, by simp [Rows.uptoBulk], fun b h => (by cases h), fun i a h => (by simp at h)⟩
  · rw [hc] at hel
    have hT : ∀ i, i < len → ∃ y : α, (∃ b, (elems.map (fun z => Rows.uptoBulk z.1))[i]? = some b ∧ OK y b) ∧ ∀ (j : Nat) (u : Value), (cells y)[j]? = some u → w.cell? ((a.add (i * size)).add j) = some u := fun i hi => by
      have h1 := hel i hi
      rw [List.getElem?_eq_getElem (by omega)] at h1
      obtain ⟨cs', h2, h3⟩ := Option.bind_eq_some_iff.1 h1
      obtain ⟨y, rfl, hy⟩ := dec (by omega) h3
      obtain ⟨_, hle2, hat⟩ := World.cells?_some h2
      refine ⟨y, ⟨_, by rw [List.getElem?_map, List.getElem?_eq_getElem (by omega)]; rfl, hy⟩, fun j u hj => ?_⟩
      rw [hat j (by have := (List.getElem?_eq_some_iff.1 hj).1; omega)]
      exact hj
    obtain ⟨f, hf'⟩ := choose_lt hT
    have hle : ((List.range len).map f).length = len := by simp
    refine ⟨some a, cap, (List.range len).map f, elems.map (fun z => Rows.uptoBulk z.1), by rw [hle]; exact h1, by rw [hle]; exact hl, hm, ?_, by rw [hle, List.length_map, hlen], ?_, ?_, ?_⟩
    · by_cases hp : 0 < len
      · exact lies_gen hcl hp fun i hi => (hf' i hi).2
      · exact fun h => by rw [hle] at h; omega
    · rw [h2]
      simp only [Rows.uptoBulk]
      rw [bulk_sum]
      omega
    · intro b hb
      obtain ⟨z, _, rfl⟩ := List.mem_map.1 hb
      exact bulk_pos _
    · intro i y hi
      have hil : i < len := by have := (List.getElem?_eq_some_iff.1 hi).1; simpa using this
      have hti : f i = y := by simpa [hil] using hi
      subst hti
      exact (hf' i hil).1
end
end Go.Proofs.YtenjlhlighkenaaGreat
namespace Go.Proofs.YtenjlhlighkenaaGreat
open Go Go.RowKit Go.ChangeShapes Go.WideShapes Go.ChangeAt Go.Deep

set_option maxRecDepth 100000
section
variable {H : Type} {enc : TypeId × Value → H} {w : World} {base : Nat} {spare : Nat → Bool} {held : Bool}
theorem wf_nat {n : Int} (h : (Lit.int .u64 n).wf = true) : ∃ m : Nat, n = (m : Int) := by
  have h2 : 0 ≤ n := by
    have : 0 ≤ n ∧ n ≤ 18446744073709551615 := by simpa [Lit.wf, IntKind.min, IntKind.max, IntKind.signed, IntKind.bits] using h
    exact this.1
  exact ⟨n.toNat, (Int.toNat_of_nonneg h2).symm⟩
theorem trod_time {fuel : Nat} {cs : List Value} {x : DataW H × List MemPlace} (h : DataW.trod enc Tryz.prog w base spare held fuel 26 cs = some x) : ∃ t : Tm, cs = t.cells := by
  obtain ⟨xs, n, _, _, hlen, hxs, hf⟩ := DataW.trod_struct Tryz.underlying26 h
  have hc : Tryz.prog.cellsOf 26 = 3 := by kernel_rfl
  have hc1 : Tryz.prog.cellsOf 23 = 1 := by kernel_rfl
  have hc2 : Tryz.prog.cellsOf 24 = 2 := by kernel_rfl
  rw [hc] at hlen
  match cs, hlen with
  | [c0, c1, c2], _ =>
    have h0 := hf 0 _ rfl
    have h1 := hf 1 _ rfl
    match xs, hxs with
    | [y0, y1], _ =>
      simp only [hc1, hc2, List.drop_zero, List.take_succ_cons, List.take_zero, List.drop_succ_cons, List.getElem?_cons_zero, List.getElem?_cons_succ] at h0 h1
      obtain ⟨n0, e0, _, w0⟩ := DataW.trod_int Tryz.underlying23 h0
      obtain ⟨zs, m, _, _, _, hzs, hg⟩ := DataW.trod_array Tryz.underlying24 h1
      match zs, hzs with
      | [z0, z1], _ =>
        have k0 := hg 0 (by omega)
        have k1 := hg 1 (by omega)
        simp only [hc1, Nat.zero_mul, Nat.one_mul, List.drop_zero, List.take_succ_cons, List.take_zero, List.drop_succ_cons, List.getElem?_cons_zero, List.getElem?_cons_succ] at k0 k1
        obtain ⟨n1, e1, _, w1⟩ := DataW.trod_int Tryz.underlying23 k0
        obtain ⟨n2, e2, _, w2⟩ := DataW.trod_int Tryz.underlying23 k1
        obtain ⟨m0, rfl⟩ := wf_nat w0
        obtain ⟨m1, rfl⟩ := wf_nat w1
        obtain ⟨m2, rfl⟩ := wf_nat w2
        obtain rfl := (List.cons.inj e0).1
        obtain rfl := (List.cons.inj e1).1
        obtain rfl := (List.cons.inj e2).1
        exact ⟨⟨m0, m1, m2⟩, rfl⟩
end
end Go.Proofs.YtenjlhlighkenaaGreat
namespace Go.Proofs.YtenjlhlighkenaaGreat
open Go Go.RowKit

def RowsAt (w : World) (B : Nat) (A : Option Addr) (L : List (List Vl)) : Prop :=
  0 < L.length → ∃ b o, A = some ⟨b, o, none⟩ ∧ b < B ∧ ∀ (i : Nat) (l : List Vl), L[i]? = some l → ∃ A' c', w.cell? ⟨b, o + i, none⟩ = some (.slice A' l.length c') ∧ Vals w B A' l
section
variable {w w' : World} {B B' : Nat} {A : Option Addr} {L : List (List Vl)}
theorem RowsAt.past (h : RowsAt w B A L) (hb : Below B' w w') (hB : B ≤ B') : RowsAt w' B A L := fun hn => by
  obtain ⟨b, o, e, hlt, hc⟩ := h hn
  refine ⟨b, o, e, hlt, fun i l hi => ?_⟩
  obtain ⟨A', c', h1, h2⟩ := hc i l hi
  exact ⟨A', c', (hb.cell (p := ⟨b, o + i, none⟩) (show b < B' by omega)).trans h1, h2.past hb hB⟩
theorem RowsAt.wide (h : RowsAt w B A L) (hB : B ≤ B') : RowsAt w B' A L := fun hn => by
  obtain ⟨b, o, e, hlt, hc⟩ := h hn
  refine ⟨b, o, e, by omega, fun i l hi => ?_⟩
  obtain ⟨A', c', h1, h2⟩ := hc i l hi
  exact ⟨A', c', h1, h2.wide hB⟩
end
def lens (L : List (List Vl)) : Nat := (L.map List.length).sum
end Go.Proofs.YtenjlhlighkenaaGreat
namespace Go.Proofs.YtenjlhlighkenaaGreat
open Go Go.RowKit Go.ChangeShapes Go.WideShapes Go.ChangeAt Go.Deep

set_option maxRecDepth 100000
section
variable {H : Type} {enc : TypeId × Value → H} {w : World} {base : Nat} {spare : Nat → Bool} {held : Bool}
set_option maxRecDepth 100000 in
theorem trod_val {fuel : Nat} {cs : List Value} {x : DataW H × List MemPlace} (h : DataW.trod enc Tryz.prog w base spare held fuel 104 cs = some x) : ∃ v : Vl, cs = v.cells ∧ VOk v := by
  obtain ⟨xs, n, _, _, hlen, hxs, hf⟩ := DataW.trod_struct Tryz.underlying104 h
  have hc : Tryz.prog.cellsOf 104 = 3 := by kernel_rfl
  have hcb : Tryz.prog.cellsOf 4 = 1 := by kernel_rfl
  have hci : Tryz.prog.cellsOf 2 = 1 := by kernel_rfl
  have hcs : Tryz.prog.cellsOf 9 = 1 := by kernel_rfl
  rw [hc] at hlen
  match cs, hlen with
  | [c0, c1, c2], _ =>
    have h0 := hf 0 _ rfl
    have h1 := hf 1 _ rfl
    have h2 := hf 2 _ rfl
    match xs, hxs with
    | [y0, y1, y2], _ =>
      simp only [hcb, hci, hcs, List.drop_zero, List.take_succ_cons, List.take_zero, List.drop_succ_cons, List.getElem?_cons_zero, List.getElem?_cons_succ] at h0 h1 h2
      obtain ⟨n0, e0, _⟩ := DataW.trod_bool Tryz.underlying4 h0
      obtain ⟨n1, e1, _, w1⟩ := DataW.trod_int Tryz.underlying2 h1
      obtain ⟨n2, e2, _, w2⟩ := DataW.trod_string Tryz.underlying9 h2
      obtain rfl := (List.cons.inj e0).1
      obtain rfl := (List.cons.inj e1).1
      obtain rfl := (List.cons.inj e2).1
      exact ⟨⟨n0, n1, n2⟩, rfl, w2, wf_i64 w1⟩
theorem open_rowC {fuel : Nat} {cs : List Value} {x : DataW H × List MemPlace} (h : DataW.trod enc Tryz.prog w base spare held fuel 55 cs = some x) :
    ∃ (A : Option Addr) (c : Nat) (l : List Vl), cs = [.slice A l.length c] ∧ Vals w w.heap.size A l ∧ (∀ v ∈ l, VOk v) ∧ l.length ≤ Rows.uptoBulk x.1 := by
  obtain ⟨A, c, l, bs, e, h1, h2, h3, h4, h5, h6, h7⟩ := open_list_bulk (size := 3) (cells := Vl.cells) (OK := fun v _ => VOk v) Tryz.underlying55 (by kernel_rfl) (fun _ => by simp [Vl.cells]) (fun {n cs x} _ ht => trod_val ht) h
  have := len_le_sum h6
  refine ⟨A, c, l, e, vals_of_lies h3, fun v hv => ?_, by omega⟩
  obtain ⟨i, hi⟩ := List.getElem?_of_mem hv
  exact (h7 i v hi).elim fun _ h => h.2
def UIs (w : World) (u : Up) (b : Nat) : Prop := UIn w w.heap.size u ∧ (b ≤ 1048576 → UOk u)
end
end Go.Proofs.YtenjlhlighkenaaGreat
namespace Go.Proofs.YtenjlhlighkenaaGreat
open Go Go.RowKit Go.ChangeShapes Go.WideShapes Go.ChangeAt Go.Deep

set_option maxRecDepth 100000
section
variable {H : Type} {enc : TypeId × Value → H} {w : World} {base : Nat} {spare : Nat → Bool} {held : Bool}
theorem open_timesC {fuel : Nat} {cs : List Value} {x : DataW H × List MemPlace} (h : DataW.trod enc Tryz.prog w base spare held fuel 28 cs = some x) :
    ∃ (A : Option Addr) (c : Nat) (l : List Tm), cs = [.slice A l.length c] ∧ l.length ≤ c ∧ c ≤ maxLen ∧ Times w w.heap.size A l ∧ l.length ≤ Rows.uptoBulk x.1 := by
  obtain ⟨A, c, l, bs, e, h1, h2, h3, h4, h5, h6, h7⟩ := open_list_bulk (size := 3) (cells := Tm.cells) (OK := fun _ _ => True) Tryz.underlying28 (by kernel_rfl) (fun _ => by simp [Tm.cells]) (fun {n cs x} _ ht => (trod_time ht).elim fun t e => ⟨t, e, trivial⟩) h
  have := len_le_sum h6
  exact ⟨A, c, l, e, h1, h2, times_lies h3, by omega⟩
end
end Go.Proofs.YtenjlhlighkenaaGreat
