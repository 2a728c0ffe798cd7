/- Part 10 of the texts on which SpineEnds rests: facts and contracts. -/
import Derived.Test.YtenjlhlighkenaaGreatSpineEndsM9
namespace Go.Proofs.YtenjlhlighkenaaGreat
open Go Go.RowKit

def EndOk (m : Mg) : Prop := MOk m ∧ m.i = (m.a.length : Int) ∧ m.j = (m.b.length : Int)
def EndSaysB (m : Mg) (w : World) (x : Ending) (w' : World) : Prop :=
  ∃ (b : Bt) (E : Int), x = .returned (.tuple #[b.val, .int .i64 E]) ∧ (E = 0 ∧ EndOk m ∧ b.f = m.f ∧ b.l.map Up.p = m.o.map Up.p ∨ E = 8 ∧ ¬ EndOk m ∧ b = Bt.nil) ∧ BtIn w' w'.heap.size b ∧ BtOk b ∧ BtLo w.heap.size b ∧ Below w.heap.size w w'
theorem en_box (w : World) (m : Mg) : ∃ V, V = (w.alloc (.cells #[.slice m.aA m.a.length m.ac, .slice m.bA m.b.length m.bc, .int .i64 m.i, .int .i64 m.j, .slice m.sA m.f.length m.sc, .slice m.oA m.o.length m.oc] 63)).alloc (.cells #[.slice none 0 0, .slice none 0 0] 61) ∧ Below w.heap.size w V ∧ Own V w.heap.size 63 m.cells ∧ Own V (w.heap.size + 1) 61 [.slice none 0 0, .slice none 0 0] := by
  refine ⟨_, rfl, ((Below.refl _ _).alloc (Nat.le_refl _) _).alloc (by simp) _, (Own.made w 63 m.cells).more _, ?_⟩
  exact own_next (w := w.alloc (.cells #[.slice m.aA m.a.length m.ac, .slice m.bA m.b.length m.bc, .int .i64 m.i, .int .i64 m.j, .slice m.sA m.f.length m.sc, .slice m.oA m.o.length m.oc] 63)) (l := [.slice none 0 0, .slice none 0 0]) (by simp)
set_option maxRecDepth 100000 in
set_option maxHeartbeats 12800000 in
theorem end_any (m : Mg) (w : World) (hm : MgIn w w.heap.size m) (hok : MgOk m) (no : m.o.length ≤ 274877906944) :
    Calls Tryz.prog 86 #[m.val] w (EndSaysB m w) := by
  obtain ⟨V, hV, hvb, hvo, hvz⟩ := en_box w m
  have hin := hm.keep hvb
  have y1 := Lib.hid (checkM_any m V hin hok)
  have HB := Lib.hid (And.intro hvb (And.intro hvo hvz))
  have HK := Lib.hid (And.intro hin (And.intro hok no))
  have hmv : m.val = .agg #[.slice m.aA m.a.length m.ac, .slice m.bA m.b.length m.bc, .int .i64 m.i, .int .i64 m.j, .slice m.sA m.f.length m.sc, .slice m.oA m.o.length m.oc] := rfl
  rw [hmv] at y1 ⊢
  obtain ⟨d0, d1, d2, d3, d4, d5⟩ := own6 hvo
  clear hm hok hvb hvo hvz hin hmv no
  go_enter Tryz.func86, Tryz.ntmps86
  go_upto_region 1 with fail
  rw [← hV]
  clear hV
  go_wp2_with fail
  refine y1.out.mono ?_
  rintro _ w1 ⟨n, rfl, hn, b1⟩
  have H1 := Lib.hid (And.intro hn (And.intro (HB.out.1.trans (b1.mono HB.out.1.size)) (And.intro (HB.out.2.1.past b1 HB.out.2.1.inside) (And.intro (HB.out.2.2.past b1 HB.out.2.2.inside) (HK.out.1.keep b1)))))
  clear d0 d1 d2 d3 d4 d5 b1 y1 hn
  by_cases h0 : n = 0
  case neg =>
    have t1 : (n != 0) = true := bne_iff_ne.2 h0
    have hz := H1.out.2.2.2.1
    have f0 := hz.open_ 0
    have f1 := hz.open_ 1
    obtain ⟨d0, d1⟩ := own2 hz
    have hX := (hz.set_ 0 (.slice none 0 0)).set_ 1 (.slice none 0 0)
    have HX := Lib.hid (And.intro (H1.out.2.1.setCell (p := ⟨w.heap.size + 1, 0, none⟩) (Nat.le_succ _) (.slice none 0 0) |>.setCell (p := ⟨w.heap.size + 1, 1, none⟩) (Nat.le_succ _) (.slice none 0 0)) hX)
    have H0 := Lib.hid (show n = 8 ∧ ¬ MOk m from by
      rcases H1.out.1 with ⟨_, e⟩ | ⟨e, e2⟩
      · exact absurd e h0
      · exact ⟨e2, e⟩)
    clear h0 hz hX
    go_wp2_with fail
    obtain ⟨x0, x1⟩ := own2 HX.out.2
    exact bodyPost_ret (v := .tuple #[.agg #[.slice none 0 0, .slice none 0 0], .int .i64 n]) (by simp [results, Tryz.results86, go_sem, x0, x1]) rfl ⟨Bt.nil, n, rfl, .inr ⟨H0.out.1, fun h => H0.out.2 h.1, rfl⟩, bt_nil_in _ _, bt_nil_ok, bt_nil_lo _, HX.out.1⟩
  subst h0
  have hmok : MOk m := by
    rcases H1.out.1 with ⟨e, _⟩ | ⟨_, e⟩
    · exact e
    · omega
  obtain ⟨i, hi⟩ : ∃ i : Nat, m.i = (i : Int) := ⟨m.i.toNat, by have := hmok.da.lo; omega⟩
  obtain ⟨j, hj⟩ : ∃ j : Nat, m.j = (j : Int) := ⟨m.j.toNat, by have := hmok.db.lo; omega⟩
  have hil : i ≤ m.a.length := by have := hmok.da.hi; omega
  have hjl : j ≤ m.b.length := by have := hmok.db.hi; omega
  have hna := HK.out.2.1.a.n
  have hnb := HK.out.2.1.b.n
  obtain ⟨d0, d1, d2, d3, d4, d5⟩ := own6 H1.out.2.2.1
  rw [hi] at d2
  rw [hj] at d3
  obtain ⟨V2, hV2⟩ : ∃ V2, V2 = w1.alloc (.cells #[.slice m.aA m.a.length m.ac, .slice m.bA m.b.length m.bc, .int .i64 (i : Int), .int .i64 (j : Int), .slice m.sA m.f.length m.sc, .slice m.oA m.o.length m.oc, .int .i64 0] 154) := ⟨_, rfl⟩
  have hbV : Below w1.heap.size w1 V2 := by rw [hV2]; exact (Below.refl _ _).alloc (Nat.le_refl _) _
  have hP : Own V2 w1.heap.size 154 (mcells m i j (.slice m.oA m.o.length m.oc) 0) := by rw [hV2]; exact Own.made w1 _ (mcells m i j (.slice m.oA m.o.length m.oc) 0)
  have y2 := Lib.hid (left_any w1.heap.size m i j 0 _ V2 hP (by omega) (by omega) hna hnb)
  have H2 := Lib.hid (And.intro (H1.out.2.1.trans (hbV.mono H1.out.2.1.size)) (And.intro (H1.out.2.2.1.past hbV H1.out.2.2.1.inside) (And.intro (H1.out.2.2.2.1.past hbV H1.out.2.2.2.1.inside) (And.intro (H1.out.2.2.2.2.keep hbV) (And.intro hmok (And.intro hi hj))))))
  have HR := Lib.hid hV2
  clear hbV hP hmok hi hj hV2
  by_cases hlf : i < m.a.length ∨ j < m.b.length
  case pos =>
    have hD : decide (i < m.a.length ∨ j < m.b.length) = true := decide_eq_true hlf
    rw [hD] at y2
    have H0 := Lib.hid (show ¬ EndOk m from fun h => by have h1 := h.2.1; have h2 := h.2.2; rw [H2.out.2.2.2.2.2.1] at h1; rw [H2.out.2.2.2.2.2.2] at h2; omega)
    clear hD hlf
    go_wp2_with fail
    rw [← HR.out]
    refine y2.out.mono ?_
    rintro _ wl ⟨rfl, q, hq⟩
    have hz : Own wl (w.heap.size + 1) 61 [.slice none 0 0, .slice none 0 0] := hq ▸ H2.out.2.2.1.draws q
    have hb9 : Below w.heap.size w wl := hq ▸ below_draws H2.out.1 q
    have f0 := hz.open_ 0
    have f1 := hz.open_ 1
    clear d0 d1 d2 d3 d4 d5 hq y2
    obtain ⟨d0, d1⟩ := own2 hz
    have hX := (hz.set_ 0 (.slice none 0 0)).set_ 1 (.slice none 0 0)
    have HX := Lib.hid (And.intro (hb9.setCell (p := ⟨w.heap.size + 1, 0, none⟩) (Nat.le_succ _) (.slice none 0 0) |>.setCell (p := ⟨w.heap.size + 1, 1, none⟩) (Nat.le_succ _) (.slice none 0 0)) hX)
    clear hz hX hb9
    go_wp2_with fail
    obtain ⟨x0, x1⟩ := own2 HX.out.2
    exact bodyPost_ret (v := .tuple #[.agg #[.slice none 0 0, .slice none 0 0], .int .i64 8]) (by simp [results, Tryz.results86, go_sem, x0, x1]) rfl ⟨Bt.nil, 8, rfl, .inr ⟨rfl, H0.out, rfl⟩, bt_nil_in _ _, bt_nil_ok, bt_nil_lo _, HX.out.1⟩
  have hD : decide (i < m.a.length ∨ j < m.b.length) = false := decide_eq_false hlf
  rw [hD] at y2
  have H0 := Lib.hid (show EndOk m from ⟨H2.out.2.2.2.2.1, by rw [H2.out.2.2.2.2.2.1]; omega, by rw [H2.out.2.2.2.2.2.2]; omega⟩)
  clear hD hlf
  go_wp2_with fail
  rw [← HR.out]
  refine y2.out.mono ?_
  rintro _ wl ⟨rfl, q, hq⟩
  have hz : Own wl (w.heap.size + 1) 61 [.slice none 0 0, .slice none 0 0] := hq ▸ H2.out.2.2.1.draws q
  have hm9 : Own wl w.heap.size 63 m.cells := hq ▸ H2.out.2.1.draws q
  have hb9 : Below w.heap.size w wl := hq ▸ below_draws H2.out.1 q
  have hi9 : MgIn wl wl.heap.size m := hq ▸ H2.out.2.2.2.1.keep (below_draws (Below.refl _ _) q)
  clear d0 d1 d2 d3 d4 d5 hq y2
  obtain ⟨d0, d1, d2, d3, d4, d5⟩ := own6 hm9
  have y3 := Lib.hid (copyB_any ⟨m.sA, m.sc, m.f, m.oA, m.oc, m.o⟩ wl ⟨hi9.f, hi9.o⟩ ⟨HK.out.2.1.f, HK.out.2.1.o⟩ H0.out.1.even.2.2.2.2 HK.out.2.2)
  rw [show (Bt.mk m.sA m.sc m.f m.oA m.oc m.o).val = .agg #[.slice m.sA m.f.length m.sc, .slice m.oA m.o.length m.oc] from rfl] at y3
  have H9 := Lib.hid (And.intro hz hb9)
  clear hz hm9 hb9 hi9
  go_wp2_with fail
  refine y3.out.mono ?_
  rintro _ w5 ⟨b, rfl, hs5, hi5, ho5, hl5, b5⟩
  have hz := H9.out.1.past b5 H9.out.1.inside
  have f0 := hz.open_ 0
  have f1 := hz.open_ 1
  clear d0 d1 d2 d3 d4 d5 y3
  obtain ⟨d0, d1⟩ := own2 hz
  have hX := (hz.set_ 0 (.slice b.sA b.f.length b.sc)).set_ 1 (.slice b.uA b.l.length b.uc)
  obtain ⟨s1, s2⟩ := set2_other w5 (w.heap.size + 1) (.slice b.sA b.f.length b.sc) (.slice b.uA b.l.length b.uc)
  have hin9 := H9.out.1.inside
  have hw9 := H9.out.2.size
  have HX := Lib.hid (And.intro ((H9.out.2.trans (b5.mono H9.out.2.size)).setCell (p := ⟨w.heap.size + 1, 0, none⟩) (Nat.le_succ _) (.slice b.sA b.f.length b.sc) |>.setCell (p := ⟨w.heap.size + 1, 1, none⟩) (Nat.le_succ _) (.slice b.uA b.l.length b.uc)) (And.intro hX (And.intro (And.intro (times_other hi5.since (hl5.f.mono (by omega)) s1 s2) (ups_other hi5.ups (hl5.l.mono (by omega)) s1 s2)) (And.intro (hl5.mono (by omega)) (And.intro ho5 hs5)))))
  clear hz hX s1 s2 hin9 hw9 hs5 hi5 ho5 hl5 b5
  unfold Bt.val
  go_wp2_with fail
  obtain ⟨x0, x1⟩ := own2 HX.out.2.1
  exact bodyPost_ret (v := .tuple #[.agg #[.slice b.sA b.f.length b.sc, .slice b.uA b.l.length b.uc], .int .i64 0]) (by simp [results, Tryz.results86, go_sem, x0, x1]) rfl ⟨b, 0, rfl, .inl ⟨rfl, H0.out, HX.out.2.2.2.2.2.f, HX.out.2.2.2.2.2.l⟩, ⟨HX.out.2.2.1.1, HX.out.2.2.1.2⟩, HX.out.2.2.2.2.1, HX.out.2.2.2.1, HX.out.1⟩
end Go.Proofs.YtenjlhlighkenaaGreat
namespace Go.Proofs.YtenjlhlighkenaaGreat
open Go Go.RowKit

def Ended (w : World) (base g i : Nat) (s : Sp) (m : Mg) (x : Ending) (w' : World) : Prop :=
  ∃ b : Bt, x = .returned b.val ∧ Wk w' base g ⟨s.sA, s.sc, s.f, s.lA, s.lc, s.L.eraseIdx i⟩ ∧ KeptK w w' (SpS g s.lA) ∧ b.f = m.f ∧ b.l.map Up.p = m.o.map Up.p ∧ BtIn w' w'.heap.size b ∧ BtOk b ∧ BtLo w.heap.size b
theorem end_box (w : World) (m : Mg) : ∃ V, V = (w.alloc (.cells #[.slice m.aA m.a.length m.ac, .slice m.bA m.b.length m.bc, .int .i64 m.i, .int .i64 m.j, .slice m.sA m.f.length m.sc, .slice m.oA m.o.length m.oc] 63)).alloc (.cells #[.slice none 0 0, .slice none 0 0] 61) ∧ Below w.heap.size w V ∧ Own V w.heap.size 63 m.cells ∧ Own V (w.heap.size + 1) 61 [.slice none 0 0, .slice none 0 0] := en_box w m
set_option maxRecDepth 100000 in
set_option maxHeartbeats 6400000 in
theorem ends_any (base g i : Nat) (s : Sp) (m : Mg) (w : World) (h : Wk w base g s) (hi : i < s.L.length) (hm : MgIn w w.heap.size m) (om : MgOk m) (hmo : OfM (SpS g s.lA) m) (no : m.o.length ≤ 274877906944) (he : EndOk m) :
    Calls Tryz.prog 54 #[.pointer (some ⟨g, 0, none⟩), .int .i64 (i : Int), m.val] w (Ended w base g i s m) := by
  obtain ⟨V, hV, hvb, hvm, hvz⟩ := end_box w m
  have hV1 := h.past hvb
  have hn := h.ok.n
  have y1 := Lib.hid (delete_anyS base s.L.length s.lc i s.lA _ V hV1.row hi (lvs_one s.L))
  have c0 : V.cell? ⟨g, 1, none⟩ = some (.slice s.lA s.L.length s.lc) := hV1.own.at_ 1
  have H := Lib.hid (And.intro h (And.intro hvb (And.intro hvm (And.intro hvz (And.intro hm (And.intro om (And.intro hmo (And.intro no he))))))))
  have hw : IntKind.i64.wrap ((i : Int) + 1) = (i : Int) + 1 := by rw [IntKind.wrap_i64]; omega
  have hgl := h.own.inside
  rw [show m.val = .agg #[.slice m.aA m.a.length m.ac, .slice m.bA m.b.length m.bc, .int .i64 m.i, .int .i64 m.j, .slice m.sA m.f.length m.sc, .slice m.oA m.o.length m.oc] from rfl]
  have HP := Lib.hid (show ∀ x w' (b : Bt), x = .returned b.val → Wk w' base g ⟨s.sA, s.sc, s.f, s.lA, s.lc, s.L.eraseIdx i⟩ → KeptK w w' (SpS g s.lA) → b.f = m.f → b.l.map Up.p = m.o.map Up.p → BtIn w' w'.heap.size b → BtOk b → BtLo w.heap.size b → Ended w base g i s m x w' from fun x w' b h1 h2 h3 h4 h5 h6 h7 h8 => ⟨b, h1, h2, h3, h4, h5, h6, h7, h8⟩)
  have HV := Lib.hid hV1
  clear h hm om hmo no he hvb hvm hvz hV1
  go_enter Tryz.func54, Tryz.ntmps54
  go_upto_region 1 with fail
  rw [← hV]
  clear hV
  go_wp2_with fail
  refine y1.out.mono ?_
  rintro _ w2 ⟨rfl, hr, hg⟩
  have hW2 := HV.out.erase (V := V) (i := i) (by omega) (Below.refl _ _) hr hg
  have kk := hg
  rw [blkS_own] at kk
  have k1 : KeptK V w2 (fun k => blkS s.lA = some k) := KeptK.of_grown kk (fun _ e => e)
  have o2 := k1.own HV.out.own HV.out.out
  have f1 : w2.frozen? ⟨g, 1, none⟩ = false := o2.open_ 1
  have e1 : w2.cell? ⟨g, 1, none⟩ = some (.slice s.lA s.L.length s.lc) := o2.at_ 1
  have HW2 := Lib.hid hW2
  clear hr hg kk k1 o2 hW2 c0 y1
  go_upto_region 2 with fail
  obtain ⟨W3, hW3⟩ : ∃ W3, W3 = w2.setCell ⟨g, 1, none⟩ (.slice s.lA (s.L.length - 1) s.lc) := ⟨_, rfl⟩
  rw [← hW3] at HW2 ⊢
  clear hW3 e1 f1
  have ho : ∀ k, SpS g s.lA k → k < w.heap.size := fun k hk => (H.out.1.lt k hk).2
  have hm3 : MgIn W3 W3.heap.size m := mg_kept (H.out.2.2.2.2.1.keep H.out.2.1) H.out.2.2.2.2.2.2.1 HW2.out.2
  have om3 := HW2.out.2.own H.out.2.2.1 (fun h => by have := ho _ h; omega)
  have oz3 := HW2.out.2.own H.out.2.2.2.1 (fun h => by have := ho _ h; omega)
  have y2 := Lib.hid (end_any m W3 hm3 H.out.2.2.2.2.2.1 H.out.2.2.2.2.2.2.2.1)
  obtain ⟨d0, d1, d2, d3, d4, d5⟩ := own6 om3
  rw [show m.val = .agg #[.slice m.aA m.a.length m.ac, .slice m.bA m.b.length m.bc, .int .i64 m.i, .int .i64 m.j, .slice m.sA m.f.length m.sc, .slice m.oA m.o.length m.oc] from rfl] at y2
  have HZ := Lib.hid oz3
  clear hm3 om3 oz3 ho
  go_wp2_with fail
  refine y2.out.mono ?_
  rintro _ w4 ⟨b, E, rfl, hs, ib, ob, lb, b4⟩
  obtain ⟨V4, hV4, hb4, hs4, ho4⟩ := btbox w4 b
  have oz4 := (HZ.out.past b4 HZ.out.inside).past hb4 (Nat.lt_of_lt_of_le HZ.out.inside b4.size)
  have hne : w.heap.size + 1 < w4.heap.size := Nat.lt_of_lt_of_le HZ.out.inside b4.size
  have HF := Lib.hid (show b.f = m.f ∧ b.l.map Up.p = m.o.map Up.p from by
    rcases hs with ⟨_, _, h1, h2⟩ | ⟨_, h1, _⟩
    · exact ⟨h1, h2⟩
    · exact absurd H.out.2.2.2.2.2.2.2.2 h1)
  have bX : Below W3.heap.size W3 V4 := b4.trans (hb4.mono b4.size)
  have kX : KeptK W3 ((V4.setCell ⟨w.heap.size + 1, 0, none⟩ (.slice b.sA b.f.length b.sc)).setCell ⟨w.heap.size + 1, 1, none⟩ (.slice b.uA b.l.length b.uc)) (fun k => k = w.heap.size + 1) := KeptK.set_ (S := fun k => k = w.heap.size + 1) (KeptK.set_ (S := fun k => k = w.heap.size + 1) (KeptK.of_below bX (Nat.le_refl _) _) (.inl rfl) _) (.inl rfl) _
  have hA := Wk.again H.out.1 HW2.out.1 ((KeptK.of_below H.out.2.1 (Nat.le_refl _) (SpS g s.lA)).trans HW2.out.2 (fun _ _ e => e)) kX (Nat.le_succ _) rfl rfl rfl rfl (fun l hl => List.mem_of_mem_eraseIdx hl)
  have hX := (oz4.set_ 0 (.slice b.sA b.f.length b.sc)).set_ 1 (.slice b.uA b.l.length b.uc)
  obtain ⟨s1, s2⟩ := set2_other V4 (w.heap.size + 1) (.slice b.sA b.f.length b.sc) (.slice b.uA b.l.length b.uc)
  have hlow : BtLo (w.heap.size + 1 + 1) b := lb.mono (show w.heap.size + 1 + 1 ≤ W3.heap.size by have := HZ.out.inside; omega)
  have ib4 := ib.keep hb4
  have hbin : BtIn ((V4.setCell ⟨w.heap.size + 1, 0, none⟩ (.slice b.sA b.f.length b.sc)).setCell ⟨w.heap.size + 1, 1, none⟩ (.slice b.uA b.l.length b.uc)) ((V4.setCell ⟨w.heap.size + 1, 0, none⟩ (.slice b.sA b.f.length b.sc)).setCell ⟨w.heap.size + 1, 1, none⟩ (.slice b.uA b.l.length b.uc)).heap.size b := ⟨times_other ib4.since hlow.f s1 s2, ups_other ib4.ups hlow.l s1 s2⟩
  have HX := Lib.hid (And.intro hA (And.intro hbin (And.intro ob (lb.mono (show w.heap.size ≤ W3.heap.size by have := HZ.out.inside; omega)))))
  have f0 := oz4.open_ 0
  have f1 := oz4.open_ 1
  obtain ⟨e0, e1⟩ := own2 oz4
  obtain ⟨v0, v1⟩ := own2 ho4
  obtain ⟨x0, x1⟩ := own2 hX
  clear hs ib ob lb b4 hb4 hs4 ho4 oz4 bX kX hA hX s1 s2 hlow ib4 hbin d0 d1 d2 d3 d4 d5 y2
  rw [show b.val = .agg #[.slice b.sA b.f.length b.sc, .slice b.uA b.l.length b.uc] from rfl]
  go_upto_region 3 with fail
  rw [← hV4]
  clear hV4
  go_wp2_with fail
  exact bodyPost_ret (v := .agg #[.slice b.sA b.f.length b.sc, .slice b.uA b.l.length b.uc]) (by simp [results, Tryz.results54, go_sem, x0, x1]) rfl (HP.out _ _ b rfl HX.out.1.1 HX.out.1.2 HF.out.1 HF.out.2 HX.out.2.1 HX.out.2.2.1 HX.out.2.2.2)
end Go.Proofs.YtenjlhlighkenaaGreat
namespace Go.Proofs.YtenjlhlighkenaaGreat
open Go Go.RowKit

def StartOk (f : List Tm) (a b : Bt) : Prop := BatchOk a.f a.l ∧ BatchOk b.f b.l ∧ FrontOk f ∧ LaterF f a.f ∧ LaterF f b.f
def Started (f : List Tm) (a b : Bt) (w : World) (x : Ending) (w' : World) : Prop :=
  ∃ (m : Mg) (E : Int), x = .returned (.tuple #[m.val, .int .i64 E]) ∧ (E = 0 ∧ StartOk f a b ∧ m.a.map Up.p = a.l.map Up.p ∧ m.b.map Up.p = b.l.map Up.p ∧ m.i = 0 ∧ m.j = 0 ∧ m.f = f ∧ m.o = [] ∨ E ≠ 0 ∧ m = Mg.nil ∧ ¬ StartOk f a b) ∧
    MgIn w' w'.heap.size m ∧ MgOk m ∧ MgLo w.heap.size m ∧ Below w.heap.size w w'
theorem st_box (w : World) (a b : Bt) : ∃ V, V = ((w.alloc (.cells #[.slice a.sA a.f.length a.sc, .slice a.uA a.l.length a.uc] 61)).alloc (.cells #[.slice b.sA b.f.length b.sc, .slice b.uA b.l.length b.uc] 61)).alloc (.cells #[.slice none 0 0, .slice none 0 0, .int .i64 0, .int .i64 0, .slice none 0 0, .slice none 0 0] 63) ∧
    Below w.heap.size w V ∧ Own V w.heap.size 61 a.cells ∧ Own V (w.heap.size + 1) 61 b.cells ∧ Own V (w.heap.size + 2) 63 Mg.nil.cells := by
  refine ⟨_, rfl, (((Below.refl _ _).alloc (Nat.le_refl _) _).alloc (by simp) _).alloc (by simp; omega) _, ((Own.made w 61 a.cells).more _).more _, ?_, ?_⟩
  · exact (own_next (w := w.alloc (.cells #[.slice a.sA a.f.length a.sc, .slice a.uA a.l.length a.uc] 61)) (l := b.cells) (by simp)).more _
  · exact own_next (w := (w.alloc (.cells #[.slice a.sA a.f.length a.sc, .slice a.uA a.l.length a.uc] 61)).alloc (.cells #[.slice b.sA b.f.length b.sc, .slice b.uA b.l.length b.uc] 61)) (l := Mg.nil.cells) (by simp)
end Go.Proofs.YtenjlhlighkenaaGreat
namespace Go.Proofs.YtenjlhlighkenaaGreat
open Go Go.RowKit

def codeSt (f : List Tm) (a b : Bt) (E : Int) : Prop := E = 4 ∧ ¬ (BatchOk a.f a.l ∧ BatchOk b.f b.l ∧ FrontOk f) ∨ E = 1 ∧ (BatchOk a.f a.l ∧ BatchOk b.f b.l ∧ FrontOk f)
def Started2 (f : List Tm) (a b : Bt) (w : World) (x : Ending) (w' : World) : Prop :=
  ∃ (m : Mg) (E : Int), x = .returned (.tuple #[m.val, .int .i64 E]) ∧ (E = 0 ∧ StartOk f a b ∧ m.a.map Up.p = a.l.map Up.p ∧ m.b.map Up.p = b.l.map Up.p ∧ m.i = 0 ∧ m.j = 0 ∧ m.f = f ∧ m.o = [] ∨ codeSt f a b E ∧ m = Mg.nil ∧ ¬ StartOk f a b) ∧
    MgIn w' w'.heap.size m ∧ MgOk m ∧ MgLo w.heap.size m ∧ Below w.heap.size w w'
end Go.Proofs.YtenjlhlighkenaaGreat
namespace Go.Proofs.YtenjlhlighkenaaGreat
open Go Go.RowKit

def Started2C (f : List Tm) (a b : Bt) (w : World) (x : Ending) (w' : World) : Prop :=
  ∃ (m : Mg) (E : Int), x = .returned (.tuple #[m.val, .int .i64 E]) ∧ (E = 0 ∧ StartOk f a b ∧ m.a.map Up.p = a.l.map Up.p ∧ m.b.map Up.p = b.l.map Up.p ∧ m.i = 0 ∧ m.j = 0 ∧ m.f = f ∧ m.o = [] ∨ codeSt f a b E ∧ m = Mg.nil ∧ ¬ StartOk f a b) ∧
    MgIn w' w'.heap.size m ∧ MgOk m ∧ MgLo w.heap.size m ∧ Below w.heap.size w w' ∧ m.ac = m.a.length ∧ m.bc = m.b.length
set_option maxRecDepth 100000 in
set_option maxHeartbeats 12800000 in
theorem start_any2C (A : Option Addr) (c : Nat) (f : List Tm) (a b : Bt) (w : World) (hf : Times w w.heap.size A f) (hfo : TsOk f c) (ha : BtIn w w.heap.size a) (oa : BtOk a) (na : a.l.length ≤ 274877906944) (hb : BtIn w w.heap.size b) (ob : BtOk b) (nb : b.l.length ≤ 274877906944) :
    Calls Tryz.prog 52 #[.slice A f.length c, a.val, b.val] w (Started2C f a b w) := by
  obtain ⟨V, hV, hvb, hv1, hv2, hv3⟩ := st_box w a b
  have hX := fun p : Past V => own2 (hv1.past p.h hv1.inside)
  have hY := fun p : Past V => own2 (hv2.past p.h hv2.inside)
  have hZ := fun p : Past V => hv3.past p.h hv3.inside
  have hia := ha.keep hvb
  have hib := hb.keep hvb
  have hif := (hf.past hvb (Nat.le_refl _)).wide hvb.size
  have hfV := fun p : Past V => (hif.past p.h (Nat.le_refl _)).wide p.h.size
  obtain ⟨ca, hca⟩ := code_of (BatchOk a.f a.l) 4
  obtain ⟨cb, hcb⟩ := code_of (BatchOk b.f b.l) 4
  obtain ⟨bf, hbf⟩ := bool_of (FrontOk f)
  obtain ⟨la, hla⟩ := bool_of (LaterF f a.f)
  obtain ⟨lb, hlb⟩ := bool_of (LaterF f b.f)
  have n1 := hfo.n
  have m1 : f.length ≤ maxLen := Nat.le_trans hfo.le hfo.c_
  have m2 : a.f.length ≤ maxLen := Nat.le_trans oa.f.le oa.f.c_
  have m3 : b.f.length ≤ maxLen := Nat.le_trans ob.f.le ob.f.c_
  have u1 := fun p : Past V => calls_past ((bcheck_any a p.w (hia.keep p.h) oa).mono fun x w' h => codes_is hca h)
  have u2 := fun p : Past V => calls_past ((bcheck_any b p.w (hib.keep p.h) ob).mono fun x w' h => codes_is hcb h)
  have u3 := fun p : Past V => calls_past ((bfrontier_any A c f p.w (hfV p) (by omega)).mono fun x w' h => tells_is hbf h)
  have u4 := fun p : Past V => calls_past ((later_any A c f a.sA a.sc a.f p.w (hfV p) m1 (hia.keep p.h).since m2).mono fun x w' h => tells_is hla h)
  have u5 := fun p : Past V => calls_past ((later_any A c f b.sA b.sc b.f p.w (hfV p) m1 (hib.keep p.h).since m3).mono fun x w' h => tells_is hlb h)
  have HB := Lib.hid hvb
  have HI := Lib.hid (And.intro hia (And.intro hib hif))
  have HZ := Lib.hid hZ
  have HC := Lib.hid (And.intro hca (And.intro hcb (And.intro hbf (And.intro hla hlb))))
  have HOK := Lib.hid (And.intro hfo (And.intro oa (And.intro na (And.intro ob nb))))
  have HG := Lib.hid hv3.inside
  have hA : a.val = .agg #[.slice a.sA a.f.length a.sc, .slice a.uA a.l.length a.uc] := rfl
  have hB : b.val = .agg #[.slice b.sA b.f.length b.sc, .slice b.uA b.l.length b.uc] := rfl
  rw [hA, hB]
  rw [hA] at u1
  rw [hB] at u2
  have HF := Lib.hid (show ∀ (E : Int) (x : Ending) (w' : World), codeSt f a b E → ¬ StartOk f a b → x = .returned (.tuple #[Mg.nil.val, .int .i64 E]) → Below w.heap.size w w' → Started2C f a b w x w' from fun E x w' h1 h2 h3 h4 => ⟨Mg.nil, E, h3, .inr ⟨h1, rfl, h2⟩, mg_nil_in _ _, mg_nil_ok, mg_nil_lo _, h4, rfl, rfl⟩)
  have HP := Lib.hid (show ∀ (m : Mg) (x : Ending) (w' : World), StartOk f a b → x = .returned (.tuple #[m.val, .int .i64 0]) → m.a.map Up.p = a.l.map Up.p ∧ m.b.map Up.p = b.l.map Up.p ∧ m.i = 0 ∧ m.j = 0 ∧ m.f = f ∧ m.o = [] → MgIn w' w'.heap.size m → MgOk m → MgLo w.heap.size m → Below w.heap.size w w' → m.ac = m.a.length ∧ m.bc = m.b.length → Started2C f a b w x w' from fun m x w' h1 h2 h3 h4 h5 h6 h7 h8 => ⟨m, 0, h2, .inl ⟨rfl, h1, h3⟩, h4, h5, h6, h7, h8⟩)
  clear hf hfo ha oa hb ob hvb hv1 hv2 hv3 hia hib hif hfV hca hcb hbf hla hlb n1 m1 m2 m3 hZ hA hB na nb
  go_enter Tryz.func52, Tryz.ntmps52
  go_upto_region 1 with fail
  rw [← hV]
  clear hV
  obtain ⟨a0, a1⟩ := hX ⟨V, Below.refl _ _⟩
  obtain ⟨b0, b1⟩ := hY ⟨V, Below.refl _ _⟩
  dsimp only at a0 a1 b0 b1
  go_wp2_with fail
  refine (u1 ⟨V, Below.refl _ _⟩).mono ?_
  rintro _ _ ⟨rfl, ⟨p1, rfl⟩⟩
  clear a0 a1 b0 b1 u1
  obtain ⟨a0, a1⟩ := hX p1
  obtain ⟨b0, b1⟩ := hY p1
  by_cases h1 : ca = 0
  case neg =>
    have t1 : (ca != 0) = true := bne_iff_ne.2 h1
    have hz := HZ.out p1
    obtain ⟨f0, f1, f2, f3, f4, f5⟩ := own_frozen6 hz
    obtain ⟨z0, z1, z2, z3, z4, z5⟩ := own6 hz
    obtain ⟨X, hX', hXo, hXb, hXs, hXh⟩ := own_six hz (.slice none 0 0) (.slice none 0 0) (.int .i64 0) (.int .i64 0) (.slice none 0 0) (.slice none 0 0)
    have HX := Lib.hid (And.intro (hXb w.heap.size w (HB.out.trans (p1.h.mono HB.out.size)) (by omega)) hXo)
    have HN := Lib.hid (show ¬ StartOk f a b from fun h => by rcases HC.out.1 with ⟨_, e⟩ | ⟨e, _⟩; exact h1 e; exact e h.1)
    have HCD := Lib.hid (show codeSt f a b 4 from .inl ⟨rfl, fun h => by rcases HC.out.1 with ⟨_, e⟩ | ⟨e, _⟩; exact h1 e; exact e h.1⟩)
    have HR := Lib.hid hX'
    clear hz hXo hXb hXs hXh hX' h1 u2 u3 u4 u5
    go_wp2_with fail
    rw [← HR.out]
    obtain ⟨x0, x1, x2, x3, x4, x5⟩ := own6 HX.out.2
    exact bodyPost_ret (v := .tuple #[.agg #[.slice none 0 0, .slice none 0 0, .int .i64 0, .int .i64 0, .slice none 0 0, .slice none 0 0], .int .i64 4]) (by simp [results, Tryz.results52, go_sem, x0, x1, x2, x3, x4, x5]) rfl (HF.out 4 _ _ HCD.out HN.out rfl HX.out.1)
  subst h1
  go_wp2_with fail
  refine (u2 p1).mono ?_
  rintro _ _ ⟨rfl, ⟨p2, rfl⟩⟩
  clear a0 a1 b0 b1 u2
  obtain ⟨a0, a1⟩ := hX p2
  obtain ⟨b0, b1⟩ := hY p2
  by_cases h2 : cb = 0
  case neg =>
    have t1 : (cb != 0) = true := bne_iff_ne.2 h2
    have hz := HZ.out p2
    obtain ⟨f0, f1, f2, f3, f4, f5⟩ := own_frozen6 hz
    obtain ⟨z0, z1, z2, z3, z4, z5⟩ := own6 hz
    obtain ⟨X, hX', hXo, hXb, hXs, hXh⟩ := own_six hz (.slice none 0 0) (.slice none 0 0) (.int .i64 0) (.int .i64 0) (.slice none 0 0) (.slice none 0 0)
    have HX := Lib.hid (And.intro (hXb w.heap.size w (HB.out.trans (p2.h.mono HB.out.size)) (by omega)) hXo)
    have HN := Lib.hid (show ¬ StartOk f a b from fun h => by rcases HC.out.2.1 with ⟨_, e⟩ | ⟨e, _⟩; exact h2 e; exact e h.2.1)
    have HCD := Lib.hid (show codeSt f a b 4 from .inl ⟨rfl, fun h => by rcases HC.out.2.1 with ⟨_, e⟩ | ⟨e, _⟩; exact h2 e; exact e h.2.1⟩)
    have HR := Lib.hid hX'
    clear hz hXo hXb hXs hXh hX' h2 u3 u4 u5
    go_wp2_with fail
    rw [← HR.out]
    obtain ⟨x0, x1, x2, x3, x4, x5⟩ := own6 HX.out.2
    exact bodyPost_ret (v := .tuple #[.agg #[.slice none 0 0, .slice none 0 0, .int .i64 0, .int .i64 0, .slice none 0 0, .slice none 0 0], .int .i64 4]) (by simp [results, Tryz.results52, go_sem, x0, x1, x2, x3, x4, x5]) rfl (HF.out 4 _ _ HCD.out HN.out rfl HX.out.1)
  subst h2
  go_wp2_with fail
  refine (u3 p2).mono ?_
  rintro _ _ ⟨rfl, ⟨p3, rfl⟩⟩
  clear a0 a1 b0 b1 u3
  obtain ⟨a0, a1⟩ := hX p3
  obtain ⟨b0, b1⟩ := hY p3
  cases bf with
  | false =>
    have hz := HZ.out p3
    obtain ⟨f0, f1, f2, f3, f4, f5⟩ := own_frozen6 hz
    obtain ⟨z0, z1, z2, z3, z4, z5⟩ := own6 hz
    obtain ⟨X, hX', hXo, hXb, hXs, hXh⟩ := own_six hz (.slice none 0 0) (.slice none 0 0) (.int .i64 0) (.int .i64 0) (.slice none 0 0) (.slice none 0 0)
    have HX := Lib.hid (And.intro (hXb w.heap.size w (HB.out.trans (p3.h.mono HB.out.size)) (by omega)) hXo)
    have HN := Lib.hid (show ¬ StartOk f a b from fun h => by have := HC.out.2.2.1.2 h.2.2.1; cases this)
    have HCD := Lib.hid (show codeSt f a b 4 from .inl ⟨rfl, fun h => by have := HC.out.2.2.1.2 h.2.2; cases this⟩)
    have HR := Lib.hid hX'
    clear hz hXo hXb hXs hXh hX' u4 u5
    go_wp2_with fail
    rw [← HR.out]
    obtain ⟨x0, x1, x2, x3, x4, x5⟩ := own6 HX.out.2
    exact bodyPost_ret (v := .tuple #[.agg #[.slice none 0 0, .slice none 0 0, .int .i64 0, .int .i64 0, .slice none 0 0, .slice none 0 0], .int .i64 4]) (by simp [results, Tryz.results52, go_sem, x0, x1, x2, x3, x4, x5]) rfl (HF.out 4 _ _ HCD.out HN.out rfl HX.out.1)
  | true =>
  go_wp2_with fail
  refine (u4 p3).mono ?_
  rintro _ _ ⟨rfl, ⟨p4, rfl⟩⟩
  clear a0 a1 b0 b1 u4
  obtain ⟨a0, a1⟩ := hX p4
  obtain ⟨b0, b1⟩ := hY p4
  cases la with
  | false =>
    have hz := HZ.out p4
    obtain ⟨f0, f1, f2, f3, f4, f5⟩ := own_frozen6 hz
    obtain ⟨z0, z1, z2, z3, z4, z5⟩ := own6 hz
    obtain ⟨X, hX', hXo, hXb, hXs, hXh⟩ := own_six hz (.slice none 0 0) (.slice none 0 0) (.int .i64 0) (.int .i64 0) (.slice none 0 0) (.slice none 0 0)
    have HX := Lib.hid (And.intro (hXb w.heap.size w (HB.out.trans (p4.h.mono HB.out.size)) (by omega)) hXo)
    have HN := Lib.hid (show ¬ StartOk f a b from fun h => by have := HC.out.2.2.2.1.2 h.2.2.2.1; cases this)
    have HCD := Lib.hid (show codeSt f a b 1 from .inr ⟨rfl, by rcases HC.out.1 with ⟨e, _⟩ | ⟨_, e⟩; exact e; omega, by rcases HC.out.2.1 with ⟨e, _⟩ | ⟨_, e⟩; exact e; omega, HC.out.2.2.1.1 (by first | trivial | rfl)⟩)
    have HR := Lib.hid hX'
    clear hz hXo hXb hXs hXh hX' u5
    go_wp2_with fail
    rw [← HR.out]
    obtain ⟨x0, x1, x2, x3, x4, x5⟩ := own6 HX.out.2
    exact bodyPost_ret (v := .tuple #[.agg #[.slice none 0 0, .slice none 0 0, .int .i64 0, .int .i64 0, .slice none 0 0, .slice none 0 0], .int .i64 1]) (by simp [results, Tryz.results52, go_sem, x0, x1, x2, x3, x4, x5]) rfl (HF.out 1 _ _ HCD.out HN.out rfl HX.out.1)
  | true =>
  go_wp2_with fail
  refine (u5 p4).mono ?_
  rintro _ _ ⟨rfl, ⟨p5, rfl⟩⟩
  clear a0 a1 b0 b1 u5
  obtain ⟨a0, a1⟩ := hX p5
  obtain ⟨b0, b1⟩ := hY p5
  cases lb with
  | false =>
    have hz := HZ.out p5
    obtain ⟨f0, f1, f2, f3, f4, f5⟩ := own_frozen6 hz
    obtain ⟨z0, z1, z2, z3, z4, z5⟩ := own6 hz
    obtain ⟨X, hX', hXo, hXb, hXs, hXh⟩ := own_six hz (.slice none 0 0) (.slice none 0 0) (.int .i64 0) (.int .i64 0) (.slice none 0 0) (.slice none 0 0)
    have HX := Lib.hid (And.intro (hXb w.heap.size w (HB.out.trans (p5.h.mono HB.out.size)) (by omega)) hXo)
    have HN := Lib.hid (show ¬ StartOk f a b from fun h => by have := HC.out.2.2.2.2.2 h.2.2.2.2; cases this)
    have HCD := Lib.hid (show codeSt f a b 1 from .inr ⟨rfl, by rcases HC.out.1 with ⟨e, _⟩ | ⟨_, e⟩; exact e; omega, by rcases HC.out.2.1 with ⟨e, _⟩ | ⟨_, e⟩; exact e; omega, HC.out.2.2.1.1 (by first | trivial | rfl)⟩)
    have HR := Lib.hid hX'
    clear hz hXo hXb hXs hXh hX' hX
    go_wp2_with fail
    rw [← HR.out]
    obtain ⟨x0, x1, x2, x3, x4, x5⟩ := own6 HX.out.2
    exact bodyPost_ret (v := .tuple #[.agg #[.slice none 0 0, .slice none 0 0, .int .i64 0, .int .i64 0, .slice none 0 0, .slice none 0 0], .int .i64 1]) (by simp [results, Tryz.results52, go_sem, x0, x1, x2, x3, x4, x5]) rfl (HF.out 1 _ _ HCD.out HN.out rfl HX.out.1)
  | true =>
  have hst : StartOk f a b := by
    refine ⟨?_, ?_, HC.out.2.2.1.1 trivial, HC.out.2.2.2.1.1 trivial, HC.out.2.2.2.2.1 rfl⟩
    · rcases HC.out.1 with ⟨e, _⟩ | ⟨_, e⟩
      · exact e
      · omega
    · rcases HC.out.2.1 with ⟨e, _⟩ | ⟨_, e⟩
      · exact e
      · omega
  obtain ⟨U, hU⟩ : ∃ U, U = p5.w := ⟨_, rfl⟩
  have hUb : Below V.heap.size V U := hU ▸ p5.h
  have hza := HI.out.1.keep hUb
  have hzb := HI.out.2.1.keep hUb
  have hzf := (HI.out.2.2.past hUb (Nat.le_refl _)).wide hUb.size
  have hzz : Own U (w.heap.size + 2) 63 Mg.nil.cells := hU ▸ HZ.out p5
  rw [← hU] at a0 a1 b0 b1
  have y1 := fun W (h : Bl U W) => Lib.hid (copyUps_any a.uA a.uc a.l W (hza.keep h).ups HOK.out.2.1.l hst.1.2.1.2.2 HOK.out.2.2.1)
  have y2 := fun W (h : Bl U W) => Lib.hid (copyUps_any b.uA b.uc b.l W (hzb.keep h).ups HOK.out.2.2.2.1.l hst.2.1.2.1.2.2 HOK.out.2.2.2.2)
  have y3 := fun W (h : Bl U W) => Lib.hid (listT_times A c f W ((hzf.past h (Nat.le_refl _)).wide h.size) (by have := HOK.out.1.n; omega))
  have HS := Lib.hid (fun W (h : Bm (w.heap.size + 2) U W) => And.intro ((Below.cell (p := ⟨w.heap.size, 1, none⟩) h (by show w.heap.size < _; omega)).trans a1) ((Below.cell (p := ⟨w.heap.size + 1, 1, none⟩) h (by show w.heap.size + 1 < _; omega)).trans b1))
  have hbs : w.heap.size + 2 ≤ U.heap.size := Nat.le_of_lt hzz.inside
  have HT := Lib.hid (fun W (h : Bl U W) => hzz.past h hzz.inside)
  have HU := Lib.hid (And.intro (HB.out.trans (hUb.mono HB.out.size)) (And.intro hst hzz.inside))
  have hself := Bl.refl U
  clear hza hzb hzf hzz hUb hst hX hY a0 b0
  go_upto_region 5 with fail
  rw [← hU]
  clear hU
  go_region_held3 (fun w' => Bm (w.heap.size + 2) U w' ∧ (w'.cell? ⟨w.heap.size, 1, none⟩ = some (.slice a.uA a.l.length a.uc) ∧ w'.cell? ⟨w.heap.size + 1, 1, none⟩ = some (.slice b.uA b.l.length b.uc)))
    ((refine (fun h => And.intro h (HS.out _ h)) ?_; repeat (first | with_reducible exact Bm.of hb3 hbs | with_reducible exact Bm.of hb2 hbs | with_reducible exact Bm.of hb1 hbs | with_reducible exact Bm.of hself hbs | with_reducible refine Bm.set ?_ (Nat.le_refl _) _ _ | with_reducible refine Bm.more ?_ hbs _ | with_reducible refine Bm.drew ?_)))
    (first | (go_at_call 26; refine (y3 _ hb2).out.mono ?_; rintro _ w3 ⟨A3, rfl, v3, n3, b3⟩; have hb3 : Bl U w3 := Bl.call hb2 b3; have v1 := v1.keep b3; have v2 := v2.keep b3; obtain ⟨f0, f1, f2, f3, f4, f5⟩ := own_frozen6 (HT.out _ hb3); obtain ⟨e0, e1, e2, e3, e4, e5⟩ := own6 (HT.out _ hb3)) | (go_at_call 72; have hq := hb1; refine (y2 _ hb1).out.mono ?_; rintro _ w2 ⟨A2, l2, rfl, p2', v2, o2, n2, b2, _⟩; have hb2 : Bl U w2 := Bl.call hb1 b2; have v1 := v1.keep b2) | (go_at_call 72; refine (y1 _ hself.drew).out.mono ?_; rintro _ w1 ⟨A1, l1, rfl, p1', v1, o1, n1, b1', _⟩; have hb1 : Bl U w1 := Bl.call hself.drew b1'))
  obtain ⟨X, hX', hXo, hXb, hXs, hXh⟩ := own_six (HT.out _ hb3) (.slice A1 l1.length l1.length) (.slice A2 l2.length l2.length) (.int .i64 0) (.int .i64 0) (.slice A3 f.length f.length) (.slice none 0 0)
  have s1 : U.heap.size ≤ w1.heap.size := hb1.below.size
  have s2 : U.heap.size ≤ w2.heap.size := hb2.below.size
  have s0 : w.heap.size + 2 < U.heap.size := HU.out.2.2
  have n1' : U.drew.heap.size = U.heap.size := rfl
  have HX := Lib.hid (And.intro (hXb w.heap.size w (HU.out.1.trans (hb3.below.mono HU.out.1.size)) (by omega)) hXo)
  have HQ := Lib.hid (show MgIn X X.heap.size ⟨A1, l1.length, l1, A2, l2.length, l2, 0, 0, A3, f.length, f, none, 0, []⟩ from ⟨ups_other v1 (n1.mono (by omega)) hXs hXh, ups_other v2 (n2.mono (by omega)) hXs hXh, times_other v3 (fun b o e => by have h1 := (n3 b o e).1; omega) hXs hXh, ⟨Lies.nil_, fun u hu => by cases hu⟩⟩)
  have HN := Lib.hid (show MgLo w.heap.size ⟨A1, l1.length, l1, A2, l2.length, l2, 0, 0, A3, f.length, f, none, 0, []⟩ from ⟨n1.mono (by omega), n2.mono (by omega), fun b o e => (by have h1 := (n3 b o e).1; omega), lo_nil _⟩)
  have HK := Lib.hid (show MgOk ⟨A1, l1.length, l1, A2, l2.length, l2, 0, 0, A3, f.length, f, none, 0, []⟩ from ⟨⟨by show l1.length ≤ _; rw [len_p p1']; exact HOK.out.2.1.l.n, o1⟩, ⟨by show l2.length ≤ _; rw [len_p p2']; exact HOK.out.2.2.2.1.l.n, o2⟩, ⟨HOK.out.1.n, Nat.le_refl _, Nat.le_trans HOK.out.1.le HOK.out.1.c_⟩, us_nil, ⟨by show -9223372036854775808 ≤ (0 : Int); omega, by show (0 : Int) ≤ 9223372036854775807; omega⟩, ⟨by show -9223372036854775808 ≤ (0 : Int); omega, by show (0 : Int) ≤ 9223372036854775807; omega⟩⟩)
  have HM := Lib.hid (And.intro p1' p2')
  have HR := Lib.hid hX'
  clear hX' hXo hXb hXs hXh e0 e1 e2 e3 e4 e5 v1 v2 v3 n1 n2 n3 o1 o2 p1' p2' s1 s2 s0 n1' y1 y2 y3 hq a1 b1
  go_wp2_with fail
  rw [← HR.out]
  obtain ⟨x0, x1, x2, x3, x4, x5⟩ := own6 HX.out.2
  exact bodyPost_ret (v := .tuple #[.agg #[.slice A1 l1.length l1.length, .slice A2 l2.length l2.length, .int .i64 0, .int .i64 0, .slice A3 f.length f.length, .slice none 0 0], .int .i64 0]) (by simp [results, Tryz.results52, go_sem, x0, x1, x2, x3, x4, x5]) rfl (HP.out ⟨A1, l1.length, l1, A2, l2.length, l2, 0, 0, A3, f.length, f, none, 0, []⟩ _ _ HU.out.2.1 rfl ⟨HM.out.1, HM.out.2, rfl, rfl, rfl, rfl⟩ HQ.out HK.out HN.out HX.out.1 ⟨rfl, rfl⟩)
end Go.Proofs.YtenjlhlighkenaaGreat
namespace Go.Proofs.YtenjlhlighkenaaGreat
open Go Go.RowKit

theorem cls_pow {n k : Nat} (h : n < 2 ^ k) : clsN n ≤ k := by
  unfold clsN
  split
  · omega
  · rename_i h0
    have := (Nat.log2_lt h0).2 h
    omega
theorem ofm_nil (S : Nat → Prop) : OfM S Mg.nil := ⟨⟨fun hp => absurd hp (by decide), fun u hu => (by cases hu)⟩, ⟨fun hp => absurd hp (by decide), fun u hu => (by cases hu)⟩, fun hp => absurd hp (by decide), ⟨fun hp => absurd hp (by decide), fun u hu => (by cases hu)⟩⟩
theorem ofb_nil (S : Nat → Prop) : OfB S Bt.nil := ⟨fun hp => absurd hp (by decide), ⟨fun hp => absurd hp (by decide), fun u hu => (by cases hu)⟩⟩
theorem fall_len : ∀ {L : List Lv} {c : Int}, L.Pairwise (fun x y => y.cls < x.cls) → (∀ l ∈ L, 1 ≤ l.cls) → (∀ l ∈ L, l.cls ≤ c) → 0 ≤ c → (L.length : Int) ≤ c
  | [], c, _, _, _, h => h
  | x :: L, c, h, hp, hc, _ => by
    have h1 := List.pairwise_cons.1 h
    have h2 := hp x List.mem_cons_self
    have h3 := hc x List.mem_cons_self
    have := fall_len (c := x.cls - 1) h1.2 (fun l hl => hp l (List.mem_cons_of_mem _ hl)) (fun l hl => by have := h1.1 l hl; omega) (by omega)
    rw [List.length_cons]
    omega
theorem SpGood.cls_ {f : List Tm} {L : List Lv} (h : SpGood f L) (ok : ∀ l ∈ L, LvOk l) : ∀ l ∈ L, l.cls ≤ 41 := fun l hl => by
  have g := h.each l hl
  have o := ok l hl
  cases hb : l.busy
  · have := (g.idle hb).2.2.1
    have := cls_pow (n := l.b.l.length) (k := 41) (by have := o.b.l.n; omega)
    omega
  · have := (g.busy hb).2.2.2.1
    have := cls_pow (n := l.m.a.length) (k := 41) (by have := o.m.a.n; omega)
    omega
theorem SpGood.few {f : List Tm} {L : List Lv} (h : SpGood f L) (ok : ∀ l ∈ L, LvOk l) : L.length ≤ 41 := by
  have := fall_len h.fall h.pos (h.cls_ ok) (by decide)
  omega
theorem wt_le {L : List Lv} {l : Lv} (h : l ∈ L) : wtL l ≤ wtS L := by
  unfold wtS
  induction L with
  | nil => cases h
  | cons x L ih =>
    rw [List.map_cons, List.sum_cons]
    rcases List.mem_cons.1 h with rfl | h
    · exact Nat.le_add_right _ _
    · have := ih h; omega
def AllFr (f : List Tm) (L : List Lv) : Prop := ∀ l ∈ L, l.busy = true → l.m.i = 0 ∧ l.m.j = 0 ∧ l.m.o = [] ∧ l.m.f = f
def FailS (L : List Lv) : Prop := busyN L ≠ 0 ∧ (busyN L ≤ 1 → ∃ l ∈ L, l.busy = true ∧ consE [advL l.m.f (partsM l.m)] = 10)
def HasB (L : List Lv) (n : Nat) : Prop := ∃ l ∈ L, (l.busy = false ∧ l.b.l.length = n) ∨ (l.busy = true ∧ (l.m.a.length = n ∨ l.m.b.length = n))
structure HasTo (f : List Tm) (L L' : List Lv) (q : Nat) : Prop where
  new : busyN L ≤ 1 → q ≠ 0 → HasB L' q
  old : busyN L = 0 → ∀ n, HasB L n → HasB L' n
  fr : AllFr f L → AllFr f L'
theorem HasTo.refl (f : List Tm) (L : List Lv) : HasTo f L L 0 := ⟨fun _ h => absurd rfl h, fun _ _ h => h, fun h => h⟩
theorem has_new (f : List Tm) (L : List Lv) (i : Nat) (b : Bt) (c : Int) : HasTo f L (L.take i ++ ⟨c, false, b, Mg.nil⟩ :: L.drop i) b.l.length := ⟨fun _ _ => ⟨_, List.mem_append_right _ List.mem_cons_self, .inl ⟨rfl, rfl⟩⟩, fun _ n ⟨l, hl, h⟩ => ⟨l, by
  rw [← List.take_append_drop i L] at hl
  rcases List.mem_append.1 hl with hl | hl
  · exact List.mem_append_left _ hl
  · exact List.mem_append_right _ (List.mem_cons_of_mem _ hl), h⟩, fun h l hl hb => by
  rcases List.mem_append.1 hl with hl | hl
  · exact h l (List.mem_of_mem_take hl) hb
  · rcases List.mem_cons.1 hl with rfl | hl
    · cases hb
    · exact h l (List.mem_of_mem_drop hl) hb⟩
theorem has_start {f : List Tm} {L : List Lv} {p : Nat} {l : Lv} {m : Mg} {q : Nat} (hl : L[p]? = some l) (hidle : l.busy = false) (ha : m.a.length = l.b.l.length) (hb : m.b.length = q) (h0 : m.i = 0) (h1 : m.j = 0) (h2 : m.o = []) (h3 : m.f = f) : HasTo f L (L.set p ⟨l.cls, true, Bt.nil, m⟩) q := by
  have hlt := (List.getElem?_eq_some_iff.1 hl).1
  have hmem : (⟨l.cls, true, Bt.nil, m⟩ : Lv) ∈ L.set p ⟨l.cls, true, Bt.nil, m⟩ := List.mem_of_getElem? (i := p) (by rw [List.getElem?_set_self hlt])
  refine ⟨fun _ _ => ⟨_, hmem, .inr ⟨rfl, .inr hb⟩⟩, fun _ n ⟨x, hx, h⟩ => ?_, fun h x hx hb => by
    rcases List.mem_or_eq_of_mem_set hx with hx | rfl
    · exact h x hx hb
    · exact ⟨h0, h1, h2, h3⟩⟩
  obtain ⟨i, hi⟩ := List.getElem?_of_mem hx
  by_cases e : i = p
  · subst e
    rw [hl] at hi
    injection hi with hi
    subst hi
    rcases h with ⟨_, h⟩ | ⟨h, _⟩
    · exact ⟨_, hmem, .inr ⟨rfl, .inl (ha.trans h)⟩⟩
    · rw [hidle] at h; cases h
  · exact ⟨x, List.mem_of_getElem? (i := i) (by rw [List.getElem?_set_ne (Ne.symm e)]; exact hi), h⟩
structure PutOut (base g : Nat) (s : Sp) (X : List Up) (n wt : Nat) (w w' : World) (s' : Sp) : Prop where
  wk : Wk w' base g s'
  h1 : s'.sA = s.sA
  h2 : s'.sc = s.sc
  h3 : s'.f = s.f
  lA : blkS s'.lA = blkS s.lA ∨ ∃ q, blkS s'.lA = some q ∧ w.heap.size ≤ q
  put : PutTo s.f s.L s'.L X n wt
  has : HasTo s.f s.L s'.L X.length
def PutSays (base g : Nat) (s : Sp) (b : Bt) (w : World) (x : Ending) (w' : World) : Prop :=
  ∃ E : Int, x = .returned (.int .i64 E) ∧ KeptK w w' (SpS g s.lA) ∧ (E = 0 ∧ (∃ s', PutOut base g s b.l 1 b.l.length w w' s') ∨ E = 10 ∧ FailS s.L)
structure PutIn (base g : Nat) (s : Sp) (b : Bt) (w : World) : Prop where
  wk : Wk w base g s
  good : SpGood s.f s.L
  bin : BtIn w w.heap.size b
  bok : BtOk b
  boff : OfB (SpS g s.lA) b
  blo : BtLo base b
  right : BatchOk b.f b.l
  later : LaterF s.f b.f
  wt : wtS s.L + b.l.length ≤ 274877906944
theorem PutIn.past {base g : Nat} {s : Sp} {b : Bt} {w w' : World} (h : PutIn base g s b w) (hb : Below w.heap.size w w') : PutIn base g s b w' := ⟨h.wk.past hb, h.good, h.bin.keep hb, h.bok, h.boff, h.blo, h.right, h.later, h.wt⟩
theorem PutSays.first {base g : Nat} {s : Sp} {b : Bt} {w w1 w2 : World} {x : Ending} (hb : Below w.heap.size w w1) (h : PutSays base g s b w1 x w2) : PutSays base g s b w x w2 := by
  obtain ⟨E, h1, h2, h3⟩ := h
  refine ⟨E, h1, (KeptK.of_below hb (Nat.le_refl _) (SpS g s.lA)).trans h2 (fun _ _ e => e), ?_⟩
  rcases h3 with ⟨h0, s', k⟩ | h0
  · refine .inl ⟨h0, s', k.wk, k.h1, k.h2, k.h3, ?_, k.put, k.has⟩
    rcases k.lA with e | ⟨q, e, hq⟩
    · exact .inl e
    · exact .inr ⟨q, e, Nat.le_trans hb.size hq⟩
  · exact .inr h0
theorem put_level {base g i c' : Nat} {s : Sp} {b : Bt} {c : Int} {W V W2 : World} {A' : Option Addr} (h : PutIn base g s b W) (hi : i ≤ s.L.length) (hc : (clsN b.l.length : Int) = c) (hb1 : ∀ l ∈ s.L.take i, c < l.cls) (hb2 : ∀ l ∈ s.L.drop i, l.cls < c) (h0 : b.l.length ≠ 0) (hV : Below W.heap.size W V)
    (hr : W2.ownsRow base 65 10 (.slice A' (s.L.length + 1) c') (s.L.length + 1) ((s.L.flatMap Lv.cells).take (i * 10) ++ (⟨c, false, b, Mg.nil⟩ : Lv).cells ++ (s.L.flatMap Lv.cells).drop (i * 10))) (hg : V.grownBy W2 (Value.slice s.lA s.L.length s.lc).ownBlock)
    (hA : (Value.slice A' (s.L.length + 1) c').ownBlock = (Value.slice s.lA s.L.length s.lc).ownBlock ∨ (Value.slice A' (s.L.length + 1) c').ownBlock = some V.heap.size) :
    KeptK W (W2.setCell ⟨g, 1, none⟩ (.slice A' (s.L.length + 1) c')) (SpS g s.lA) ∧ ∃ s', PutOut base g s b.l 1 b.l.length W (W2.setCell ⟨g, 1, none⟩ (.slice A' (s.L.length + 1) c')) s' ∧ busyN s'.L = busyN s.L := by
  have hcn : clsN b.l.length ≤ 41 := cls_pow (by have := h.bok.l.n; omega)
  have h1 : 1 ≤ clsN b.l.length := by have := (cls_zero (n := b.l.length)).1; omega
  have hin : LvIn W W.heap.size ⟨c, false, b, Mg.nil⟩ := ⟨h.bin, mg_nil_in _ _⟩
  have hof : OfL (SpS g s.lA) ⟨c, false, b, Mg.nil⟩ := ⟨h.boff, ofm_nil _⟩
  have hok : LvOk ⟨c, false, b, Mg.nil⟩ := ⟨by show _ ≤ c ∧ c ≤ _; omega, h.bok, mg_nil_ok, mc_nil⟩
  have hfew := h.good.few h.wk.ok.each_
  obtain ⟨k1, k2, k3⟩ := h.wk.insert hin hof hok ⟨h.blo, mg_nil_lo _⟩ (by omega) hi hV hr hg hA
  refine ⟨k2, _, ⟨k1, rfl, rfl, rfl, k3, put_new h.good h.right h.later hc (by omega) hb1 hb2, has_new s.f s.L i b c⟩, ?_⟩
  have e : busyN s.L = busyN (s.L.take i) + busyN (s.L.drop i) := by rw [← busyN_app, List.take_append_drop]
  show busyN (s.L.take i ++ ⟨c, false, b, Mg.nil⟩ :: s.L.drop i) = _
  rw [busyN_app, busyN_cons, e]
  show _ + ((if false = true then 1 else 0) + _) = _
  rw [if_neg (by decide)]
  omega
structure NewM (f : List Tm) (a b : Bt) (m : Mg) : Prop where
  a_ : m.a.map Up.p = a.l.map Up.p
  b_ : m.b.map Up.p = b.l.map Up.p
  i_ : m.i = 0
  j_ : m.j = 0
  f_ : m.f = f
  o_ : m.o = []
theorem start_good (A : Option Addr) (c : Nat) (f : List Tm) (a b : Bt) (w : World) (hf : Times w w.heap.size A f) (hfo : TsOk f c) (ha : BtIn w w.heap.size a) (oa : BtOk a) (na : a.l.length ≤ 274877906944) (hb : BtIn w w.heap.size b) (ob : BtOk b) (nb : b.l.length ≤ 274877906944) (hs : StartOk f a b) :
    Calls Tryz.prog 52 #[.slice A f.length c, a.val, b.val] w fun x w' => ∃ m : Mg, x = .returned (.tuple #[m.val, .int .i64 0]) ∧ NewM f a b m ∧ MgIn w' w'.heap.size m ∧ MgOk m ∧ MgLo w.heap.size m ∧ Below w.heap.size w w' ∧ McOk m :=
  (start_any2C A c f a b w hf hfo ha oa na hb ob nb).mono fun x w' ⟨m, E, h1, h2, h3, h4, h5, h6, h7⟩ => by
    rcases h2 with ⟨rfl, _, k1, k2, k3, k4, k5, k6⟩ | ⟨_, _, k⟩
    · exact ⟨m, h1, ⟨k1, k2, k3, k4, k5, k6⟩, h3, h4, h5, h6, mc_of h4 h7⟩
    · exact absurd hs k
theorem put_merge {base g p G : Nat} {s : Sp} {b : Bt} {l : Lv} {m : Mg} {W : World} (h : PutIn base g s b W) (hl : s.L[p]? = some l) (hidle : l.busy = false) (hcl : l.cls = (clsN b.l.length : Int)) (hn : NewM s.f l.b b m) (im : MgIn W W.heap.size m) (om : MgOk m) (hof : OfM (SpS g s.lA) m) (lom : MgLo base m) (cm : McOk m) (hA : s.lA = some ⟨G, 0, none⟩) :
    KeptK W (setsAt W G (p * 10) (⟨l.cls, true, Bt.nil, m⟩ : Lv).cells) (SpS g s.lA) ∧ ∃ s', PutOut base g s b.l 1 b.l.length W (setsAt W G (p * 10) (⟨l.cls, true, Bt.nil, m⟩ : Lv).cells) s' := by
  have hlt := (List.getElem?_eq_some_iff.1 hl).1
  obtain ⟨k1, k2⟩ := h.wk.level (i := p) (l := ⟨l.cls, true, Bt.nil, m⟩) ⟨bt_nil_in _ _, im⟩ ⟨ofb_nil _, hof⟩ ⟨(h.wk.ok.each_ l (List.mem_of_getElem? hl)).c, bt_nil_ok, om, cm⟩ ⟨bt_nil_lo _, lom⟩ hlt hA
  exact ⟨k2, _, k1, rfl, rfl, rfl, .inl rfl, put_start h.good hl hidle h.right h.later hcl.symm hn.a_ hn.b_ hn.i_ hn.j_ hn.f_ hn.o_, has_start hl hidle (len_p hn.a_) (len_p hn.b_) hn.i_ hn.j_ hn.o_ hn.f_⟩
theorem PutOut.first {base g n wt : Nat} {s s' : Sp} {X : List Up} {w w1 w2 : World} (hb : Below w.heap.size w w1) (k : PutOut base g s X n wt w1 w2 s') : PutOut base g s X n wt w w2 s' := by
  refine ⟨k.wk, k.h1, k.h2, k.h3, ?_, k.put, k.has⟩
  rcases k.lA with e | ⟨q, e, hq⟩
  · exact .inl e
  · exact .inr ⟨q, e, Nat.le_trans hb.size hq⟩
theorem lvbox1 (w : World) (b : Bt) (c : Int) : Below w.heap.size w (w.alloc (.cells #[.int .i64 c, .bool false, .slice b.sA b.f.length b.sc, .slice b.uA b.l.length b.uc, .slice none 0 0, .slice none 0 0, .int .i64 0, .int .i64 0, .slice none 0 0, .slice none 0 0] 65)).drew ∧ Own (w.alloc (.cells #[.int .i64 c, .bool false, .slice b.sA b.f.length b.sc, .slice b.uA b.l.length b.uc, .slice none 0 0, .slice none 0 0, .int .i64 0, .int .i64 0, .slice none 0 0, .slice none 0 0] 65)).drew w.heap.size 65 (⟨c, false, b, Mg.nil⟩ : Lv).cells :=
  ⟨Below.drew ((Below.refl _ _).alloc (Nat.le_refl _) _), Own.made w _ _⟩
def PutNew (base g : Nat) (s : Sp) (b : Bt) (w : World) (x : Ending) (w' : World) : Prop :=
  x = .returned (.int .i64 0) ∧ KeptK w w' (SpS g s.lA) ∧ ∃ s', PutOut base g s b.l 1 b.l.length w w' s' ∧ busyN s'.L = busyN s.L
theorem PutNew.says {base g : Nat} {s : Sp} {b : Bt} {w w' : World} {x : Ending} (h : PutNew base g s b w x w') : PutSays base g s b w x w' := by
  obtain ⟨h1, h2, s', h3, _⟩ := h
  exact ⟨0, h1, h2, .inl ⟨rfl, s', h3⟩⟩
end Go.Proofs.YtenjlhlighkenaaGreat
namespace Go.Proofs.YtenjlhlighkenaaGreat
open Go Go.RowKit

def leftL (l : Lv) : Nat := if l.busy = true then leftM l.m else 0
def leftS (L : List Lv) : Nat := (L.map leftL).sum
def partsD (D : List Bt) : List Up := D.flatMap fun b => b.l
theorem leftS_app (L M : List Lv) : leftS (L ++ M) = leftS L + leftS M := by unfold leftS; rw [List.map_append, List.sum_append]
theorem leftS_cons (l : Lv) (L : List Lv) : leftS (l :: L) = leftL l + leftS L := by unfold leftS; rw [List.map_cons, List.sum_cons]
theorem partsD_app (D E : List Bt) : partsD (D ++ E) = partsD D ++ partsD E := List.flatMap_append ..
theorem partsD_cons (b : Bt) (D : List Bt) : partsD (b :: D) = b.l ++ partsD D := List.flatMap_cons ..
theorem partsD_one (b : Bt) : partsD [b] = b.l := by rw [partsD_cons]; exact List.append_nil _
theorem left_wt (L : List Lv) : leftS L ≤ wtS L := by
  induction L with
  | nil => exact Nat.le_refl _
  | cons l L ih =>
    rw [leftS_cons, wtS_cons]
    have : leftL l ≤ wtL l := by
      unfold leftL wtL
      split
      · have : leftM l.m ≤ l.m.a.length + l.m.b.length := by unfold leftM; omega
        omega
      · omega
    omega
structure WkSt (f : List Tm) (L : List Lv) (fuel : Int) (p : Nat) (L1 : List Lv) (D : List Bt) (c : Nat) : Prop where
  good : SpGood f L1
  le : p ≤ L.length
  pre : L1.take p = L.take p
  eq : EqS f (partsS L1 ++ partsD D) (partsS L)
  cnt : cntS L1 + 2 * D.length = cntS L
  wt : wtS L1 + (partsD D).length ≤ wtS L
  each : ∀ b ∈ D, BatchOk b.f b.l ∧ LaterF f b.f
  busy : busyN L1 + D.length = busyN L
  cost : busyN L ≤ busyN (L.take p) + c
  left : c + leftS L1 ≤ leftS L
  few : L1.length ≤ L.length
  fin : (leftS L : Int) < fuel → busyN L1 = busyN (L.take p)
theorem WkSt.start {f : List Tm} {L : List Lv} (fuel : Int) (h : SpGood f L) : WkSt f L fuel L.length L [] 0 :=
  ⟨h, Nat.le_refl _, rfl, by show EqS f (partsS L ++ []) (partsS L); rw [List.append_nil]; exact EqS.refl h.chk, rfl, Nat.le_refl _, fun b hb => (by cases hb), rfl, by rw [List.take_length]; exact Nat.le_refl _, by omega, Nat.le_refl _, fun _ => by rw [List.take_length]⟩
section
variable {f : List Tm} {L L1 : List Lv} {fuel : Int} {p c : Nat} {D : List Bt} {l : Lv}
theorem takeW_one (h : L[p]? = some l) : L.take (p + 1) = L.take p ++ [l] := by rw [List.take_add_one, h]; rfl
theorem pre_less (h : L1.take (p + 1) = L.take (p + 1)) : L1.take p = L.take p := by
  have := congrArg (List.take p) h
  rwa [List.take_take, List.take_take, Nat.min_eq_left (by omega)] at this
theorem pre_at (h : L1.take (p + 1) = L.take (p + 1)) (hl : L[p]? = some l) : L1[p]? = some l := by
  have h1 : (L1.take (p + 1))[p]? = some l := by rw [h, List.getElem?_take_of_lt (by omega)]; exact hl
  rwa [List.getElem?_take_of_lt (by omega)] at h1
theorem busyN_take (hl : L[p]? = some l) : busyN (L.take (p + 1)) = busyN (L.take p) + (if l.busy = true then 1 else 0) := by
  rw [takeW_one hl, busyN_app, busyN_cons]
  show _ + (_ + 0) = _
  omega
theorem WkSt.skip (h : WkSt f L fuel (p + 1) L1 D c) (hl : L[p]? = some l) (hb : l.busy = false) : WkSt f L fuel p L1 D c := by
  have e : busyN (L.take (p + 1)) = busyN (L.take p) := by
    have := busyN_take hl
    rw [if_neg (by rw [hb]; decide)] at this
    omega
  exact ⟨h.good, by have := h.le; omega, pre_less h.pre, h.eq, h.cnt, h.wt, h.each, h.busy, by rw [← e]; exact h.cost, h.left, h.few, fun hf => by rw [← e]; exact h.fin hf⟩
theorem partsD_chk (h : ∀ b ∈ D, BatchOk b.f b.l ∧ LaterF f b.f) : chkUs (partsD D) = 0 := chkUs_all.2 fun u hu => by
  obtain ⟨b, hb, hu⟩ := List.mem_flatMap.1 hu
  exact chkUs_all.1 (h b hb).1.2.1.2.2 u hu
theorem WkSt.took (h : WkSt f L fuel (p + 1) L1 D c) (hl : L[p]? = some l) (hb : l.busy = true) {e : Bt} {k : Nat} (T : TookOut f L1 p e) (hk : k = leftM l.m) (hk1 : 0 < k) : WkSt f L fuel p (L1.eraseIdx p) (D ++ [e]) (c + k) := by
  have he := busyN_take hl
  rw [if_pos hb] at he
  have hl1 := pre_at h.pre hl
  have hL := split_at' hl1
  have her : L1.eraseIdx p = L1.take p ++ L1.drop (p + 1) := List.eraseIdx_eq_take_drop_succ ..
  have hleft : leftS (L1.eraseIdx p) + leftM l.m = leftS L1 := by
    have h1 : leftS L1 = leftS (L1.take p) + (leftM l.m + leftS (L1.drop (p + 1))) := by
      conv => lhs; rw [hL]
      rw [leftS_app, leftS_cons]
      unfold leftL
      rw [if_pos hb]
    rw [her, leftS_app, h1]
    omega
  have hT1 := T.cnt
  have hT2 := T.wt
  have hT3 := T.busy
  have h1 := h.cnt
  have h2 := h.wt
  have h3 := h.busy
  have h4 := h.cost
  have h5 := h.left
  have hlt := (List.getElem?_eq_some_iff.1 hl1).1
  have ck := partsD_chk h.each
  refine ⟨T.good, by have := h.le; omega, ?_, ?_, ?_, ?_, ?_, ?_, ?_, by omega, by have := h.few; rw [List.length_eraseIdx]; split <;> omega, ?_⟩
  · rw [her, List.take_append_of_le_length (by rw [List.length_take]; omega), List.take_take, Nat.min_self]
    exact pre_less h.pre
  · rw [partsD_app, partsD_one]
    refine EqS.trans (Y := (partsS (L1.eraseIdx p) ++ e.l) ++ partsD D) ?_ ((EqS.app T.eq (EqS.refl ck)).trans h.eq)
    refine EqS.perm (chkUs_join T.good.chk (chkUs_join ck T.ok.2.1.2.2)) ?_
    rw [List.append_assoc]
    exact List.Perm.append_left _ List.perm_append_comm
  · rw [List.length_append]; show _ + 2 * (_ + 1) = _; omega
  · rw [partsD_app, partsD_one, List.length_append]; omega
  · intro b hb
    rcases List.mem_append.1 hb with hb | hb
    · exact h.each b hb
    · obtain rfl := List.mem_singleton.1 hb
      exact ⟨T.ok, T.later⟩
  · rw [List.length_append]; show _ + (_ + 1) = _; omega
  · omega
  · intro hf
    have := h.fin hf
    omega
theorem WkSt.went (h : WkSt f L fuel (p + 1) L1 D c) (hl : L[p]? = some l) (hb : l.busy = true) {m' : Mg} {k : Nat} (pa : m'.a.map Up.p = l.m.a.map Up.p) (pb : m'.b.map Up.p = l.m.b.map Up.p) (pf : m'.f = l.m.f) (mok : MOk m') (hk : k + leftM m' = leftM l.m) (hk1 : 0 < k) (hlm : 0 < leftM m')
    (hst : leftM m' = 0 ∨ fuel - (c : Int) ≤ (k : Int)) (heq : EqS l.m.f (partsM m') (partsM l.m)) (hlen : (partsM m').length ≤ (partsM l.m).length) : WkSt f L fuel p (L1.set p ⟨l.cls, true, l.b, m'⟩) D (c + k) := by
  have he := busyN_take hl
  rw [if_pos hb] at he
  have hl1 := pre_at h.pre hl
  have hL := split_at' hl1
  have hlt := (List.getElem?_eq_some_iff.1 hl1).1
  have hset : L1.set p ⟨l.cls, true, l.b, m'⟩ = L1.take p ++ ⟨l.cls, true, l.b, m'⟩ :: L1.drop (p + 1) := List.set_eq_take_append_cons_drop .. |>.trans (if_pos hlt)
  have hm := List.mem_of_getElem? hl1
  have gi := (h.good.each l hm).busy hb
  have hla := len_p pa
  have hlb := len_p pb
  have hgl : LvGood f ⟨l.cls, true, l.b, m'⟩ := ⟨fun _ => ⟨gi.1, gi.2.1, mok, by rw [hla]; exact gi.2.2.2.1, by rw [hlb]; exact gi.2.2.2.2.1, by rw [pf]; exact gi.2.2.2.2.2.1, hlm⟩, fun h => (by cases h)⟩
  have hfl := h.good.fall
  rw [hL] at hfl
  have hfl := List.pairwise_append.1 hfl
  have hfc := List.pairwise_cons.1 hfl.2.1
  have hmem : ∀ x ∈ L1.take p ++ (⟨l.cls, true, l.b, m'⟩ : Lv) :: L1.drop (p + 1), x = ⟨l.cls, true, l.b, m'⟩ ∨ x ∈ L1 := fun x hx => by
    rcases List.mem_append.1 hx with hx | hx
    · exact .inr (List.mem_of_mem_take hx)
    · rcases List.mem_cons.1 hx with hx | hx
      · exact .inl hx
      · exact .inr (List.mem_of_mem_drop hx)
  have hg : SpGood f (L1.take p ++ ⟨l.cls, true, l.b, m'⟩ :: L1.drop (p + 1)) := by
    refine ⟨h.good.front, fun x hx => ?_, ?_, fun x hx => ?_⟩
    · rcases hmem x hx with rfl | hx
      · exact h.good.pos l hm
      · exact h.good.pos x hx
    · refine List.pairwise_append.2 ⟨hfl.1, List.pairwise_cons.2 ⟨hfc.1, hfc.2⟩, fun x hx y hy => ?_⟩
      rcases List.mem_cons.1 hy with rfl | hy
      · exact hfl.2.2 x hx l List.mem_cons_self
      · exact hfl.2.2 x hx y (List.mem_cons_of_mem _ hy)
    · rcases hmem x hx with rfl | hx
      · exact hgl
      · exact h.good.each x hx
  have cks := h.good.chk
  have eL : partsS L1 = partsS (L1.take p) ++ (partsM l.m ++ partsS (L1.drop (p + 1))) := by
    conv => lhs; rw [hL]
    rw [partsS_app, partsS_cons]
    unfold partsL
    rw [if_pos hb]
  have eM : partsS (L1.take p ++ ⟨l.cls, true, l.b, m'⟩ :: L1.drop (p + 1)) = partsS (L1.take p) ++ (partsM m' ++ partsS (L1.drop (p + 1))) := by
    rw [partsS_app, partsS_cons]
    rfl
  have e1 : EqS f (partsM m') (partsM l.m) := EqS.later heq gi.2.2.1.front.right gi.2.2.2.2.2.1
  rw [eL] at cks
  have c1 := chkUs_parts cks
  have c2 := chkUs_parts c1.2
  have hse : EqS f (partsS (L1.take p ++ ⟨l.cls, true, l.b, m'⟩ :: L1.drop (p + 1))) (partsS L1) := by
    rw [eM, eL]
    exact EqS.app (EqS.refl c1.1) (EqS.app e1 (EqS.refl c2.2))
  have h1 := h.cnt
  have h2 := h.wt
  have h3 := h.busy
  have h4 := h.cost
  have h5 := h.left
  have n1 : cntS (L1.take p ++ ⟨l.cls, true, l.b, m'⟩ :: L1.drop (p + 1)) = cntS L1 := by
    conv => rhs; rw [hL]
    rw [cntS_app, cntS_cons, cntS_app, cntS_cons]
    unfold cntL
    rw [if_pos rfl, if_pos hb]
  have n2 : busyN (L1.take p ++ ⟨l.cls, true, l.b, m'⟩ :: L1.drop (p + 1)) = busyN L1 := by
    conv => rhs; rw [hL]
    rw [busyN_app, busyN_cons, busyN_app, busyN_cons, if_pos rfl, if_pos hb]
  have n3 : wtS (L1.take p ++ ⟨l.cls, true, l.b, m'⟩ :: L1.drop (p + 1)) ≤ wtS L1 := by
    conv => rhs; rw [hL]
    rw [wtS_app, wtS_cons, wtS_app, wtS_cons]
    have : wtL ⟨l.cls, true, l.b, m'⟩ ≤ wtL l := by
      unfold wtL
      rw [if_pos rfl, if_pos hb]
      show max (m'.a.length + m'.b.length) (partsM m').length ≤ _
      rw [hla, hlb]
      omega
    omega
  have n4 : leftS (L1.take p ++ ⟨l.cls, true, l.b, m'⟩ :: L1.drop (p + 1)) + k = leftS L1 := by
    conv => rhs; rw [hL]
    rw [leftS_app, leftS_cons, leftS_app, leftS_cons]
    unfold leftL
    rw [if_pos rfl, if_pos hb]
    show _ + (leftM m' + _) + _ = _
    omega
  rw [hset]
  refine ⟨hg, by have := h.le; omega, ?_, (EqS.app hse (EqS.refl (partsD_chk h.each))).trans h.eq, by omega, by omega, h.each, by omega, by omega, by omega, by have := h.few; rw [← hset, List.length_set]; exact this, fun hf => ?_⟩
  · rw [List.take_append_of_le_length (by rw [List.length_take]; omega), List.take_take, Nat.min_self]
    exact pre_less h.pre
  · rcases hst with h0 | h0
    · omega
    · omega
end
structure PtSt (f : List Tm) (L : List Lv) (D : List Bt) (j : Nat) (L1 L2 : List Lv) : Prop where
  good : SpGood f L2
  eq : EqS f (partsS L2 ++ partsD (D.drop j)) (partsS L)
  cnt : cntS L2 ≤ cntS L1 + j
  wt : wtS L2 + (partsD (D.drop j)).length ≤ wtS L
  none_ : j = 0 → L2 = L1
theorem WkSt.puts {f : List Tm} {L L1 : List Lv} {fuel : Int} {p c : Nat} {D : List Bt} (h : WkSt f L fuel p L1 D c) : PtSt f L D 0 L1 L1 := ⟨h.good, h.eq, Nat.le_refl _, h.wt, fun _ => rfl⟩
theorem PtSt.next {f : List Tm} {L L1 L2 L3 : List Lv} {D : List Bt} {j : Nat} {b : Bt} (h : PtSt f L D j L1 L2) (hb : D[j]? = some b) (hp : PutTo f L2 L3 b.l 1 b.l.length) : PtSt f L D (j + 1) L1 L3 := by
  have hlt := (List.getElem?_eq_some_iff.1 hb)
  have hd : D.drop j = b :: D.drop (j + 1) := by rw [← hlt.2]; exact List.drop_eq_getElem_cons hlt.1
  have he := h.eq
  have hw := h.wt
  rw [hd, partsD_cons] at he hw
  rw [List.length_append] at hw
  have ck := (chkUs_parts (chkUs_parts he.l).2).2
  have h1 := hp.cnt
  have h2 := hp.wt
  have h3 := h.cnt
  refine ⟨hp.good, (EqS.app hp.eq (EqS.refl ck)).trans (by rw [List.append_assoc]; exact he), by omega, by omega, fun h0 => by omega⟩
structure WkFin (f : List Tm) (L : List Lv) (fuel : Int) (L2 : List Lv) (c : Nat) : Prop where
  good : SpGood f L2
  eq : EqS f (partsS L2) (partsS L)
  cnt : cntS L2 ≤ cntS L
  wt : wtS L2 ≤ wtS L
  left : c ≤ wtS L
  full : (wtS L : Int) < fuel → cntS L2 + busyN L ≤ cntS L ∧ (busyN L2 ≠ 0 → 0 < c ∧ busyN L ≠ 0)
theorem WkSt.done {f : List Tm} {L L1 L2 : List Lv} {fuel : Int} {p c : Nat} {D : List Bt} (h : WkSt f L fuel p L1 D c) (hp : p = 0 ∨ fuel ≤ (c : Int)) (k : PtSt f L D D.length L1 L2) : WkFin f L fuel L2 c := by
  have hd : D.drop D.length = [] := List.drop_length
  have he := k.eq
  have hw := k.wt
  rw [hd] at he hw
  have he : EqS f (partsS L2 ++ []) (partsS L) := he
  rw [List.append_nil] at he
  have h1 := h.cnt
  have h2 := k.cnt
  have h5 := h.left
  have hlw := left_wt L
  refine ⟨k.good, he, by omega, by omega, by omega, fun hf => ?_⟩
  have h3 := h.fin (by omega)
  have h4 := h.busy
  rcases hp with rfl | hp
  · rw [List.take_zero] at h3
    have h3 : busyN L1 = 0 := h3
    refine ⟨by omega, fun hb => ?_⟩
    have h6 := h.cost
    rw [List.take_zero] at h6
    have h6 : busyN L ≤ 0 + c := h6
    by_cases h0 : D.length = 0
    · have := k.none_ h0
      rw [this, h3] at hb
      exact absurd rfl hb
    · exact ⟨by omega, by omega⟩
  · omega
end Go.Proofs.YtenjlhlighkenaaGreat
