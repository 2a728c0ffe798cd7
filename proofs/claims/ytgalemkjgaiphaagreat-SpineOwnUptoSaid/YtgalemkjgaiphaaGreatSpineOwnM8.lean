/- Part 8 of the texts on which SpineOwn rests: facts and contracts. -/
import Derived.Test.YtgalemkjgaiphaaGreatSpineOwnM7
namespace Go.Proofs.YtgalemkjgaiphaaGreat
open Go Go.RowKit

theorem badvance_n (A : Option Addr) (c n : Nat) (l : List Up) (A' : Option Addr) (c' : Nat) (f : List Tm) (w : World) (hnl : l.length = n) (hl : Ups w w.heap.size A l) (hn : l.length ≤ 1099511627776) (hf : Times w w.heap.size A' f) (hfo : TsOk f c') :
    Calls Tryz.prog 47 #[.slice A n c, .slice A' f.length c'] w fun x w' => ∃ A2, x = .returned (.slice A2 n n) ∧ Ups w' w'.heap.size A2 (advL f l) ∧ Below w.heap.size w w' := by
  subst hnl
  exact (badvance_any A c l A' c' f w hl hn hf hfo).mono fun x w' ⟨A2, h1, h2, _, h3⟩ => ⟨A2, h1, h2, h3⟩
theorem cons_n (A : Option Addr) (n : Nat) (l : List Up) (w : World) (hnl : l.length = n) (hl : Ups w w.heap.size A l) (hok : ∀ u ∈ l, UOk u) (hn : n ≤ 1099511627776) :
    Calls Tryz.prog 46 #[.slice (some ⟨w.heap.size, 0, none⟩) 1 1] (w.alloc (.cells #[.slice A n n] 37)) (UpsNew (consL [l]) (consE [l]) (w.alloc (.cells #[.slice A n n] 37))) := by
  subst hnl
  obtain ⟨V, hV, hvb, hul⟩ := one_list w A l.length l hl
  have := consolidate_new (some ⟨w.heap.size, 0, none⟩) 1 _ V hul (fun s hs u hu => by
    obtain rfl : s = ⟨A, l.length, l⟩ := by simpa using hs
    exact hok u hu) (by simpa [flatR] using hn) (by simp)
  rw [hV] at this
  exact this
def Steps (base P : Nat) (m : Mg) (i j k : Nat) (v : Value) (o : List Up) (w : World) (x : Ending) (w' : World) : Prop :=
  ∃ (u : Up) (E : Int), nextM (m.a.drop i) (m.b.drop j) = some u ∧ E = consE [advL m.f (grp u (m.a.drop i) ++ grp u (m.b.drop j))] ∧ x = .returned (.int .i64 E) ∧ Below base w w' ∧
    ((E ≠ 0 ∧ WSt base P m i j k v o w') ∨ (E = 0 ∧ ∃ (v' : Value) (e : List Up), e.map Up.p = consL [advL m.f (grp u (m.a.drop i) ++ grp u (m.b.drop j))] ∧ WSt base P m (i + (grp u (m.a.drop i)).length) (j + (grp u (m.b.drop j)).length) (k + ((grp u (m.a.drop i)).length + (grp u (m.b.drop j)).length)) v' (o ++ e) w'))
theorem grp_take (u : Up) (l : List Up) (i : Nat) : (l.drop i).take ((l.drop i).takeWhile fun x => decide (plc x u = 0)).length = grp u (l.drop i) := by
  unfold grp
  have := List.takeWhile_append_dropWhile (p := fun x => decide (plc x u = 0)) (l := l.drop i)
  conv => lhs; arg 2; rw [← this]
  rw [List.take_left]
theorem own_since {w : World} {P i j k : Nat} {m : Mg} {v : Value} (h : Own w P 129 (mcells m i j v k)) : w.cell? ⟨P, 4, none⟩ = some (.slice m.sA m.f.length m.sc) := h.at_ 4
set_option maxRecDepth 100000 in
set_option maxHeartbeats 12800000 in
theorem step_anyB (base P : Nat) (m : Mg) (i j k : Nat) (v : Value) (o : List Up) (w : World) (h : WSt base P m i j k v o w) (hna : m.a = [] → m.aA = none) (hnb : m.b = [] → m.bA = none) (oa : UsOk m.a) (ob : UsOk m.b) (of : TsOk m.f m.sc) (hac : m.ac = m.a.length) (hbc : m.bc = m.b.length)
    (hi : i ≤ m.a.length) (hj : j ≤ m.b.length) (hl : i < m.a.length ∨ j < m.b.length) (hk : k ≤ 4398046511104) (hsz : o.length + (m.a.length - i) + (m.b.length - j) ≤ 824633720832) :
    Calls Tryz.prog 96 #[.pointer (some ⟨P, 0, none⟩)] w (Steps base P m i j k v o w) := by
  obtain ⟨i0, hi0, hz0, hz1, hz2⟩ := info_parts infoUp
  have HI := Lib.hid (And.intro Tryz.underlying37 (And.intro hi0 (And.intro hz0 (And.intro hz1 hz2))))
  have na := oa.n
  have nb := ob.n
  have y0 := Lib.hid (next_any P m i j k v w h.own h.a oa h.b ob hi hj hl)
  have HL := Lib.hid (And.intro h (And.intro (And.intro hna hnb) (And.intro (And.intro oa ob) (And.intro of (And.intro hac hbc)))))
  clear h hna hnb oa ob of hac hbc hi0 hz0 hz1 hz2
  go_enter Tryz.func96, Tryz.ntmps96
  go_wp2_with fail
  refine y0.out.mono ?_
  rintro _ w1 ⟨u, hnx, hum, rfl, b1⟩
  have h1 := HL.out.1.past b1
  obtain ⟨V, hV, hvb, hvs, hvo⟩ := upbox w1 u
  have hVw := h1.past hvb
  have huI : UIn V V.heap.size u := by
    rcases hum with hm | hm
    · exact hVw.a.each_ u hm
    · exact hVw.b.each_ u hm
  have huO : UOk u := by
    rcases hum with hm | hm
    · exact HL.out.2.2.1.1.ok u hm
    · exact HL.out.2.2.1.2.ok u hm
  have hac := HL.out.2.2.2.2.1
  have hbc := HL.out.2.2.2.2.2
  have ha1 : m.a.length ≤ m.ac := by rw [hac]; exact Nat.le_refl _
  have ha2 : m.ac ≤ 4611686018427387904 := by rw [hac]; omega
  have hb1' : m.b.length ≤ m.bc := by rw [hbc]; exact Nat.le_refl _
  have hb2' : m.bc ≤ 4611686018427387904 := by rw [hbc]; omega
  have hask1 := fun p : Past V => asks_step w1.heap.size u m.a p.w (hvo.past p.h hvo.inside) (huI.keep p.h) huO (fun x hx => (hVw.past p.h).a.each_ x hx) HL.out.2.2.1.1.ok
  have hask2 := fun p : Past V => asks_step w1.heap.size u m.b p.w (hvo.past p.h hvo.inside) (huI.keep p.h) huO (fun x hx => (hVw.past p.h).b.each_ x hx) HL.out.2.2.1.2.ok
  have u1 := fun p : Past V => calls_past (grpS_all (.pointer (some ⟨w1.heap.size, 0, none⟩)) (fun x => decide (plc x u = 0)) m.aA m.ac m.a i p.w (hVw.past p.h).a HL.out.2.1.1 ha1 ha2 hi (hask1 p))
  have u2 := fun p : Past V => calls_past (grpS_all (.pointer (some ⟨w1.heap.size, 0, none⟩)) (fun x => decide (plc x u = 0)) m.bA m.bc m.b j p.w (hVw.past p.h).b HL.out.2.1.2 hb1' hb2' hj (hask2 p))
  have g1l : ((m.a.drop i).takeWhile fun x => decide (plc x u = 0)).length ≤ m.a.length - i := by have := (List.takeWhile_sublist (fun x : Up => decide (plc x u = 0)) (l := m.a.drop i)).length_le; rwa [List.length_drop] at this
  have g2l : ((m.b.drop j).takeWhile fun x => decide (plc x u = 0)).length ≤ m.b.length - j := by have := (List.takeWhile_sublist (fun x : Up => decide (plc x u = 0)) (l := m.b.drop j)).length_le; rwa [List.length_drop] at this
  obtain ⟨A1, e1, hu1, hn1⟩ := part_lies (i := i) (n := ((m.a.drop i).takeWhile fun x => decide (plc x u = 0)).length) hVw.a HL.out.2.1.1 (by omega)
  obtain ⟨A2, e2, hu2, hn2⟩ := part_lies (i := j) (n := ((m.b.drop j).takeWhile fun x => decide (plc x u = 0)).length) hVw.b HL.out.2.1.2 (by omega)
  rw [grp_take] at hu1 hu2
  have hg1 : ((m.a.drop i).takeWhile fun x => decide (plc x u = 0)) = grp u (m.a.drop i) := rfl
  have hg2 : ((m.b.drop j).takeWhile fun x => decide (plc x u = 0)) = grp u (m.b.drop j) := rfl
  rw [hg1] at e1 g1l hn1
  rw [hg2] at e2 g2l hn2
  simp only [hg1, e1] at u1
  simp only [hg2, e2] at u2
  have hC := fun p : Past V => own7 ((hVw.past p.h).own)
  have hok1 : ∀ x ∈ grp u (m.a.drop i), UOk x := fun x hx => HL.out.2.2.1.1.ok x (List.mem_of_mem_drop ((List.takeWhile_sublist _).subset hx))
  have hok2 : ∀ x ∈ grp u (m.b.drop j), UOk x := fun x hx => HL.out.2.2.1.2.ok x (List.mem_of_mem_drop ((List.takeWhile_sublist _).subset hx))
  obtain ⟨g1, hgg1⟩ : ∃ g1, grp u (m.a.drop i) = g1 := ⟨_, rfl⟩
  obtain ⟨g2, hgg2⟩ : ∃ g2, grp u (m.b.drop j) = g2 := ⟨_, rfl⟩
  have HU := Lib.hid (And.intro hnx (And.intro hgg1 hgg2))
  rw [hgg1] at u1 hu1 hn1 hok1 g1l
  rw [hgg2] at u2 hu2 hn2 hok2 g2l
  have HB := Lib.hid (b1.trans (hvb.mono b1.size))
  have HV := Lib.hid (And.intro hVw (And.intro hu1 (And.intro hu2 (And.intro hn1 (And.intro hn2 (And.intro hok1 hok2))))))
  clear b1 h1 hvb hvs hvo hVw huI huO hac hbc ha1 ha2 hb1' hb2' hask1 hask2 e1 e2 hu1 hu2 hn1 hn2 hg1 hg2 hok1 hok2 hgg1 hgg2 hnx hum y0
  go_upto_region 3 with fail
  rw [← hV]
  clear hV
  refine wp_region_past V (by kernel_rfl) (by kernel_rfl) (Below.refl _ _) ?_
  repeat (first | go_big_quiet_step (fail) | quiet_step (fail))
  quiet_step ((go_at_call 138; exact u1 _))
  repeat (first | go_big_quiet_step (fail) | quiet_step (fail))
  quiet_step ((go_at_call 138; exact u2 _))
  repeat (first | go_big_quiet_step (fail) | quiet_step (fail))
  refine wpQuiet_nil ?_
  intro wz hw'
  obtain ⟨⟨wy, hbz⟩, hw''⟩ := hw'
  dsimp only at hw''
  subst hw''
  obtain ⟨W4, hW4⟩ : ∃ W4, W4 = wz := ⟨_, rfl⟩
  subst hW4
  have h4 := HV.out.1.past hbz
  have c4 := own_since h4.own
  have hgu1 := HV.out.2.1.keep hbz
  have hgu2 := HV.out.2.2.1.keep hbz
  have hself := Bl.refl W4
  have HS := Lib.hid (fun W (hb : Bl W4 W) => own_since (h4.past hb).own)
  have HF := Lib.hid (fun W (hb : Bl W4 W) => (h4.past hb).f)
  have H4 := Lib.hid (And.intro (HB.out.trans (hbz.mono HB.out.size)) (And.intro h4 (And.intro hgu1 hgu2)))
  have hlap : ∀ (A3 : Option Addr) (W : World), Bl W4 W → Lies 6 Up.cells W W.heap.size A3 (g1 ++ g2) → Ups W W.heap.size A3 (g1 ++ g2) := fun A3 W hb hL => ⟨hL, fun x hx => by
    rcases List.mem_append.1 hx with hx | hx
    · exact ((hgu1.each_ x hx).keep hb)
    · exact ((hgu2.each_ x hx).keep hb)⟩
  have HLP := Lib.hid hlap
  have hlen : (g1 ++ g2).length = g1.length + g2.length := List.length_append
  have y1 := fun (A3 : Option Addr) (c3 : Nat) (W : World) (hb : Bl W4 W) (hL : Lies 6 Up.cells W W.heap.size A3 (g1 ++ g2)) => Lib.hid (badvance_n A3 c3 (g1.length + g2.length) (g1 ++ g2) m.sA m.sc m.f W hlen (HLP.out A3 W hb hL) (by omega) (HF.out W hb) HL.out.2.2.2.1)
  have y2 := fun (A5 : Option Addr) (W : World) (hu : Ups W W.heap.size A5 (advL m.f (g1 ++ g2))) => Lib.hid (cons_n A5 (g1.length + g2.length) (advL m.f (g1 ++ g2)) W ((advL_len _ _).trans hlen) hu (advL_ok fun x hx => by
    rcases List.mem_append.1 hx with hx | hx
    · exact HV.out.2.2.2.2.2.1 x hx
    · exact HV.out.2.2.2.2.2.2 x hx) (by omega))
  have HG := Lib.hid (And.intro hlen (And.intro g1l g2l))
  have hm63 : g1.length + g2.length ≤ maxLen := by unfold maxLen; omega
  have hm47 : (g1.length + g2.length) * 80 ≤ 140737488355328 := by omega
  have HM := Lib.hid (And.intro hm63 hm47)
  clear hbz h4 hgu1 hgu2 hC u1 u2 hlap hlen g1l g2l hm63 hm47
  go_upto_region 4 with fail
  go_region_held3 (fun w' => Bl W4 w' ∧ w'.cell? ⟨P, 4, none⟩ = some (.slice m.sA m.f.length m.sc))
    ((refine (fun h => And.intro h (HS.out _ h)) ?_; repeat (first | with_reducible exact hb6 | with_reducible exact hb5 | with_reducible exact hb4 | with_reducible exact hself | with_reducible refine Bl.more ?_ _ | with_reducible refine Bl.drew ?_)))
    (first | ((refine step_append_both _ (by rfl) (.tmp 37) (.tmp 38) 37 50 (by rfl) i0 _ 80 HI.out.1 HI.out.2.1 HI.out.2.2.1 HI.out.2.2.2.1 HI.out.2.2.2.2 rfl (by decide) ucells_len ucells_one (l := g1) (l' := g2) (A := A1) (A' := A2) H4.out.2.2.1.head H4.out.2.2.2.head (fun e => HV.out.2.2.2.1 (by rw [e]; rfl)) (fun e => HV.out.2.2.2.2.1 (by rw [e]; rfl)) HM.out.1 HM.out.2 (by rfl) (by rfl) ?_); intro A3 c3 w4 hL4 hbe4; have hb4 : Bl W4 w4 := Bl.call hself.drew hbe4) | (go_at_call 47; refine (y1 _ _ _ hb4 hL4).out.mono ?_; rintro _ w5 ⟨A5, rfl, hu5, bb5⟩; have hb5 : Bl W4 w5 := Bl.call hb4 bb5) | (go_at_call 46; refine (y2 _ _ hu5).out.mono ?_; rintro _ w6 ⟨A6, c6, e, rfl, hp6, hu6, ho6, bb6, hlo6⟩; have hb6 : Bl W4 w6 := Bl.call (Bl.more hb5 _) bb6))
  obtain ⟨E, hE⟩ : ∃ E, consE [advL m.f (g1 ++ g2)] = E := ⟨_, rfl⟩
  rw [hE]
  have h6 := H4.out.2.1.past hb6
  have hbw : Below w.heap.size w w6 := H4.out.1.trans (hb6.below.mono H4.out.1.size)
  have hwP : base ≤ w.heap.size := Nat.le_trans HL.out.1.base_ (Nat.le_of_lt HL.out.1.own.inside)
  have hUE := Lib.hid (show E = consE [advL m.f (grp u (m.a.drop i) ++ grp u (m.b.drop j))] from by rw [HU.out.2.1, HU.out.2.2]; exact hE.symm)
  have H6 := Lib.hid (And.intro h6 (And.intro (hbw.mono hwP) (And.intro hp6 (And.intro hu6 (And.intro ho6 hlo6)))))
  by_cases h0 : E = 0
  case neg =>
    have t1 : (E != 0) = true := bne_iff_ne.2 h0
    have H0 := Lib.hid h0
    clear hE h6 hbw hwP h0 hp6 hu6 ho6 hlo6 hb6 bb6 hb5 bb5 hu5 hb4 hbe4 hL4 y1 y2 c4 hself
    go_wp2_with fail
    go_ret
    exact ⟨u, E, HU.out.1, hUE.out, rfl, H6.out.2.1, .inl ⟨H0.out, H6.out.1⟩⟩
  subst h0
  have hlen6 : e.length ≤ g1.length + g2.length := by
    have := consL_len [advL m.f (g1 ++ g2)]
    rw [← hp6, List.length_map] at this
    simp only [List.flatten_cons, List.flatten_nil, List.append_nil, advL_len] at this
    rw [HG.out.1] at this
    exact this
  have hg1 := HG.out.2.1
  have hg2 := HG.out.2.2
  have hsz6 : o.length + e.length ≤ 824633720832 := by omega
  have hbs : base ≤ w6.heap.size := Nat.le_trans hwP hbw.size
  obtain ⟨c0, c1, c2, c3', c4', c5, c6'⟩ := own7 h6.own
  have hw5 : w.heap.size ≤ w5.heap.size := Nat.le_trans H4.out.1.size hb5.below.size
  have hfar : ∀ x ∈ e, OffU P v x := fun x hx => by
    have hP := HL.out.1.own.inside
    have hg : ∀ b, v.ownBlock = some b → b < w.heap.size := fun b hb => (HL.out.1.row.lt b hb).2
    have k : ∀ b o', (x.kA = some (⟨b, o', none⟩ : Addr) ∨ x.rA = some (⟨b, o', none⟩ : Addr)) → b ≠ P ∧ v.ownBlock ≠ some b := fun b o' hb => by
      have h9 := hlo6.2 x hx b o' hb
      simp at h9
      exact ⟨by omega, fun h => by have := hg b h; omega⟩
    exact ⟨fun _ b o' hb => k b o' (.inl hb), fun _ b o' hb => k b o' (.inr hb)⟩
  have hlow : ∀ x ∈ e, ∀ b o', (x.kA = some (⟨b, o', none⟩ : Addr) ∨ x.rA = some (⟨b, o', none⟩ : Addr)) → base ≤ b := fun x hx b o' hb => by
    have h9 := hlo6.2 x hx b o' hb
    simp at h9
    omega
  have H7 := Lib.hid (And.intro hsz6 (And.intro hbs (And.intro hlen6 (And.intro hfar hlow))))
  have hE' := Lib.hid hE
  clear hE h6 hbw hwP hp6 hu6 ho6 hlo6 hb6 bb6 hb5 bb5 hu5 hb4 hbe4 hL4 y1 y2 c4 hself hlen6 hbs hw5 hfar hlow
  go_wp2_with (at_builtin; refine wpList_append_liesG _ rfl (.tmp 58) (.tmp 59) 37 50 rfl i0 _ 80 HI.out.1 HI.out.2.1 HI.out.2.2.1 HI.out.2.2.2.1 HI.out.2.2.2.2 rfl (by decide) ucells_len ucells_one base v o.length (o.flatMap Up.cells) rfl H6.out.1.row c6 rfl H6.out.2.2.2.1.head ?m1 ?m2 H7.out.2.1 ?m3)
  case m1 => have := H7.out.1; unfold maxLen; omega
  case m2 => have := H7.out.1; omega
  intro v7 w7 ho7 hg7 hv7
  obtain ⟨A7, c7, hve, _, _, _⟩ := lies_of_own (size := 6) (cells := Up.cells) (l := o ++ e) (by decide) ucells_len (show o.length + e.length = (o ++ e).length from List.length_append.symm) (by rw [List.flatMap_append]; exact ho7)
  rw [List.length_append] at hve
  subst hve
  have hP7 : Own w7 P 129 (mcells m i j v k) := (hg7.block P H6.out.1.own.inside (fun h => H6.out.1.vP h.symm)).trans H6.out.1.own
  clear c0 c1 c2 c3' c4' c5 c6'
  obtain ⟨c0, c1, c2, c3', c4', c5, c6'⟩ := own7 hP7
  have z2 := hP7.open_ 2
  have z3 := hP7.open_ 3
  have z5 := hP7.open_ 5
  have z6 := hP7.open_ 6
  have H8 := Lib.hid (And.intro ho7 (And.intro hg7 (And.intro hv7 hP7)))
  clear ho7 hg7 hv7 hP7
  have q1 : i + g1.length ≤ 2199023255552 := by omega
  have q2 : j + g2.length ≤ 2199023255552 := by omega
  have q3 : k + (g1.length + g2.length) ≤ 8796093022208 := by omega
  go_wp2_with fail
  go_ret
  have hX : Own ((((w7.setCell ⟨P, 5, none⟩ (.slice A7 (o.length + e.length) c7)).setCell ⟨P, 2, none⟩ (.int .i64 ((i : Int) + (g1.length : Int)))).setCell ⟨P, 3, none⟩ (.int .i64 ((j : Int) + (g2.length : Int)))).setCell ⟨P, 6, none⟩ (.int .i64 ((k : Int) + ((g1.length : Int) + (g2.length : Int))))) P 129 (mcells m (i + g1.length) (j + g2.length) (.slice A7 (o.length + e.length) c7) (k + (g1.length + g2.length))) :=
    own_of ((((H8.out.2.2.2.set_ 5 _).set_ 2 _).set_ 3 _).set_ 6 _) (by simp [mcells])
  have hG : w7.grownBy ((((w7.setCell ⟨P, 5, none⟩ (.slice A7 (o.length + e.length) c7)).setCell ⟨P, 2, none⟩ (.int .i64 ((i : Int) + (g1.length : Int)))).setCell ⟨P, 3, none⟩ (.int .i64 ((j : Int) + (g2.length : Int)))).setCell ⟨P, 6, none⟩ (.int .i64 ((k : Int) + ((g1.length : Int) + (g2.length : Int))))) (some P) :=
    ⟨rfl, rfl, rfl, by simp [World.setCell], fun b _ hne => by
      have hne : b ≠ P := by simpa using hne
      rw [Below.heap_setCell _ ⟨P, 6, none⟩ _ b hne, Below.heap_setCell _ ⟨P, 3, none⟩ _ b hne, Below.heap_setCell _ ⟨P, 2, none⟩ _ b hne, Below.heap_setCell _ ⟨P, 5, none⟩ _ b hne]⟩
  have hBl := (H6.out.2.1.grown H8.out.2.1 H7.out.2.1 (fun b hb => (H6.out.1.row.lt b hb).1)).setCell (p := ⟨P, 5, none⟩) HL.out.1.base_ (.slice A7 (o.length + e.length) c7) |>.setCell (p := ⟨P, 2, none⟩) HL.out.1.base_ (.int .i64 ((i : Int) + (g1.length : Int))) |>.setCell (p := ⟨P, 3, none⟩) HL.out.1.base_ (.int .i64 ((j : Int) + (g2.length : Int))) |>.setCell (p := ⟨P, 6, none⟩) HL.out.1.base_ (.int .i64 ((k : Int) + ((g1.length : Int) + (g2.length : Int))))
  refine ⟨u, 0, HU.out.1, hUE.out, rfl, hBl, .inr ⟨rfl, .slice A7 (o.length + e.length) c7, e, by rw [HU.out.2.1, HU.out.2.2]; exact H6.out.2.2.1, ?_⟩⟩
  rw [HU.out.2.1, HU.out.2.2]
  exact H6.out.1.push (by rw [List.length_append, List.flatMap_append]; exact H8.out.1) H8.out.2.1 H8.out.2.2.1 H6.out.2.2.2.1.each_ H7.out.2.2.2.1 H6.out.2.2.2.2.1 H7.out.2.2.2.2 hX hG
end Go.Proofs.YtgalemkjgaiphaaGreat
namespace Go.Proofs.YtgalemkjgaiphaaGreat
open Go Go.RowKit

theorem LOpn.lo {w : World} {B : Nat} {A : Option Addr} {l : List Up} (h : LOpn w B A l) : Lo B A l := ⟨fun b o e => (h.1 b o e).1, fun u hu b o e => by
  rcases e with e | e
  · exact ((h.2 u hu).1 b o e).1
  · exact ((h.2 u hu).2 b o e).1⟩
def OpnC (w : World) (B : Nat) (A : Option Addr) (n : Nat) : Prop := 0 < n → Opn w B A
def UOpnC (w : World) (B : Nat) (u : Up) : Prop := OpnC w B u.kA u.key.length ∧ OpnC w B u.rA u.row.length
def LOpnC (w : World) (B : Nat) (A : Option Addr) (l : List Up) : Prop := OpnC w B A l.length ∧ ∀ u ∈ l, UOpnC w B u
theorem UOpn.toC {w : World} {B : Nat} {u : Up} (h : UOpn w B u) : UOpnC w B u := ⟨fun _ => h.1, fun _ => h.2⟩
theorem LOpn.toC {w : World} {B : Nat} {A : Option Addr} {l : List Up} (h : LOpn w B A l) : LOpnC w B A l := ⟨fun _ => h.1, fun u hu => (h.2 u hu).toC⟩
theorem UOpnC.past {w w' : World} {B : Nat} {u : Up} (h : UOpnC w B u) (hb : Below w.heap.size w w') : UOpnC w' B u := ⟨fun hp => (h.1 hp).past hb, fun hp => (h.2 hp).past hb⟩
theorem LOpnC.past {w w' : World} {B : Nat} {A : Option Addr} {l : List Up} (h : LOpnC w B A l) (hb : Below w.heap.size w w') : LOpnC w' B A l := ⟨fun hp => (h.1 hp).past hb, fun u hu => (h.2 u hu).past hb⟩
structure WOp (w : World) (base : Nat) (m : Mg) (o : List Up) : Prop where
  a : LOpnC w base m.aA m.a
  b : LOpnC w base m.bA m.b
  o_ : ∀ u ∈ o, UOpnC w base u
theorem WOp.past {w w' : World} {base : Nat} {m : Mg} {o : List Up} (h : WOp w base m o) (hb : Below w.heap.size w w') : WOp w' base m o := ⟨h.a.past hb, h.b.past hb, fun u hu => (h.o_ u hu).past hb⟩
theorem OpnC.turn {w w2 : World} {B P n : Nat} {v : Value} {A : Option Addr} (h : OpnC w B A n) (hx : OffR P v A n) (hk : ∀ b, b < w.heap.size → b ≠ P → v.ownBlock ≠ some b → w2.heap[b]? = w.heap[b]?) : OpnC w2 B A n := fun hp b o e => by
  obtain ⟨h1, cs, t, h2⟩ := h hp b o e
  exact ⟨h1, cs, t, (hk b ((h hp).lt e) (hx hp b o e).1 (hx hp b o e).2).trans h2⟩
theorem UOpnC.turn {w w2 : World} {B P : Nat} {v : Value} {u : Up} (h : UOpnC w B u) (hx : OffU P v u) (hk : ∀ b, b < w.heap.size → b ≠ P → v.ownBlock ≠ some b → w2.heap[b]? = w.heap[b]?) : UOpnC w2 B u := ⟨h.1.turn hx.1 hk, h.2.turn hx.2 hk⟩
theorem LOpnC.turn {w w2 : World} {B P : Nat} {v : Value} {A : Option Addr} {l : List Up} (h : LOpnC w B A l) (hx : Off P v A l) (hk : ∀ b, b < w.heap.size → b ≠ P → v.ownBlock ≠ some b → w2.heap[b]? = w.heap[b]?) : LOpnC w2 B A l := ⟨h.1.turn hx.1 hk, fun u hu => (h.2 u hu).turn (hx.2 u hu) hk⟩
theorem WOp.push {base P : Nat} {m : Mg} {i j k : Nat} {v : Value} {o e : List Up} {w w1 w2 : World} (h : WOp w base m o) (s : WSt base P m i j k v o w) (he : ∀ u ∈ e, UOpnC w base u) (hlo : ∀ u ∈ e, OffU P v u) (hg : w.grownBy w1 v.ownBlock) (h2 : w1.grownBy w2 (some P)) : WOp w2 base m (o ++ e) := by
  have hk : ∀ b, b < w.heap.size → b ≠ P → v.ownBlock ≠ some b → w2.heap[b]? = w.heap[b]? := fun b hb h3 h4 => (h2.block b (Nat.lt_of_lt_of_le hb hg.size) (by simpa using h3)).trans (hg.block b hb (Ne.symm h4))
  refine ⟨h.a.turn s.xa hk, h.b.turn s.xb hk, fun u hu => ?_⟩
  rcases List.mem_append.1 hu with hu | hu
  · exact (h.o_ u hu).turn (s.xo u hu) hk
  · exact (he u hu).turn (hlo u hu) hk
def StepsO (base P : Nat) (m : Mg) (i j k : Nat) (v : Value) (o : List Up) (w : World) (x : Ending) (w' : World) : Prop :=
  ∃ (u : Up) (E : Int), nextM (m.a.drop i) (m.b.drop j) = some u ∧ E = consE [advL m.f (grp u (m.a.drop i) ++ grp u (m.b.drop j))] ∧ x = .returned (.int .i64 E) ∧ Below base w w' ∧
    ((E ≠ 0 ∧ WSt base P m i j k v o w' ∧ WOp w' base m o) ∨ (E = 0 ∧ ∃ (v' : Value) (e : List Up), e.map Up.p = consL [advL m.f (grp u (m.a.drop i) ++ grp u (m.b.drop j))] ∧ WSt base P m (i + (grp u (m.a.drop i)).length) (j + (grp u (m.b.drop j)).length) (k + ((grp u (m.a.drop i)).length + (grp u (m.b.drop j)).length)) v' (o ++ e) w' ∧ WOp w' base m (o ++ e)))
end Go.Proofs.YtgalemkjgaiphaaGreat
namespace Go.Proofs.YtgalemkjgaiphaaGreat
open Go Go.RowKit

def curM (m : Mg) (i j k : Nat) (o : List Up) : MS := ⟨m.a.take i, m.a.drop i, m.b.take j, m.b.drop j, o.map Up.p, k, 0⟩
theorem grp_take' (u : Up) (l : List Up) (i : Nat) : grp u (l.drop i) = (l.drop i).take (grp u (l.drop i)).length := (grp_take u l i).symm
theorem cur_step (m : Mg) (i j k : Nat) (o e : List Up) (u : Up) (he : e.map Up.p = consL [advL m.f (grp u (m.a.drop i) ++ grp u (m.b.drop j))]) :
    (curM m i j k o).step m.f u = curM m (i + (grp u (m.a.drop i)).length) (j + (grp u (m.b.drop j)).length) (k + ((grp u (m.a.drop i)).length + (grp u (m.b.drop j)).length)) (o ++ e) := by
  unfold curM MS.step
  dsimp only
  congr 1
  · conv => lhs; arg 2; rw [grp_take']
    rw [← List.take_add]
  · rw [List.drop_drop]
  · conv => lhs; arg 2; rw [grp_take']
    rw [← List.take_add]
  · rw [List.drop_drop]
  · rw [List.map_append, he]
theorem work_none {f : List Tm} {fuel : Int} {s : MS} (h : nextM s.ra s.rb = none) : ∀ n, workM f fuel n s = s
  | 0 => rfl
  | n + 1 => by
    unfold workM
    rw [h]
    split <;> rfl
theorem work_full {f : List Tm} {fuel : Int} {s : MS} (h : ¬ (s.cost : Int) < fuel) : ∀ n, workM f fuel n s = s
  | 0 => rfl
  | n + 1 => by unfold workM; rw [if_neg h]
theorem work_more {f : List Tm} {fuel : Int} {s : MS} {u : Up} {n : Nat} (h : (s.cost : Int) < fuel) (hu : nextM s.ra s.rb = some u) (hE : consE [advL f (grp u s.ra ++ grp u s.rb)] = 0) : workM f fuel (n + 1) s = workM f fuel n (s.step f u) := by
  rw [workM, if_pos h, hu]
  exact if_pos hE
theorem work_err {f : List Tm} {fuel : Int} {s : MS} {u : Up} {n : Nat} (h : (s.cost : Int) < fuel) (hu : nextM s.ra s.rb = some u) (hE : consE [advL f (grp u s.ra ++ grp u s.rb)] ≠ 0) : workM f fuel (n + 1) s = { s with E := consE [advL f (grp u s.ra ++ grp u s.rb)] } := by
  rw [workM, if_pos h, hu]
  exact if_neg hE
theorem grp_lens (u : Up) (l : List Up) (i : Nat) : (grp u (l.drop i)).length ≤ l.length - i := by have := grp_le u (l.drop i); rwa [List.length_drop] at this
structure WorkOk (m m' : Mg) (fuel c E : Int) : Prop where
  a : m'.a.map Up.p = m.a.map Up.p
  b : m'.b.map Up.p = m.b.map Up.p
  f : m'.f = m.f
  s : ∃ n s, (m.a.length - m.i.toNat) + (m.b.length - m.j.toNat) = n ∧ s = workM m.f fuel n (startM m'.a m.i.toNat m'.b m.j.toNat (m.o.map Up.p)) ∧ c = (s.cost : Int) ∧ E = s.E ∧ m'.i = (s.ta.length : Int) ∧ m'.j = (s.tb.length : Int) ∧ m'.o.map Up.p = s.out
def Worked (m : Mg) (fuel : Int) (w : World) (x : Ending) (w' : World) : Prop :=
  ∃ (m' : Mg) (c E : Int), x = .returned (.tuple #[m'.val, .int .i64 c, .int .i64 E]) ∧ (¬ MOk m ∧ m' = Mg.nil ∧ c = 0 ∧ E = 8 ∨ MOk m ∧ WorkOk m m' fuel c E) ∧ MgIn w' w'.heap.size m' ∧ MgOk m' ∧ MgLo w.heap.size m' ∧ Below w.heap.size w w'
theorem wst_start {base : Nat} {w V : World} {m : Mg} {i j : Nat} (hm : MgIn w w.heap.size m) (hok : MgOk m) (ha : MgApart w base m) (hi : m.i = (i : Int)) (hj : m.j = (j : Int)) (hb : base ≤ w.heap.size) (hlo : MgLo base m) (hV : V = w.alloc (.cells (mcells m i j (.slice m.oA m.o.length m.oc) 0).toArray 129)) :
    WSt base w.heap.size m i j 0 (.slice m.oA m.o.length m.oc) m.o V := by
  have hbV : Below w.heap.size w V := by rw [hV]; exact (Below.refl _ _).alloc (Nat.le_refl _) _
  have hP : Own V w.heap.size 129 (mcells m i j (.slice m.oA m.o.length m.oc) 0) := by rw [hV]; exact Own.made w _ _
  exact ⟨hP, own_below ha.row hbV, fun h => by have := (ha.row.lt _ h).2; omega, hm.a.keep hbV, hm.b.keep hbV, (hm.f.past hbV (Nat.le_refl _)).wide hbV.size, fun u hu => (hm.o.each_ u hu).keep hbV, ha.a, ha.b, ha.f, ha.o, hok.o.ok, hb, hlo.o.2⟩
structure OnWay (m : Mg) (i j : Nat) : Prop where
  front : FrontOk m.f
  a : EvenP m.a
  b : EvenP m.b
  fine : FineM m.f m.a i m.b j (m.o.map Up.p)
  i_ : m.i = (i : Int)
  j_ : m.j = (j : Int)
theorem OnWay.ok {m : Mg} {i j : Nat} (h : OnWay m i j) : MOk m := by
  unfold MOk
  rw [h.i_, h.j_]
  exact finem_ok h.fine h.front h.a h.b rfl
theorem start_way {m : Mg} (hf : FrontOk m.f) (ha : EvenP m.a) (hb : EvenP m.b) (hi : m.i = 0) (hj : m.j = 0) (ho : m.o = []) : OnWay m 0 0 := ⟨hf, ha, hb, by rw [ho]; exact finem_start _ _ _, hi, hj⟩
def leftN (m : Mg) (i j : Nat) : Nat := (m.a.length - i) + (m.b.length - j)
def outM (m : Mg) (i j : Nat) (oA : Option Addr) (oc : Nat) (o : List Up) : Mg := ⟨m.aA, m.ac, m.a, m.bA, m.bc, m.b, (i : Int), (j : Int), m.sA, m.sc, m.f, oA, oc, o⟩
theorem work_fin {m m1 : Mg} {i1 j1 i j k n N oc : Nat} {o : List Up} {oA : Option Addr} {fuel E : Int} (hs : MgSame m m1) (hw : workM m1.f fuel N (curM m1 i1 j1 0 m1.o) = workM m1.f fuel n (curM m1 i j k o)) (hi : i ≤ m1.a.length) (hj : j ≤ m1.b.length)
    (hN : (m.a.length - m.i.toNat) + (m.b.length - m.j.toNat) = N ∧ m.i.toNat = i1 ∧ m.j.toNat = j1) (hend : workM m1.f fuel n (curM m1 i j k o) = { curM m1 i j k o with E := E }) :
    ∃ n s, (m.a.length - m.i.toNat) + (m.b.length - m.j.toNat) = n ∧ s = workM m.f fuel n (startM (outM m1 i j oA oc o).a m.i.toNat (outM m1 i j oA oc o).b m.j.toNat (m.o.map Up.p)) ∧ ((k : Nat) : Int) = (s.cost : Int) ∧ E = s.E ∧ (outM m1 i j oA oc o).i = (s.ta.length : Int) ∧ (outM m1 i j oA oc o).j = (s.tb.length : Int) ∧ (outM m1 i j oA oc o).o.map Up.p = s.out := by
  refine ⟨N, { curM m1 i j k o with E := E }, hN.1, ?_, rfl, rfl, ?_, ?_, rfl⟩
  · rw [hN.2.1, hN.2.2, ← hs.f, ← hs.o]
    exact (hw.trans hend).symm
  · show (i : Int) = ((m1.a.take i).length : Int)
    rw [List.length_take, Nat.min_eq_left hi]
  · show (j : Int) = ((m1.b.take j).length : Int)
    rw [List.length_take, Nat.min_eq_left hj]
theorem cur_none {m : Mg} {i j k : Nat} {o : List Up} (hi : m.a.length ≤ i) (hj : m.b.length ≤ j) : nextM (curM m i j k o).ra (curM m i j k o).rb = none := by
  show nextM (m.a.drop i) (m.b.drop j) = none
  rw [List.drop_eq_nil_of_le hi, List.drop_eq_nil_of_le hj]; rfl
end Go.Proofs.YtgalemkjgaiphaaGreat
namespace Go.Proofs.YtgalemkjgaiphaaGreat
open Go Go.RowKit

def Hp (P : Nat) (V w : World) : Prop := w.heap[P]? = V.heap[P]?
theorem Hp.refl (P : Nat) (V : World) : Hp P V V := rfl
theorem Hp.set {P R : Nat} {V w : World} (h : Hp P V w) (hR : R ≠ P) (i : Nat) (v : Value) : Hp P V (w.setCell ⟨R, i, none⟩ v) := (Below.heap_setCell w ⟨R, i, none⟩ v P (Ne.symm hR)).trans h
theorem Hp.drew {P : Nat} {V w : World} (h : Hp P V w) : Hp P V w.drew := h
theorem Hp.cell {P i : Nat} {V w : World} {v : Value} (h : Hp P V w) (hc : V.cell? ⟨P, i, none⟩ = some v) : w.cell? ⟨P, i, none⟩ = some v := by
  rw [← hc]
  unfold World.cell?
  rw [show w.heap[P]? = V.heap[P]? from h]
theorem mok_sm {m : Mg} (h : MOk m) (na : m.a.length ≤ 274877906944) (nb : m.b.length ≤ 274877906944) (no : m.o.length ≤ 274877906944) : MgSm m := ⟨h.even.1.2.2, h.even.2.1.2.2, h.even.2.2.2.2, na, nb, no⟩
theorem out_fine {base P R i j k oc : Nat} {m : Mg} {oA : Option Addr} {o : List Up} {w X : World} (h : WSt base P m i j k (.slice oA o.length oc) o w) (hlo : MgLo base m) (hR : R < base) (hs : X.heap.size = w.heap.size) (hX : ∀ b, b ≠ R → X.heap[b]? = w.heap[b]?) : MgIn X X.heap.size (outM m i j oA oc o) ∧ MgLo base (outM m i j oA oc o) := by
  have hl : Lies 6 Up.cells w w.heap.size oA o := by
    obtain ⟨A, c, e, _, _, hh⟩ := lies_of_own (size := 6) (cells := Up.cells) (by decide) ucells_len rfl h.row
    simp only [Value.slice.injEq] at e
    rw [e.1]; exact hh
  have hob : ∀ b o', oA = some (⟨b, o', none⟩ : Addr) → base ≤ b := fun b o' e => by
    subst e
    exact (h.row.lt b rfl).1
  have hlo2 : Lo base oA o := ⟨hob, h.lo⟩
  exact ⟨⟨ups_other h.a (hlo.a.mono (by omega)) hs hX, ups_other h.b (hlo.b.mono (by omega)) hs hX, times_other h.f (hlo.f.mono (by omega)) hs hX, ups_other ⟨hl, h.o_⟩ (hlo2.mono (by omega)) hs hX⟩, ⟨hlo.a, hlo.b, hlo.f, hlo2⟩⟩
theorem wk_box (w : World) (m : Mg) : ∃ V, V = (w.alloc (.cells #[.slice m.aA m.a.length m.ac, .slice m.bA m.b.length m.bc, .int .i64 m.i, .int .i64 m.j, .slice m.sA m.f.length m.sc, .slice m.oA m.o.length m.oc] 41)).alloc (.cells #[.slice none 0 0, .slice none 0 0, .int .i64 0, .int .i64 0, .slice none 0 0, .slice none 0 0] 41) ∧ Below w.heap.size w V ∧ Own V w.heap.size 41 m.cells ∧ Own V (w.heap.size + 1) 41 Mg.nil.cells := mg_box2 w m
set_option maxRecDepth 100000 in
set_option maxHeartbeats 12800000 in
theorem work_any (m : Mg) (fuel : Int) (w : World) (hm : MgIn w w.heap.size m) (hok : MgOk m) (na : m.a.length ≤ 274877906944) (nb : m.b.length ≤ 274877906944) (no : m.o.length ≤ 274877906944) :
    Calls Tryz.prog 54 #[m.val, .int .i64 fuel] w (Worked m fuel w) := by
  obtain ⟨V, hV, hvb, hvo, hvz⟩ := wk_box w m
  have hin := hm.keep hvb
  have y1 := Lib.hid (checkM_any m V hin hok)
  have HB := Lib.hid (And.intro hvb (And.intro hvo hvz))
  have HK := Lib.hid (And.intro hin (And.intro hok (And.intro na (And.intro nb no))))
  have hmv : m.val = .agg #[.slice m.aA m.a.length m.ac, .slice m.bA m.b.length m.bc, .int .i64 m.i, .int .i64 m.j, .slice m.sA m.f.length m.sc, .slice m.oA m.o.length m.oc] := rfl
  rw [hmv] at y1 ⊢
  obtain ⟨d0, d1, d2, d3, d4, d5⟩ := own6 hvo
  clear hm hok hvb hvo hvz hin hmv na nb no
  go_enter Tryz.func54, Tryz.ntmps54
  go_upto_region 1 with fail
  rw [← hV]
  clear hV
  go_wp2_with fail
  refine y1.out.mono ?_
  rintro _ w1 ⟨n, rfl, hn, b1⟩
  have H1 := Lib.hid (And.intro hn (And.intro (HB.out.1.trans (b1.mono HB.out.1.size)) (And.intro (HB.out.2.1.past b1 HB.out.2.1.inside) (And.intro (HB.out.2.2.past b1 HB.out.2.2.inside) (HK.out.1.keep b1)))))
  clear d0 d1 d2 d3 d4 d5 b1 y1 hn
  by_cases h0 : n = 0
  case neg =>
    have t1 : (n != 0) = true := bne_iff_ne.2 h0
    obtain ⟨f0, f1, f2, f3, f4, f5⟩ := own_frozen6 H1.out.2.2.2.1
    obtain ⟨z0, z1, z2, z3, z4, z5⟩ := own6 H1.out.2.2.2.1
    obtain ⟨X, hX', hXo, hXb, hXs, hXh⟩ := own_six H1.out.2.2.2.1 (.slice none 0 0) (.slice none 0 0) (.int .i64 0) (.int .i64 0) (.slice none 0 0) (.slice none 0 0)
    have HX := Lib.hid (And.intro (hXb w.heap.size w H1.out.2.1 (by omega)) hXo)
    have HR := Lib.hid hX'
    have H0 := Lib.hid h0
    clear hXo hXb hXs hXh hX' h0
    go_wp2_with fail
    rw [← HR.out]
    obtain ⟨x0, x1, x2, x3, x4, x5⟩ := own6 HX.out.2
    exact bodyPost_ret (v := .tuple #[.agg #[.slice none 0 0, .slice none 0 0, .int .i64 0, .int .i64 0, .slice none 0 0, .slice none 0 0], .int .i64 0, .int .i64 n]) (by simp [results, Tryz.results54, go_sem, x0, x1, x2, x3, x4, x5]) rfl ⟨Mg.nil, 0, n, rfl, .inl (by
      rcases H1.out.1 with ⟨_, e⟩ | ⟨e, e2⟩
      · exact absurd e H0.out
      · exact ⟨e, rfl, rfl, e2⟩), mg_nil_in _ _, mg_nil_ok, mg_nil_lo _, HX.out.1⟩
  subst h0
  have hmok : MOk m := by
    rcases H1.out.1 with ⟨e, _⟩ | ⟨_, e⟩
    · exact e
    · omega
  have y2 := Lib.hid (copyM_any m w1 H1.out.2.2.2.2 HK.out.2.1 (mok_sm hmok HK.out.2.2.1 HK.out.2.2.2.1 HK.out.2.2.2.2))
  obtain ⟨d0, d1, d2, d3, d4, d5⟩ := own6 H1.out.2.2.1
  have HM := Lib.hid hmok
  rw [show m.val = .agg #[.slice m.aA m.a.length m.ac, .slice m.bA m.b.length m.bc, .int .i64 m.i, .int .i64 m.j, .slice m.sA m.f.length m.sc, .slice m.oA m.o.length m.oc] from rfl] at y2
  clear hmok
  go_wp2_with fail
  refine y2.out.mono ?_
  rintro _ w2 ⟨m1, rfl, hs1, hi1, ho1, hl1, b2, ha1⟩
  clear d0 d1 d2 d3 d4 d5 y2
  -- loop
  unfold Mg.val
  obtain ⟨i1, hi1'⟩ : ∃ i : Nat, m1.i = (i : Int) := ⟨m1.i.toNat, by have := HM.out.da.lo; rw [hs1.i]; omega⟩
  obtain ⟨j1, hj1'⟩ : ∃ j : Nat, m1.j = (j : Int) := ⟨m1.j.toNat, by have := HM.out.db.lo; rw [hs1.j]; omega⟩
  have hi1l : i1 ≤ m1.a.length := by have := HM.out.da.hi; have h3 := hs1.i; rw [len_p hs1.a]; omega
  have hj1l : j1 ≤ m1.b.length := by have := HM.out.db.hi; have h3 := hs1.j; rw [len_p hs1.b]; omega
  rw [hi1', hj1']
  obtain ⟨V2, hV2⟩ : ∃ V2, V2 = w2.alloc (.cells #[.slice m1.aA m1.a.length m1.ac, .slice m1.bA m1.b.length m1.bc, .int .i64 (i1 : Int), .int .i64 (j1 : Int), .slice m1.sA m1.f.length m1.sc, .slice m1.oA m1.o.length m1.oc, .int .i64 0] 129) := ⟨_, rfl⟩
  have hst0 := wst_start hi1 ho1 ha1 hi1' hj1' b2.size hl1 hV2
  have hbV2 : Below w1.heap.size w2 V2 := by rw [hV2]; exact (Below.refl _ _).alloc b2.size _
  have hla := len_p hs1.a
  have hlb := len_p hs1.b
  have hlo := len_p hs1.o
  have hnA : m1.a.length ≤ 274877906944 := by rw [hla]; exact HK.out.2.2.1
  have hnB : m1.b.length ≤ 274877906944 := by rw [hlb]; exact HK.out.2.2.2.1
  have hnO : m1.o.length ≤ 274877906944 := by rw [hlo]; exact HK.out.2.2.2.2
  have hRz := (H1.out.2.2.2.1.past b2 H1.out.2.2.2.1.inside).past hbV2 H1.out.2.2.2.1.inside
  have hNl : (m.a.length - m.i.toNat) + (m.b.length - m.j.toNat) = (m1.a.length - i1) + (m1.b.length - j1) := by have h3 := hs1.i; have h4 := hs1.j; rw [hla, hlb]; omega
  have hii : m.i.toNat = i1 := by have h3 := hs1.i; omega
  have hjj : m.j.toNat = j1 := by have h3 := hs1.j; omega
  have H2 := Lib.hid (And.intro (And.intro H1.out.2.1.size H1.out.2.2.2.1.inside) (And.intro (show Below w.heap.size w V2 from (H1.out.2.1.trans (b2.mono H1.out.2.1.size)).trans (hbV2.mono H1.out.2.1.size)) (And.intro hRz (And.intro ho1 (And.intro hs1 (And.intro hl1 (And.intro ha1 (And.intro (And.intro hNl (And.intro hii hjj)) hst0))))))))
  have hP2 : w2.heap.size < V2.heap.size := hst0.own.inside
  obtain ⟨P, hP⟩ : ∃ P, P = w2.heap.size := ⟨_, rfl⟩
  have HST := Lib.hid (show WSt w1.heap.size P m1 i1 j1 0 (.slice m1.oA m1.o.length m1.oc) m1.o V2 from hP ▸ hst0)
  clear hs1 hi1 ho1 hl1 b2 ha1 hi1' hj1' hst0 hbV2 hla hlb hlo hRz hNl hii hjj hP2
  go_wp2_with fail
  rw [← hV2, ← hP]
  clear hV2 hP
  go_loopw [9] (fun _ wr => ∃ (i j k : Nat) (v : Value) (o : List Up) (n : Nat), WSt w1.heap.size P m1 i j k v o wr ∧ Below w1.heap.size V2 wr ∧ i ≤ m1.a.length ∧ j ≤ m1.b.length ∧ k ≤ i + j ∧ o.length + (m1.a.length - i) + (m1.b.length - j) ≤ 824633720832 ∧
      workM m1.f fuel ((m1.a.length - i1) + (m1.b.length - j1)) (curM m1 i1 j1 0 m1.o) = workM m1.f fuel n (curM m1 i j k o) ∧ (m1.a.length - i) + (m1.b.length - j) ≤ n)
    (fun _ wr => m1.a.length + m1.b.length - ((intOf ((wr.cell? ⟨P, 2, none⟩).getD undef)).toNat + (intOf ((wr.cell? ⟨P, 3, none⟩).getD undef)).toNat))
  case atStart => exact ⟨i1, j1, 0, _, m1.o, _, HST.out, Below.refl _ _, hi1l, hj1l, by omega, by omega, rfl, Nat.le_refl _⟩
  case round =>
    obtain ⟨i, j, k, v, o, n, hws, hbv, hi, hj, hk, hsz, hw, hn⟩ := hrel
    obtain ⟨oA, oc, hv, _, _, _⟩ := lies_of_own (size := 6) (cells := Up.cells) (by decide) ucells_len rfl hws.row
    subst hv
    obtain ⟨wi, hwi⟩ : ∃ wi, wi = wr := ⟨_, rfl⟩
    subst hwi
    have y1 := Lib.hid (left_any P m1 i j k _ wi hws.own (by omega) (by omega) (by omega) (by omega))
    have HN := Lib.hid (And.intro hi (And.intro hj (And.intro hk (And.intro hsz (And.intro hw hn)))))
    have HW := Lib.hid (And.intro hws hbv)
    clear hws hbv hw
    have HC := Lib.hid (show WSt w1.heap.size P m1 i j k (.slice oA o.length oc) o wi ∧ Below w1.heap.size V2 wi from HW.out)
    obtain ⟨c0, c1, c2, c3, c4, c5, c6⟩ := own7 HC.out.1.own
    by_cases hlf : i < m1.a.length ∨ j < m1.b.length
    case neg =>
      have hD : decide (i < m1.a.length ∨ j < m1.b.length) = false := decide_eq_false hlf
      rw [hD] at y1
      have HE := Lib.hid (show workM m1.f fuel n (curM m1 i j k o) = { curM m1 i j k o with E := 0 } from work_none (cur_none (by omega) (by omega)) n)
      clear hD hlf c0 c1 c2 c3 c4 c5 c6
      go_wp2_with fail
      refine y1.out.mono ?_
      rintro _ wl ⟨rfl, q, hq⟩
      have h9 : WSt w1.heap.size P m1 i j k (.slice oA o.length oc) o wl := hq ▸ HC.out.1.past (below_draws (Below.refl _ _) q)
      have b9 : Below w1.heap.size V2 wl := hq ▸ below_draws HC.out.2 q
      have HQ := Lib.hid (And.intro h9 b9)
      have hC := fun p : Past wl => own7 ((h9.past p.h).own)
      clear hq h9 b9 y1
      have hwt := hC ⟨wl, Below.refl _ _⟩
      obtain ⟨c0, c1, c2, c3, c4, c5, c6⟩ := hwt
      dsimp only at c0 c1 c2 c3 c4 c5 c6
      have HS := Lib.hid (fun W (h : Hp P wl W) => (⟨h.cell c0, h.cell c1, h.cell c2, h.cell c3, h.cell c4, h.cell c5, h.cell c6⟩ : W.cell? ⟨P, 0, none⟩ = some (.slice m1.aA m1.a.length m1.ac) ∧ W.cell? ⟨P, 1, none⟩ = some (.slice m1.bA m1.b.length m1.bc) ∧ W.cell? ⟨P, 2, none⟩ = some (.int .i64 (i : Int)) ∧ W.cell? ⟨P, 3, none⟩ = some (.int .i64 (j : Int)) ∧ W.cell? ⟨P, 4, none⟩ = some (.slice m1.sA m1.f.length m1.sc) ∧ W.cell? ⟨P, 5, none⟩ = some (.slice oA o.length oc) ∧ W.cell? ⟨P, 6, none⟩ = some (.int .i64 (k : Int))))
      have hself := Hp.refl P wl
      have hRP : w.heap.size + 1 ≠ P := by have h1 := H2.out.1.2; have h2 := HST.out.base_; omega
      have hwz := (H2.out.2.2.1.past HQ.out.2 (by have := H2.out.1.2; omega))
      obtain ⟨f0, f1, f2, f3, f4, f5⟩ := own_frozen6 hwz
      obtain ⟨z0, z1, z2, z3, z4, z5⟩ := own6 hwz
      clear hwz
      go_upto_region 9 with fail
      have HDR := Lib.hid (Below.drew (Below.refl wl.heap.size wl))
      go_region_held3 (fun w' => Hp P wl w' ∧ (w'.cell? ⟨P, 0, none⟩ = some (.slice m1.aA m1.a.length m1.ac) ∧ w'.cell? ⟨P, 1, none⟩ = some (.slice m1.bA m1.b.length m1.bc) ∧ w'.cell? ⟨P, 2, none⟩ = some (.int .i64 (i : Int)) ∧ w'.cell? ⟨P, 3, none⟩ = some (.int .i64 (j : Int)) ∧ w'.cell? ⟨P, 4, none⟩ = some (.slice m1.sA m1.f.length m1.sc) ∧ w'.cell? ⟨P, 5, none⟩ = some (.slice oA o.length oc) ∧ w'.cell? ⟨P, 6, none⟩ = some (.int .i64 (k : Int))))
        ((refine (fun h => And.intro h (HS.out _ h)) ?_; repeat (first | with_reducible exact hself | with_reducible refine Hp.set ?_ hRP _ _ | with_reducible refine Hp.drew ?_)))
        (fail)
      clear c0 c1 c2 c3 c4 c5 c6 f0 f1 f2 f3 f4 f5 z0 z1 z2 z3 z4 z5 hself
      have hz := (H2.out.2.2.1.past HQ.out.2 (by have := H2.out.1.2; omega))
      have hst := HQ.out.1
      have hbb := HQ.out.2
      obtain ⟨X, hX', hXo, hXb, hXs, hXh⟩ := own_six hz (.slice m1.aA m1.a.length m1.ac) (.slice m1.bA m1.b.length m1.bc) (.int .i64 (i : Int)) (.int .i64 (j : Int)) (.slice m1.sA m1.f.length m1.sc) (.slice oA o.length oc)
      obtain ⟨r1, r2⟩ := out_fine (R := w.heap.size + 1) hst H2.out.2.2.2.2.2.1 H2.out.1.2 hXs hXh
      have HX := Lib.hid (And.intro (Below.drew (hXb w.heap.size w (H2.out.2.1.trans (hbb.mono H2.out.1.1)) (by omega))) (And.intro (own_drew' hXo) (And.intro (show MgIn X.drew X.drew.heap.size (outM m1 i j oA oc o) from r1.keep (Below.drew (Below.refl _ _))) (r2.mono H2.out.1.1))))
      have HR := Lib.hid hX'
      clear hst hbb hz hXo hXb hXs hXh hX' hC r1 r2 HS HDR
      go_wp2_with fail
      rw [← HR.out]
      obtain ⟨x0, x1, x2, x3, x4, x5⟩ := own6 HX.out.2.1
      exact bodyPost_ret (v := .tuple #[.agg #[.slice m1.aA m1.a.length m1.ac, .slice m1.bA m1.b.length m1.bc, .int .i64 (i : Int), .int .i64 (j : Int), .slice m1.sA m1.f.length m1.sc, .slice oA o.length oc], .int .i64 (k : Int), .int .i64 0]) (by simp [results, Tryz.results54, go_sem, x0, x1, x2, x3, x4, x5]) rfl ⟨outM m1 i j oA oc o, k, 0, rfl, .inr ⟨HM.out, ⟨H2.out.2.2.2.2.1.a, H2.out.2.2.2.2.1.b, H2.out.2.2.2.2.1.f, work_fin H2.out.2.2.2.2.1 HN.out.2.2.2.2.1 HN.out.1 HN.out.2.1 H2.out.2.2.2.2.2.2.2.1 HE.out⟩⟩, HX.out.2.2.1, ⟨H2.out.2.2.2.1.a, H2.out.2.2.2.1.b, H2.out.2.2.2.1.f, ⟨by have := HN.out.2.2.2.1; show o.length ≤ _; omega, HQ.out.1.ok⟩, ⟨by show -9223372036854775808 ≤ (i : Int); omega, by show (i : Int) ≤ 9223372036854775807; omega⟩, ⟨by show -9223372036854775808 ≤ (j : Int); omega, by show (j : Int) ≤ 9223372036854775807; omega⟩⟩, HX.out.2.2.2, HX.out.1⟩
    have hD : decide (i < m1.a.length ∨ j < m1.b.length) = true := decide_eq_true hlf
    rw [hD] at y1
    by_cases hf : (k : Int) < fuel
    case neg =>
      have t1 : decide ((k : Int) < fuel) = false := decide_eq_false hf
      have HE := Lib.hid (show workM m1.f fuel n (curM m1 i j k o) = { curM m1 i j k o with E := 0 } from work_full hf n)
      clear hD hlf hf c0 c1 c2 c3 c4 c5 c6
      go_wp2_with fail
      refine y1.out.mono ?_
      rintro _ wl ⟨rfl, q, hq⟩
      have h9 : WSt w1.heap.size P m1 i j k (.slice oA o.length oc) o wl := hq ▸ HC.out.1.past (below_draws (Below.refl _ _) q)
      have b9 : Below w1.heap.size V2 wl := hq ▸ below_draws HC.out.2 q
      have HQ := Lib.hid (And.intro h9 b9)
      have hC := fun p : Past wl => own7 ((h9.past p.h).own)
      obtain ⟨c0, c1, c2, c3, c4, c5, c6⟩ := own7 h9.own
      clear hq h9 b9 y1
      have hwt := hC ⟨wl, Below.refl _ _⟩
      obtain ⟨c0, c1, c2, c3, c4, c5, c6⟩ := hwt
      dsimp only at c0 c1 c2 c3 c4 c5 c6
      have HS := Lib.hid (fun W (h : Hp P wl W) => (⟨h.cell c0, h.cell c1, h.cell c2, h.cell c3, h.cell c4, h.cell c5, h.cell c6⟩ : W.cell? ⟨P, 0, none⟩ = some (.slice m1.aA m1.a.length m1.ac) ∧ W.cell? ⟨P, 1, none⟩ = some (.slice m1.bA m1.b.length m1.bc) ∧ W.cell? ⟨P, 2, none⟩ = some (.int .i64 (i : Int)) ∧ W.cell? ⟨P, 3, none⟩ = some (.int .i64 (j : Int)) ∧ W.cell? ⟨P, 4, none⟩ = some (.slice m1.sA m1.f.length m1.sc) ∧ W.cell? ⟨P, 5, none⟩ = some (.slice oA o.length oc) ∧ W.cell? ⟨P, 6, none⟩ = some (.int .i64 (k : Int))))
      have hself := Hp.refl P wl
      have hRP : w.heap.size + 1 ≠ P := by have h1 := H2.out.1.2; have h2 := HST.out.base_; omega
      have hwz := (H2.out.2.2.1.past HQ.out.2 (by have := H2.out.1.2; omega))
      obtain ⟨f0, f1, f2, f3, f4, f5⟩ := own_frozen6 hwz
      obtain ⟨z0, z1, z2, z3, z4, z5⟩ := own6 hwz
      clear hwz
      go_upto_region 9 with fail
      have HDR := Lib.hid (Below.drew (Below.refl wl.heap.size wl))
      go_region_held3 (fun w' => Hp P wl w' ∧ (w'.cell? ⟨P, 0, none⟩ = some (.slice m1.aA m1.a.length m1.ac) ∧ w'.cell? ⟨P, 1, none⟩ = some (.slice m1.bA m1.b.length m1.bc) ∧ w'.cell? ⟨P, 2, none⟩ = some (.int .i64 (i : Int)) ∧ w'.cell? ⟨P, 3, none⟩ = some (.int .i64 (j : Int)) ∧ w'.cell? ⟨P, 4, none⟩ = some (.slice m1.sA m1.f.length m1.sc) ∧ w'.cell? ⟨P, 5, none⟩ = some (.slice oA o.length oc) ∧ w'.cell? ⟨P, 6, none⟩ = some (.int .i64 (k : Int))))
        ((refine (fun h => And.intro h (HS.out _ h)) ?_; repeat (first | with_reducible exact hself | with_reducible refine Hp.set ?_ hRP _ _ | with_reducible refine Hp.drew ?_)))
        (fail)
      clear c0 c1 c2 c3 c4 c5 c6 f0 f1 f2 f3 f4 f5 z0 z1 z2 z3 z4 z5 hself
      have hz := (H2.out.2.2.1.past HQ.out.2 (by have := H2.out.1.2; omega))
      have hst := HQ.out.1
      have hbb := HQ.out.2
      obtain ⟨X, hX', hXo, hXb, hXs, hXh⟩ := own_six hz (.slice m1.aA m1.a.length m1.ac) (.slice m1.bA m1.b.length m1.bc) (.int .i64 (i : Int)) (.int .i64 (j : Int)) (.slice m1.sA m1.f.length m1.sc) (.slice oA o.length oc)
      obtain ⟨r1, r2⟩ := out_fine (R := w.heap.size + 1) hst H2.out.2.2.2.2.2.1 H2.out.1.2 hXs hXh
      have HX := Lib.hid (And.intro (Below.drew (hXb w.heap.size w (H2.out.2.1.trans (hbb.mono H2.out.1.1)) (by omega))) (And.intro (own_drew' hXo) (And.intro (show MgIn X.drew X.drew.heap.size (outM m1 i j oA oc o) from r1.keep (Below.drew (Below.refl _ _))) (r2.mono H2.out.1.1))))
      have HR := Lib.hid hX'
      clear hst hbb hz hXo hXb hXs hXh hX' hC r1 r2 HS HDR
      go_wp2_with fail
      rw [← HR.out]
      obtain ⟨x0, x1, x2, x3, x4, x5⟩ := own6 HX.out.2.1
      exact bodyPost_ret (v := .tuple #[.agg #[.slice m1.aA m1.a.length m1.ac, .slice m1.bA m1.b.length m1.bc, .int .i64 (i : Int), .int .i64 (j : Int), .slice m1.sA m1.f.length m1.sc, .slice oA o.length oc], .int .i64 (k : Int), .int .i64 0]) (by simp [results, Tryz.results54, go_sem, x0, x1, x2, x3, x4, x5]) rfl ⟨outM m1 i j oA oc o, k, 0, rfl, .inr ⟨HM.out, ⟨H2.out.2.2.2.2.1.a, H2.out.2.2.2.2.1.b, H2.out.2.2.2.2.1.f, work_fin H2.out.2.2.2.2.1 HN.out.2.2.2.2.1 HN.out.1 HN.out.2.1 H2.out.2.2.2.2.2.2.2.1 HE.out⟩⟩, HX.out.2.2.1, ⟨H2.out.2.2.2.1.a, H2.out.2.2.2.1.b, H2.out.2.2.2.1.f, ⟨by have := HN.out.2.2.2.1; show o.length ≤ _; omega, HQ.out.1.ok⟩, ⟨by show -9223372036854775808 ≤ (i : Int); omega, by show (i : Int) ≤ 9223372036854775807; omega⟩, ⟨by show -9223372036854775808 ≤ (j : Int); omega, by show (j : Int) ≤ 9223372036854775807; omega⟩⟩, HX.out.2.2.2, HX.out.1⟩
    have t1 : decide ((k : Int) < fuel) = true := decide_eq_true hf
    have hA9 := H2.out.2.2.2.2.2.2.1
    have HT := Lib.hid (And.intro hf hlf)
    clear hD hf c0 c1 c2 c3 c4 c5 c6
    go_wp2_with fail
    refine y1.out.mono ?_
    rintro _ wl ⟨rfl, q, hq⟩
    have h9 : WSt w1.heap.size P m1 i j k (.slice oA o.length oc) o wl := hq ▸ HC.out.1.past (below_draws (Below.refl _ _) q)
    have b9 : Below w1.heap.size V2 wl := hq ▸ below_draws HC.out.2 q
    have y3 := Lib.hid (step_anyB w1.heap.size P m1 i j k (.slice oA o.length oc) o wl h9 hA9.na hA9.nb H2.out.2.2.2.1.a H2.out.2.2.2.1.b H2.out.2.2.2.1.f hA9.ac hA9.bc HN.out.1 HN.out.2.1 HT.out.2 (by omega) HN.out.2.2.2.1)
    obtain ⟨c0, c1, c2, c3, c4, c5, c6⟩ := own7 h9.own
    have HZ := Lib.hid b9
    clear hq h9 b9 y1 hA9 hlf
    go_wp2_with fail
    refine y3.out.mono ?_
    rintro _ w5 ⟨u, E, hnx, hE, rfl, b5, hor⟩
    clear c0 c1 c2 c3 c4 c5 c6 y3
    by_cases h0 : E = 0
    case neg =>
      have t2 : (E != 0) = true := bne_iff_ne.2 h0
      have h5 : WSt w1.heap.size P m1 i j k (.slice oA o.length oc) o w5 := by
        rcases hor with ⟨_, h⟩ | ⟨e, _⟩
        · exact h
        · exact absurd e h0
      have hn0 : 0 < n := by have := HT.out.2; omega
      have HE := Lib.hid (show workM m1.f fuel n (curM m1 i j k o) = { curM m1 i j k o with E := E } from by
        obtain ⟨n', rfl⟩ : ∃ n', n = n' + 1 := ⟨n - 1, by omega⟩
        have hc : consE [advL m1.f (grp u (curM m1 i j k o).ra ++ grp u (curM m1 i j k o).rb)] ≠ 0 := fun h => h0 (hE.trans h)
        rw [work_err HT.out.1 hnx hc, hE]
        rfl)
      have HQ := Lib.hid (And.intro h5 (HZ.out.trans b5))
      have hC := fun p : Past w5 => own7 ((h5.past p.h).own)
      clear hor h0 hE hnx b5 h5 hn0
      have hwt := hC ⟨w5, Below.refl _ _⟩
      obtain ⟨c0, c1, c2, c3, c4, c5, c6⟩ := hwt
      dsimp only at c0 c1 c2 c3 c4 c5 c6
      have HS := Lib.hid (fun W (h : Hp P w5 W) => (⟨h.cell c0, h.cell c1, h.cell c2, h.cell c3, h.cell c4, h.cell c5, h.cell c6⟩ : W.cell? ⟨P, 0, none⟩ = some (.slice m1.aA m1.a.length m1.ac) ∧ W.cell? ⟨P, 1, none⟩ = some (.slice m1.bA m1.b.length m1.bc) ∧ W.cell? ⟨P, 2, none⟩ = some (.int .i64 (i : Int)) ∧ W.cell? ⟨P, 3, none⟩ = some (.int .i64 (j : Int)) ∧ W.cell? ⟨P, 4, none⟩ = some (.slice m1.sA m1.f.length m1.sc) ∧ W.cell? ⟨P, 5, none⟩ = some (.slice oA o.length oc) ∧ W.cell? ⟨P, 6, none⟩ = some (.int .i64 (k : Int))))
      have hself := Hp.refl P w5
      have hRP : w.heap.size + 1 ≠ P := by have h1 := H2.out.1.2; have h2 := HST.out.base_; omega
      have hwz := (H2.out.2.2.1.past HQ.out.2 (by have := H2.out.1.2; omega))
      obtain ⟨f0, f1, f2, f3, f4, f5⟩ := own_frozen6 hwz
      obtain ⟨z0, z1, z2, z3, z4, z5⟩ := own6 hwz
      clear hwz
      go_upto_region 8 with fail
      have HDR := Lib.hid (Below.drew (Below.refl w5.heap.size w5))
      go_region_held3 (fun w' => Hp P w5 w' ∧ (w'.cell? ⟨P, 0, none⟩ = some (.slice m1.aA m1.a.length m1.ac) ∧ w'.cell? ⟨P, 1, none⟩ = some (.slice m1.bA m1.b.length m1.bc) ∧ w'.cell? ⟨P, 2, none⟩ = some (.int .i64 (i : Int)) ∧ w'.cell? ⟨P, 3, none⟩ = some (.int .i64 (j : Int)) ∧ w'.cell? ⟨P, 4, none⟩ = some (.slice m1.sA m1.f.length m1.sc) ∧ w'.cell? ⟨P, 5, none⟩ = some (.slice oA o.length oc) ∧ w'.cell? ⟨P, 6, none⟩ = some (.int .i64 (k : Int))))
        ((refine (fun h => And.intro h (HS.out _ h)) ?_; repeat (first | with_reducible exact hself | with_reducible refine Hp.set ?_ hRP _ _ | with_reducible refine Hp.drew ?_)))
        (fail)
      clear c0 c1 c2 c3 c4 c5 c6 f0 f1 f2 f3 f4 f5 z0 z1 z2 z3 z4 z5 hself
      have hz := (H2.out.2.2.1.past HQ.out.2 (by have := H2.out.1.2; omega))
      have hst := HQ.out.1
      have hbb := HQ.out.2
      obtain ⟨X, hX', hXo, hXb, hXs, hXh⟩ := own_six hz (.slice m1.aA m1.a.length m1.ac) (.slice m1.bA m1.b.length m1.bc) (.int .i64 (i : Int)) (.int .i64 (j : Int)) (.slice m1.sA m1.f.length m1.sc) (.slice oA o.length oc)
      obtain ⟨r1, r2⟩ := out_fine (R := w.heap.size + 1) hst H2.out.2.2.2.2.2.1 H2.out.1.2 hXs hXh
      have HX := Lib.hid (And.intro (Below.drew (hXb w.heap.size w (H2.out.2.1.trans (hbb.mono H2.out.1.1)) (by omega))) (And.intro (own_drew' hXo) (And.intro (show MgIn X.drew X.drew.heap.size (outM m1 i j oA oc o) from r1.keep (Below.drew (Below.refl _ _))) (r2.mono H2.out.1.1))))
      have HR := Lib.hid hX'
      clear hst hbb hz hXo hXb hXs hXh hX' hC r1 r2 HS HDR
      go_wp2_with fail
      rw [← HR.out]
      obtain ⟨x0, x1, x2, x3, x4, x5⟩ := own6 HX.out.2.1
      exact bodyPost_ret (v := .tuple #[.agg #[.slice m1.aA m1.a.length m1.ac, .slice m1.bA m1.b.length m1.bc, .int .i64 (i : Int), .int .i64 (j : Int), .slice m1.sA m1.f.length m1.sc, .slice oA o.length oc], .int .i64 (k : Int), .int .i64 E]) (by simp [results, Tryz.results54, go_sem, x0, x1, x2, x3, x4, x5]) rfl ⟨outM m1 i j oA oc o, k, E, rfl, .inr ⟨HM.out, ⟨H2.out.2.2.2.2.1.a, H2.out.2.2.2.2.1.b, H2.out.2.2.2.2.1.f, work_fin H2.out.2.2.2.2.1 HN.out.2.2.2.2.1 HN.out.1 HN.out.2.1 H2.out.2.2.2.2.2.2.2.1 HE.out⟩⟩, HX.out.2.2.1, ⟨H2.out.2.2.2.1.a, H2.out.2.2.2.1.b, H2.out.2.2.2.1.f, ⟨by have := HN.out.2.2.2.1; show o.length ≤ _; omega, HQ.out.1.ok⟩, ⟨by show -9223372036854775808 ≤ (i : Int); omega, by show (i : Int) ≤ 9223372036854775807; omega⟩, ⟨by show -9223372036854775808 ≤ (j : Int); omega, by show (j : Int) ≤ 9223372036854775807; omega⟩⟩, HX.out.2.2.2, HX.out.1⟩
    subst h0
    obtain ⟨v', e, he, h5⟩ : ∃ (v' : Value) (e : List Up), e.map Up.p = consL [advL m1.f (grp u (m1.a.drop i) ++ grp u (m1.b.drop j))] ∧ WSt w1.heap.size P m1 (i + (grp u (m1.a.drop i)).length) (j + (grp u (m1.b.drop j)).length) (k + ((grp u (m1.a.drop i)).length + (grp u (m1.b.drop j)).length)) v' (o ++ e) w5 := by
      rcases hor with ⟨h, _⟩ | ⟨_, h⟩
      · exact absurd rfl h
      · exact h
    have hpos := grp_pos hnx
    have hg1 := grp_lens u m1.a i
    have hg2 := grp_lens u m1.b j
    have hel : e.length ≤ (grp u (m1.a.drop i)).length + (grp u (m1.b.drop j)).length := by
      have := consL_len [advL m1.f (grp u (m1.a.drop i) ++ grp u (m1.b.drop j))]
      rw [← he, List.length_map] at this
      simp only [List.flatten_cons, List.flatten_nil, List.append_nil, advL_len, List.length_append] at this
      exact this
    have hwk : workM m1.f fuel n (curM m1 i j k o) = workM m1.f fuel (n - 1) (curM m1 (i + (grp u (m1.a.drop i)).length) (j + (grp u (m1.b.drop j)).length) (k + ((grp u (m1.a.drop i)).length + (grp u (m1.b.drop j)).length)) (o ++ e)) := by
      obtain ⟨n', rfl⟩ : ∃ n', n = n' + 1 := ⟨n - 1, by have := HT.out.2; omega⟩
      rw [work_more HT.out.1 hnx hE.symm, cur_step m1 i j k o e u he]
      rfl
    have H5 := Lib.hid (And.intro h5 (And.intro (HZ.out.trans b5) (And.intro hpos (And.intro hg1 (And.intro hg2 (And.intro hel hwk))))))
    obtain ⟨c0, c1, c2, c3, c4, c5, c6⟩ := own7 h5.own
    have HM2 := Lib.hid (And.intro c2 c3)
    have HM0 := Lib.hid (own7 HC.out.1.own)
    clear hor hE hnx b5 h5 he hpos hg1 hg2 hel hwk c0 c1 c2 c3 c4 c5 c6
    go_wp2_with fail
    go_roundw
    case rel =>
      have q1 := H5.out.2.2.1
      have q2 := H5.out.2.2.2.1
      have q3 := H5.out.2.2.2.2.1
      have q4 := H5.out.2.2.2.2.2.1
      exact ⟨_, _, _, v', o ++ e, n - 1, H5.out.1, H5.out.2.1, by omega, by omega, by omega, by rw [List.length_append]; omega, HN.out.2.2.2.2.1.trans H5.out.2.2.2.2.2.2, by omega⟩
    case measure =>
      have q1 := H5.out.2.2.1
      have q2 := H5.out.2.2.2.1
      have q3 := H5.out.2.2.2.2.1
      rw [HM2.out.1, HM2.out.2, HM0.out.2.2.1, HM0.out.2.2.2.1]
      simp only [Option.getD_some, intOf]
      omega
end Go.Proofs.YtgalemkjgaiphaaGreat
namespace Go.Proofs.YtgalemkjgaiphaaGreat
open Go Go.RowKit

structure MgOpnC (w : World) (B : Nat) (m : Mg) : Prop where
  a : LOpnC w B m.aA m.a
  b : LOpnC w B m.bA m.b
  o : LOpnC w B m.oA m.o
theorem UOpnC.low {w : World} {B B' : Nat} {u : Up} (h : UOpnC w B u) (hB : B' ≤ B) : UOpnC w B' u := ⟨fun hp => (h.1 hp).low hB, fun hp => (h.2 hp).low hB⟩
theorem LOpnC.low {w : World} {B B' : Nat} {A : Option Addr} {l : List Up} (h : LOpnC w B A l) (hB : B' ≤ B) : LOpnC w B' A l := ⟨fun hp => (h.1 hp).low hB, fun u hu => (h.2 u hu).low hB⟩
theorem MgOpnC.low {w : World} {B B' : Nat} {m : Mg} (h : MgOpnC w B m) (hB : B' ≤ B) : MgOpnC w B' m := ⟨h.a.low hB, h.b.low hB, h.o.low hB⟩
theorem MgOpnC.past {w w' : World} {B : Nat} {m : Mg} (h : MgOpnC w B m) (hb : Below w.heap.size w w') : MgOpnC w' B m := ⟨h.a.past hb, h.b.past hb, h.o.past hb⟩
theorem OpnC.other {w X : World} {B P n : Nat} {A : Option Addr} (h : OpnC w B A n) (hP : P < B) (hX : ∀ b, b ≠ P → X.heap[b]? = w.heap[b]?) : OpnC X B A n := fun hp => (h hp).other (fun b o e => Nat.lt_of_lt_of_le hP (h hp b o e).1) hX
theorem UOpnC.other {w X : World} {B P : Nat} {u : Up} (h : UOpnC w B u) (hP : P < B) (hX : ∀ b, b ≠ P → X.heap[b]? = w.heap[b]?) : UOpnC X B u := ⟨h.1.other hP hX, h.2.other hP hX⟩
theorem LOpnC.other {w X : World} {B P : Nat} {A : Option Addr} {l : List Up} (h : LOpnC w B A l) (hP : P < B) (hX : ∀ b, b ≠ P → X.heap[b]? = w.heap[b]?) : LOpnC X B A l := ⟨h.1.other hP hX, fun u hu => (h.2 u hu).other hP hX⟩
def WorkedO (m : Mg) (fuel : Int) (w : World) (x : Ending) (w' : World) : Prop :=
  ∃ (m' : Mg) (c E : Int), x = .returned (.tuple #[m'.val, .int .i64 c, .int .i64 E]) ∧ (¬ MOk m ∧ m' = Mg.nil ∧ c = 0 ∧ E = 8 ∨ MOk m ∧ WorkOk m m' fuel c E) ∧ MgIn w' w'.heap.size m' ∧ MgOk m' ∧ MgLo w.heap.size m' ∧ Below w.heap.size w w' ∧ MgOpnC w' w.heap.size m'
end Go.Proofs.YtgalemkjgaiphaaGreat
namespace Go.Proofs.YtgalemkjgaiphaaGreat
open Go Go.RowKit

def EndOk (m : Mg) : Prop := MOk m ∧ m.i = (m.a.length : Int) ∧ m.j = (m.b.length : Int)
def EndSaysB (m : Mg) (w : World) (x : Ending) (w' : World) : Prop :=
  ∃ (b : Bt) (E : Int), x = .returned (.tuple #[b.val, .int .i64 E]) ∧ (E = 0 ∧ EndOk m ∧ b.f = m.f ∧ b.l.map Up.p = m.o.map Up.p ∨ E = 8 ∧ ¬ EndOk m ∧ b = Bt.nil) ∧ BtIn w' w'.heap.size b ∧ BtOk b ∧ BtLo w.heap.size b ∧ Below w.heap.size w w'
theorem en_box (w : World) (m : Mg) : ∃ V, V = (w.alloc (.cells #[.slice m.aA m.a.length m.ac, .slice m.bA m.b.length m.bc, .int .i64 m.i, .int .i64 m.j, .slice m.sA m.f.length m.sc, .slice m.oA m.o.length m.oc] 41)).alloc (.cells #[.slice none 0 0, .slice none 0 0] 39) ∧ Below w.heap.size w V ∧ Own V w.heap.size 41 m.cells ∧ Own V (w.heap.size + 1) 39 [.slice none 0 0, .slice none 0 0] := by
  refine ⟨_, rfl, ((Below.refl _ _).alloc (Nat.le_refl _) _).alloc (by simp) _, (Own.made w 41 m.cells).more _, ?_⟩
  exact own_next (w := w.alloc (.cells #[.slice m.aA m.a.length m.ac, .slice m.bA m.b.length m.bc, .int .i64 m.i, .int .i64 m.j, .slice m.sA m.f.length m.sc, .slice m.oA m.o.length m.oc] 41)) (l := [.slice none 0 0, .slice none 0 0]) (by simp)
set_option maxRecDepth 100000 in
set_option maxHeartbeats 12800000 in
theorem end_any (m : Mg) (w : World) (hm : MgIn w w.heap.size m) (hok : MgOk m) (no : m.o.length ≤ 274877906944) :
    Calls Tryz.prog 98 #[m.val] w (EndSaysB m w) := by
  obtain ⟨V, hV, hvb, hvo, hvz⟩ := en_box w m
  have hin := hm.keep hvb
  have y1 := Lib.hid (checkM_any m V hin hok)
  have HB := Lib.hid (And.intro hvb (And.intro hvo hvz))
  have HK := Lib.hid (And.intro hin (And.intro hok no))
  have hmv : m.val = .agg #[.slice m.aA m.a.length m.ac, .slice m.bA m.b.length m.bc, .int .i64 m.i, .int .i64 m.j, .slice m.sA m.f.length m.sc, .slice m.oA m.o.length m.oc] := rfl
  rw [hmv] at y1 ⊢
  obtain ⟨d0, d1, d2, d3, d4, d5⟩ := own6 hvo
  clear hm hok hvb hvo hvz hin hmv no
  go_enter Tryz.func98, Tryz.ntmps98
  go_upto_region 1 with fail
  rw [← hV]
  clear hV
  go_wp2_with fail
  refine y1.out.mono ?_
  rintro _ w1 ⟨n, rfl, hn, b1⟩
  have H1 := Lib.hid (And.intro hn (And.intro (HB.out.1.trans (b1.mono HB.out.1.size)) (And.intro (HB.out.2.1.past b1 HB.out.2.1.inside) (And.intro (HB.out.2.2.past b1 HB.out.2.2.inside) (HK.out.1.keep b1)))))
  clear d0 d1 d2 d3 d4 d5 b1 y1 hn
  by_cases h0 : n = 0
  case neg =>
    have t1 : (n != 0) = true := bne_iff_ne.2 h0
    have hz := H1.out.2.2.2.1
    have f0 := hz.open_ 0
    have f1 := hz.open_ 1
    obtain ⟨d0, d1⟩ := own2 hz
    have hX := (hz.set_ 0 (.slice none 0 0)).set_ 1 (.slice none 0 0)
    have HX := Lib.hid (And.intro (H1.out.2.1.setCell (p := ⟨w.heap.size + 1, 0, none⟩) (Nat.le_succ _) (.slice none 0 0) |>.setCell (p := ⟨w.heap.size + 1, 1, none⟩) (Nat.le_succ _) (.slice none 0 0)) hX)
    have H0 := Lib.hid (show n = 8 ∧ ¬ MOk m from by
      rcases H1.out.1 with ⟨_, e⟩ | ⟨e, e2⟩
      · exact absurd e h0
      · exact ⟨e2, e⟩)
    clear h0 hz hX
    go_wp2_with fail
    obtain ⟨x0, x1⟩ := own2 HX.out.2
    exact bodyPost_ret (v := .tuple #[.agg #[.slice none 0 0, .slice none 0 0], .int .i64 n]) (by simp [results, Tryz.results98, go_sem, x0, x1]) rfl ⟨Bt.nil, n, rfl, .inr ⟨H0.out.1, fun h => H0.out.2 h.1, rfl⟩, bt_nil_in _ _, bt_nil_ok, bt_nil_lo _, HX.out.1⟩
  subst h0
  have hmok : MOk m := by
    rcases H1.out.1 with ⟨e, _⟩ | ⟨_, e⟩
    · exact e
    · omega
  obtain ⟨i, hi⟩ : ∃ i : Nat, m.i = (i : Int) := ⟨m.i.toNat, by have := hmok.da.lo; omega⟩
  obtain ⟨j, hj⟩ : ∃ j : Nat, m.j = (j : Int) := ⟨m.j.toNat, by have := hmok.db.lo; omega⟩
  have hil : i ≤ m.a.length := by have := hmok.da.hi; omega
  have hjl : j ≤ m.b.length := by have := hmok.db.hi; omega
  have hna := HK.out.2.1.a.n
  have hnb := HK.out.2.1.b.n
  obtain ⟨d0, d1, d2, d3, d4, d5⟩ := own6 H1.out.2.2.1
  rw [hi] at d2
  rw [hj] at d3
  obtain ⟨V2, hV2⟩ : ∃ V2, V2 = w1.alloc (.cells #[.slice m.aA m.a.length m.ac, .slice m.bA m.b.length m.bc, .int .i64 (i : Int), .int .i64 (j : Int), .slice m.sA m.f.length m.sc, .slice m.oA m.o.length m.oc, .int .i64 0] 129) := ⟨_, rfl⟩
  have hbV : Below w1.heap.size w1 V2 := by rw [hV2]; exact (Below.refl _ _).alloc (Nat.le_refl _) _
  have hP : Own V2 w1.heap.size 129 (mcells m i j (.slice m.oA m.o.length m.oc) 0) := by rw [hV2]; exact Own.made w1 _ (mcells m i j (.slice m.oA m.o.length m.oc) 0)
  have y2 := Lib.hid (left_any w1.heap.size m i j 0 _ V2 hP (by omega) (by omega) hna hnb)
  have H2 := Lib.hid (And.intro (H1.out.2.1.trans (hbV.mono H1.out.2.1.size)) (And.intro (H1.out.2.2.1.past hbV H1.out.2.2.1.inside) (And.intro (H1.out.2.2.2.1.past hbV H1.out.2.2.2.1.inside) (And.intro (H1.out.2.2.2.2.keep hbV) (And.intro hmok (And.intro hi hj))))))
  have HR := Lib.hid hV2
  clear hbV hP hmok hi hj hV2
  by_cases hlf : i < m.a.length ∨ j < m.b.length
  case pos =>
    have hD : decide (i < m.a.length ∨ j < m.b.length) = true := decide_eq_true hlf
    rw [hD] at y2
    have H0 := Lib.hid (show ¬ EndOk m from fun h => by have h1 := h.2.1; have h2 := h.2.2; rw [H2.out.2.2.2.2.2.1] at h1; rw [H2.out.2.2.2.2.2.2] at h2; omega)
    clear hD hlf
    go_wp2_with fail
    rw [← HR.out]
    refine y2.out.mono ?_
    rintro _ wl ⟨rfl, q, hq⟩
    have hz : Own wl (w.heap.size + 1) 39 [.slice none 0 0, .slice none 0 0] := hq ▸ H2.out.2.2.1.draws q
    have hb9 : Below w.heap.size w wl := hq ▸ below_draws H2.out.1 q
    have f0 := hz.open_ 0
    have f1 := hz.open_ 1
    clear d0 d1 d2 d3 d4 d5 hq y2
    obtain ⟨d0, d1⟩ := own2 hz
    have hX := (hz.set_ 0 (.slice none 0 0)).set_ 1 (.slice none 0 0)
    have HX := Lib.hid (And.intro (hb9.setCell (p := ⟨w.heap.size + 1, 0, none⟩) (Nat.le_succ _) (.slice none 0 0) |>.setCell (p := ⟨w.heap.size + 1, 1, none⟩) (Nat.le_succ _) (.slice none 0 0)) hX)
    clear hz hX hb9
    go_wp2_with fail
    obtain ⟨x0, x1⟩ := own2 HX.out.2
    exact bodyPost_ret (v := .tuple #[.agg #[.slice none 0 0, .slice none 0 0], .int .i64 8]) (by simp [results, Tryz.results98, go_sem, x0, x1]) rfl ⟨Bt.nil, 8, rfl, .inr ⟨rfl, H0.out, rfl⟩, bt_nil_in _ _, bt_nil_ok, bt_nil_lo _, HX.out.1⟩
  have hD : decide (i < m.a.length ∨ j < m.b.length) = false := decide_eq_false hlf
  rw [hD] at y2
  have H0 := Lib.hid (show EndOk m from ⟨H2.out.2.2.2.2.1, by rw [H2.out.2.2.2.2.2.1]; omega, by rw [H2.out.2.2.2.2.2.2]; omega⟩)
  clear hD hlf
  go_wp2_with fail
  rw [← HR.out]
  refine y2.out.mono ?_
  rintro _ wl ⟨rfl, q, hq⟩
  have hz : Own wl (w.heap.size + 1) 39 [.slice none 0 0, .slice none 0 0] := hq ▸ H2.out.2.2.1.draws q
  have hm9 : Own wl w.heap.size 41 m.cells := hq ▸ H2.out.2.1.draws q
  have hb9 : Below w.heap.size w wl := hq ▸ below_draws H2.out.1 q
  have hi9 : MgIn wl wl.heap.size m := hq ▸ H2.out.2.2.2.1.keep (below_draws (Below.refl _ _) q)
  clear d0 d1 d2 d3 d4 d5 hq y2
  obtain ⟨d0, d1, d2, d3, d4, d5⟩ := own6 hm9
  have y3 := Lib.hid (copyB_any ⟨m.sA, m.sc, m.f, m.oA, m.oc, m.o⟩ wl ⟨hi9.f, hi9.o⟩ ⟨HK.out.2.1.f, HK.out.2.1.o⟩ H0.out.1.even.2.2.2.2 HK.out.2.2)
  rw [show (Bt.mk m.sA m.sc m.f m.oA m.oc m.o).val = .agg #[.slice m.sA m.f.length m.sc, .slice m.oA m.o.length m.oc] from rfl] at y3
  have H9 := Lib.hid (And.intro hz hb9)
  clear hz hm9 hb9 hi9
  go_wp2_with fail
  refine y3.out.mono ?_
  rintro _ w5 ⟨b, rfl, hs5, hi5, ho5, hl5, b5⟩
  have hz := H9.out.1.past b5 H9.out.1.inside
  have f0 := hz.open_ 0
  have f1 := hz.open_ 1
  clear d0 d1 d2 d3 d4 d5 y3
  obtain ⟨d0, d1⟩ := own2 hz
  have hX := (hz.set_ 0 (.slice b.sA b.f.length b.sc)).set_ 1 (.slice b.uA b.l.length b.uc)
  obtain ⟨s1, s2⟩ := set2_other w5 (w.heap.size + 1) (.slice b.sA b.f.length b.sc) (.slice b.uA b.l.length b.uc)
  have hin9 := H9.out.1.inside
  have hw9 := H9.out.2.size
  have HX := Lib.hid (And.intro ((H9.out.2.trans (b5.mono H9.out.2.size)).setCell (p := ⟨w.heap.size + 1, 0, none⟩) (Nat.le_succ _) (.slice b.sA b.f.length b.sc) |>.setCell (p := ⟨w.heap.size + 1, 1, none⟩) (Nat.le_succ _) (.slice b.uA b.l.length b.uc)) (And.intro hX (And.intro (And.intro (times_other hi5.since (hl5.f.mono (by omega)) s1 s2) (ups_other hi5.ups (hl5.l.mono (by omega)) s1 s2)) (And.intro (hl5.mono (by omega)) (And.intro ho5 hs5)))))
  clear hz hX s1 s2 hin9 hw9 hs5 hi5 ho5 hl5 b5
  unfold Bt.val
  go_wp2_with fail
  obtain ⟨x0, x1⟩ := own2 HX.out.2.1
  exact bodyPost_ret (v := .tuple #[.agg #[.slice b.sA b.f.length b.sc, .slice b.uA b.l.length b.uc], .int .i64 0]) (by simp [results, Tryz.results98, go_sem, x0, x1]) rfl ⟨b, 0, rfl, .inl ⟨rfl, H0.out, HX.out.2.2.2.2.2.f, HX.out.2.2.2.2.2.l⟩, ⟨HX.out.2.2.1.1, HX.out.2.2.1.2⟩, HX.out.2.2.2.2.1, HX.out.2.2.2.1, HX.out.1⟩
end Go.Proofs.YtgalemkjgaiphaaGreat
