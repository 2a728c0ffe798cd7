/- The program's look at a plan and at those in it: the walk. -/
import Derived.Test.YtjidjpmdmcleoaaPLook
namespace Go.Proofs.Ytjidjpmdmcleoaa
open Go Go.RowKit

def LookPC (n : Nat) : Prop := ∀ (p : Px) (l : Int) (s : Ft) (b o g : Nat) (w : World), PxOk n p → PxIn w g n p → PAt w b o p → b < g → (0 ≤ l ∧ l ≤ 17 - (n : Int)) → Own w g 87 (ftL s) →
  Calls Try.prog 54 #[.pointer (some ⟨g, 0, none⟩), .pointer (some ⟨b, o, none⟩), .int .i64 (17 - (n : Int)), .int .i64 l] w fun x w' => x = .returned (.tuple #[]) ∧ Upd w w' g 87 (ftL (lookP n p l s))
set_option maxRecDepth 100000 in
set_option maxHeartbeats 3200000 in
theorem lookP_zero : LookPC 0 := by
  intro p l s b o g w _ _ _ _ _ h
  have c0 := h.at_ 0
  simp only [ftL, List.getElem?_cons_zero] at c0
  have HO := Lib.hid h
  clear h
  go_enter Try.func54, Try.ntmps54
  go_wp2_with fail
  exact bodyPost_ret (results_none rfl _ _ _) rfl ⟨rfl, Upd.same HO.out⟩
theorem foldK_next {σ : Type} {f : Nat → Px → σ → σ} {l : List Px} {k : Nat} {x : Px} (h : l[k]? = some x) (s : σ) : foldK f 0 (l.take (k + 1)) s = f k x (foldK f 0 (l.take k) s) := by
  have hk : k < l.length := (List.getElem?_eq_some_iff.1 h).1
  rw [List.take_add_one, h]
  show foldK f 0 (l.take k ++ [x]) s = _
  rw [foldK_snoc, List.length_take, Nat.min_eq_left (by omega), Nat.zero_add]
set_option maxRecDepth 100000 in
set_option maxHeartbeats 6400000 in
theorem lookP_next_any {n : Nat} (hn : n ≤ 16) (ih : LookPC n) : LookPC (n + 1) := by
  intro p l s b o g w hok hin hat hbg hl h
  have hg := h.inside
  have f0 := h.open_ 0
  have f1 := h.open_ 1
  have f2 := h.open_ 2
  have f3 := h.open_ 3
  have c0 := h.at_ 0
  have c1 := h.at_ 1
  have c2 := h.at_ 2
  have c3 := h.at_ 3
  simp only [ftL, List.getElem?_cons_zero, List.getElem?_cons_succ] at c0 c1 c2 c3
  have t0 : decide ((16 : Int) < 17 - ((n + 1 : Nat) : Int)) = false := by simp; omega
  have e0 : (17 - ((n + 1 : Nat) : Int)) = 16 - (n : Int) := by omega
  rw [e0] at t0 ⊢
  by_cases hs : s.why = 0
  case neg =>
    have t1 : (s.why != 0) = true := by simpa using hs
    have HH := Lib.hid (And.intro h hs)
    clear h hs hok hin hat ih
    go_enter Try.func54, Try.ntmps54
    go_wp2_with fail
    exact bodyPost_ret (results_none rfl _ _ _) rfl ⟨rfl, (Upd.same HH.out.1).as (by rw [lookP_stay _ _ _ _ HH.out.2])⟩
  case pos =>
    have t1 : (s.why != 0) = false := by simpa using hs
    have hb8 := hat.eight
    have HH := Lib.hid (And.intro hok (And.intro hin (And.intro hat hs)))
    have HO := Lib.hid h
    have IH := Lib.hid ih
    have HL := Lib.hid hl
    clear h hok hin hat ih hl hb8
    go_enter Try.func54, Try.ntmps54
    go_upto_region 4 with fail
    obtain ⟨V, hV⟩ : ∃ V, ((w.setCell ⟨g, 1, none⟩ (.int .i64 (wrap64 (s.nodes + 1)))).setCell ⟨g, 2, none⟩ (.int .i64 (max s.depth (16 - (n : Int) + 1)))).setCell ⟨g, 3, none⟩ (.int .i64 (max s.loops l)) = V := ⟨_, rfl⟩
    rw [hV]
    have hU : Upd w V g 87 (ftL ⟨s.why, w64 (s.nodes + 1), max s.depth (17 - (n : Int)), max s.loops l, s.long⟩) := hV ▸ ((((Upd.same HO.out).set_ 1 _).set_ 2 _).set_ 3 _).as (by rw [wrap_w64, show (16 - (n : Int) + 1) = 17 - (n : Int) by omega]; rfl)
    rw [hs] at hU
    have HU := Lib.hid hU
    have hsz := hU.grow.size
    clear hV hU t0 t1 hs f0 f1 f2 f3 c0 c1 c2 c3
    go_cut [52] (fun v wx => v = .bool (!fitsP p) ∧ Upd w wx g 87 (ftL ⟨0, w64 (s.nodes + 1), max s.depth (17 - (n : Int)), max s.loops l, s.long⟩))
    case first =>
      have hat := HH.out.2.2.1.past (HU.out.below (Nat.le_refl _) (Nat.le_of_lt hg)) hbg
      have hsh := Lib.hid (shape_any p b o V hat (by omega))
      have hag := HH.out.1.1.2.1
      have hft := fun W h1 h2 => Lib.hid (fits_any (shp p.kind p.agg) p b o W h1 h2 hag)
      have hat := Lib.hid hat
      have HF := Lib.hid (show fitsP p = (shp p.kind p.agg).fits p from rfl)
      generalize shp p.kind p.agg = S at *
      go_wp2_with fail
      refine hsh.out.mono ?_
      rintro _ w1 ⟨rfl, b1⟩
      have H1 := Lib.hid (And.intro (HU.out.quiet b1) (hat.out.past b1 (by omega)))
      have hz1 := b1.size
      have hfc := hft w1 H1.out.2 (by omega)
      clear b1 hft hsh
      generalize S.val = sv at *
      generalize S.fits p = F at *
      go_wp2_with fail
      refine hfc.out.mono ?_
      rintro _ w2 ⟨rfl, b2⟩
      have H2 := Lib.hid (H1.out.1.quiet b2)
      clear b2
      go_wp2_with fail
      go_meet
      exact ⟨by rw [HF.out], H2.out⟩
    case rest =>
    obtain ⟨rfl, hcut⟩ := hcut
    have H2 := Lib.hid hcut
    clear hcut
    go_upto_if 52 with fail
    go_cut [] (fun wx => Upd w wx g 87 (ftL ⟨if fitsP p then 0 else 4, w64 (s.nodes + 1), max s.depth (17 - (n : Int)), max s.loops l, s.long⟩))
    case first =>
      cases hn : fitsP p with
      | true =>
        go_wp2_with fail
        go_meet
        exact H2.out.as (by rw [hn]; rfl)
      | false =>
        go_wp2_with fail
        refine (fail_any g _ _ 4 _ _ H2.out.own).mono ?_
        rintro _ w3 ⟨rfl, u3⟩
        have H3 := Lib.hid (H2.out.trans u3)
        clear u3
        go_wp2_with fail
        go_meet
        exact H3.out.as (by rw [hn]; rfl)
    case rest =>
      have H1 := Lib.hid hcut
      have hat := HH.out.2.2.1.past (hcut.below (Nat.le_refl _) (Nat.le_of_lt hg)) hbg
      obtain ⟨d0, d1, d2, d3, d4, d5, d6, d7⟩ := hat.eight
      clear hat hcut HU hsz
      have hle : p.exprs.length ≤ maxLen ∧ p.kids.length ≤ maxLen := ⟨HH.out.1.2.1.2.1, HH.out.1.2.1.1⟩
      unfold maxLen at hle
      obtain ⟨hle, hlk⟩ := hle
      obtain ⟨S0, hS0⟩ : ∃ S0 : Ft, S0 = ⟨if fitsP p then 0 else 4, w64 (s.nodes + 1), max s.depth (17 - (n : Int)), max s.loops l, s.long⟩ := ⟨_, rfl⟩
      have HS := Lib.hid (show startP p n l s = p.exprs.foldl lookX S0 by rw [hS0]; rfl)
      rw [← hS0] at H1
      clear hS0
      go_wp2_with fail
      go_loopw [62] (fun i wr => ∃ k : Nat, i = .int .i64 (k : Int) ∧ k ≤ p.exprs.length ∧ Upd w wr g 87 (ftL ((p.exprs.take k).foldl lookX S0)))
        (fun i _ => p.exprs.length - (intOf i).toNat)
      case atStart => exact ⟨0, rfl, by omega, H1.out⟩
      case round =>
        obtain ⟨k, rfl, hk, hu⟩ := hrel
        by_cases hlt : k < p.exprs.length
        · have hx : p.exprs[k]? = some p.exprs[k] := List.getElem?_eq_getElem hlt
          obtain ⟨b', o', hA, hB', hxs⟩ := lies_lx HH.out.2.1.1.2.1 (by omega)
          have hbw := hu.below (Nat.le_refl _) (Nat.le_of_lt hg)
          have hxa := (hxs k _ hx).past hbw hB'
          have hmem := List.mem_of_getElem? hx
          have hxi := (HH.out.2.1.2.1 _ hmem).past hbw (Nat.le_refl _)
          have hxo := HH.out.1.2.2.1 _ hmem
          have hst : (p.exprs.take (k + 1)).foldl lookX S0 = lookX ((p.exprs.take k).foldl lookX S0) p.exprs[k] := by
            rw [List.take_add_one, hx, List.foldl_append]; rfl
          obtain ⟨a0, a1, a2, a3, a4, a5⟩ := hxa.six
          obtain ⟨W, hW, fb, hsz, fx⟩ := lxbox wr p.exprs[k]
          have hgw := hu.own.inside
          have hcall := Lib.hid (lookExpr_any p.exprs[k] _ g W hxo (hxi.past (fb.mono (by omega)) (Nat.le_refl _)) (hu.own.past fb hgw))
          have hsix := (lxAt_own fx).six
          simp only [Nat.zero_add] at hsix
          obtain ⟨x0, x1, x2, x3, x4, x5⟩ := hsix
          have HX := Lib.hid (And.intro (hu.quiet fb) hst)
          generalize p.exprs[k] = e at *
          unfold Lx.val at hcall
          have q0 : (0 : Int) ≤ (k : Int) := by omega
          have q1 : (k : Int) < (p.exprs.length : Int) := by omega
          rw [hA] at d3 ⊢
          clear hu hx hxs hbw hxa hmem hxi hxo hst hA fb hsz fx
          go_upto_region 9 with fail
          rw [← hW]
          clear hW
          go_wp2_with fail
          refine hcall.out.mono ?_
          rintro _ w2 ⟨rfl, u2⟩
          have U2 := Lib.hid (HX.out.1.trans u2)
          clear u2
          go_wp2_with fail
          go_roundw
          case rel => exact ⟨k + 1, by go_num, by omega, U2.out.as (by rw [HX.out.2])⟩
          case measure => simp [intOf]; omega
        · have hk2 : k = p.exprs.length := by omega
          subst hk2
          rw [List.take_length] at hu
          have HU := Lib.hid (hu.as (by rw [← HS.out]))
          have hat := HH.out.2.2.1.past (hu.below (Nat.le_refl _) (Nat.le_of_lt hg)) hbg
          obtain ⟨d0, d1, d2, d3, d4, d5, d6, d7⟩ := hat.eight
          clear hat hu d1 d3 d4 d5 d6 d7
          go_wp2_with fail
          go_loopw [75] (fun i wr => ∃ k : Nat, i = .int .i64 (k : Int) ∧ k ≤ p.kids.length ∧ Upd w wr g 87 (ftL (foldK (fun i k s => lookP n k (arnd p i l) s) 0 (p.kids.take k) (startP p n l s))))
            (fun i _ => p.kids.length - (intOf i).toNat)
          case atStart => exact ⟨0, rfl, by omega, HU.out⟩
          case round =>
            obtain ⟨k, rfl, hk, hu⟩ := hrel
            by_cases hlt : k < p.kids.length
            · have hx : p.kids[k]? = some p.kids[k] := List.getElem?_eq_getElem hlt
              obtain ⟨b', o', hA, hB', hxs⟩ := lies_px HH.out.2.1.1.1 (by omega)
              have hbw := hu.below (Nat.le_refl _) (Nat.le_of_lt hg)
              have hxa := (hxs k _ hx).past hbw hB'
              have hmem := List.mem_of_getElem? hx
              have hxi := (HH.out.2.1.2.2 _ hmem).past hbw (Nat.le_refl _)
              have hxo := HH.out.1.2.2.2 _ hmem
              have hev := (HH.out.2.2.1.past hbw hbg).eight
              have hst := foldK_next (f := fun i k s => lookP n k (arnd p i l) s) hx (startP p n l s)
              have hm : 16 - (n : Int) + 1 = 17 - (n : Int) := by omega
              obtain ⟨g0, _, g2, _, _, _, _, _⟩ := hev
              rw [hA] at g2
              have hL := HL.out
              generalize p.kids[k] = x at *
              have hcall := fun (a : Int) (t : Ft) (W : World) ha h1 h2 h3 => Lib.hid (IH.out x a t b' (o' + k * 8) g W hxo h1 h2 hB' ha h3)
              have HX := Lib.hid (And.intro hu (And.intro hxa (And.intro hxi (And.intro hst hm))))
              have q0 : (0 : Int) ≤ (k : Int) := by omega
              have q1 : (k : Int) < (p.kids.length : Int) := by omega
              clear hu hx hxs hbw hxa hmem hxi hxo hst hm hA
              by_cases hkd : p.kind = 10
              · rw [hkd] at g0 d0
                by_cases hk1 : k = 1
                · have t2 : ((k : Int) == 1) = true := by simp; omega
                  have ha : arnd p k l = l + 1 := by unfold arnd; rw [if_pos ⟨hkd, hk1⟩]
                  have HA := Lib.hid ha
                  have hl1 : wrap64 (l + 1) = l + 1 := by unfold wrap64; omega
                  clear ha hk1
                  have HKD := Lib.hid hkd
                  clear hkd
                  go_wp2_with fail
                  rw [HX.out.2.2.2.2]
                  refine (hcall _ _ _ ⟨by omega, by omega⟩ HX.out.2.2.1 HX.out.2.1 HX.out.1.own).out.mono ?_
                  rintro _ w2 ⟨rfl, u2⟩
                  have U2 := Lib.hid (HX.out.1.trans u2)
                  clear u2
                  go_wp2_with fail
                  go_roundw
                  case rel => exact ⟨k + 1, by go_num, by omega, U2.out.as (by rw [HX.out.2.2.2.1, HA.out])⟩
                  case measure => simp [intOf]; omega
                · have t2 : ((k : Int) == 1) = false := by simp; omega
                  have ha : arnd p k l = l := by unfold arnd; rw [if_neg (fun h => hk1 h.2)]
                  have HA := Lib.hid ha
                  have hl1 : wrap64 (l + 1) = l + 1 := by unfold wrap64; omega
                  clear ha hk1
                  have HKD := Lib.hid hkd
                  clear hkd
                  go_wp2_with fail
                  rw [HX.out.2.2.2.2]
                  refine (hcall _ _ _ ⟨by omega, by omega⟩ HX.out.2.2.1 HX.out.2.1 HX.out.1.own).out.mono ?_
                  rintro _ w2 ⟨rfl, u2⟩
                  have U2 := Lib.hid (HX.out.1.trans u2)
                  clear u2
                  go_wp2_with fail
                  go_roundw
                  case rel => exact ⟨k + 1, by go_num, by omega, U2.out.as (by rw [HX.out.2.2.2.1, HA.out])⟩
                  case measure => simp [intOf]; omega
              · have t1 : (p.kind == 10) = false := by simpa using hkd
                have ha : arnd p k l = l := by unfold arnd; rw [if_neg (fun h => hkd h.1)]
                have HA := Lib.hid ha
                clear ha hkd
                go_wp2_with fail
                rw [HX.out.2.2.2.2]
                refine (hcall l _ _ ⟨hL.1, by omega⟩ HX.out.2.2.1 HX.out.2.1 HX.out.1.own).out.mono ?_
                rintro _ w2 ⟨rfl, u2⟩
                have U2 := Lib.hid (HX.out.1.trans u2)
                clear u2
                go_wp2_with fail
                go_roundw
                case rel => exact ⟨k + 1, by go_num, by omega, U2.out.as (by rw [HX.out.2.2.2.1, HA.out])⟩
                case measure => simp [intOf]; omega
            · have hk2 : k = p.kids.length := by omega
              subst hk2
              rw [List.take_length] at hu
              have HX := Lib.hid hu
              clear hu
              go_wp2_with fail
              exact bodyPost_end (results_none rfl _ _ _) rfl ⟨rfl, HX.out.as (by rw [lookP_next HH.out.2.2.2])⟩
theorem lookP_any : ∀ n, n ≤ 17 → LookPC n
  | 0, _ => lookP_zero
  | n + 1, h => lookP_next_any (by omega) (lookP_any n (by omega))
end Go.Proofs.Ytjidjpmdmcleoaa
