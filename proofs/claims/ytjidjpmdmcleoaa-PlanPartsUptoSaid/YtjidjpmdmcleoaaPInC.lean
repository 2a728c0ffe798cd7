/- The schema of a plan that holds others: those in it. -/
import Derived.Test.YtjidjpmdmcleoaaPInA
namespace Go.Proofs.Ytjidjpmdmcleoaa
open Go Go.RowKit

theorem pinf_node (src : List (List Int)) (n : Nat) {p : Px} (h1 : p.kind ≠ 1) (h2 : p.kind ≠ 2) (h3 : p.kind ≠ 10) (ls : List (List Int)) (u : Int) : pinf src (n + 1) p ls u = endS p (pinfK (fun k u => pinf src n k ls u) p.kids u).1 (pinfK (fun k u => pinf src n k ls u) p.kids u).2 := by
  conv => lhs; unfold pinf
  rw [if_neg h1, if_neg h2, if_neg h3]
theorem pinfK_next {f : Px → Int → List Int × Int} {l : List Px} {k : Nat} {x : Px} (h : l[k]? = some x) (u : Int) : pinfK f (l.take (k + 1)) u = ((pinfK f (l.take k) u).1 ++ [(f x (pinfK f (l.take k) u).2).1], (f x (pinfK f (l.take k) u).2).2) := by
  rw [List.take_add_one, h]
  exact pinfK_snoc _ _ _
theorem scell_snoc {w : World} {base n : Nat} {e : TypeId} {v : Value} {l : List (Sl Int)} {s : Sl Int} (h : w.ownsRow base e 1 v (n + 1) (l.flatMap Sl.cells ++ [.slice s.A s.l.length s.c])) (hn : l.length = n) : w.ownsRow base e 1 v (l ++ [s]).length ((l ++ [s]).flatMap Sl.cells) := by
  subst hn
  simpa [Sl.cells] using h
theorem LN.grow {g : Nat} {α : Type} {size : Nat} {cells : α → List Value} {w w' : World} {A : Option Addr} {l : List α} {row : Option Nat} (h : LN g size cells w A l) (k : w.grownBy w' row) (hne : ∀ b o, 0 < l.length → A = some ⟨b, o, none⟩ → some b ≠ row) : LN g size cells w' A l :=
  ⟨fun hp => by
    obtain ⟨b, o, e, hb, hc⟩ := h.lies hp
    exact ⟨b, o, e, Nat.lt_of_lt_of_le hb k.size, fun i x hi j u hj => (World.cell?_of_block (w := w) (k.block b hb (hne b o hp e))).trans (hc i x hi j u hj)⟩, h.off⟩
theorem endS_3 {p : Px} (h : p.kind = 3) (ks : List (List Int)) (u : Int) : endS p ks u = ((typesS (ks.getD 0 []) p.exprs u).1, shortU (typesS (ks.getD 0 []) p.exprs u).1 (typesS (ks.getD 0 []) p.exprs u).2) := by unfold endS; rw [if_pos h]
theorem endS_4 {p : Px} (h : p.kind = 4) (ks : List (List Int)) (u : Int) : endS p ks u = (ks.getD 0 [], sameS [1] (typesS (ks.getD 0 []) p.exprs u).1 (shortU (typesS (ks.getD 0 []) p.exprs u).1 (typesS (ks.getD 0 []) p.exprs u).2)) := by unfold endS; rw [if_neg (by omega), if_pos h]
theorem endS_5 {p : Px} (h : p.kind = 5) (ks : List (List Int)) (u : Int) : endS p ks u = (ks.getD 0 [], (ks.drop 1).foldl (fun u x => sameS (ks.getD 0 []) x u) u) := by unfold endS; rw [if_neg (by omega), if_neg (by omega), if_pos h]
theorem endS_7 {p : Px} (h : p.kind = 7) (ks : List (List Int)) (u : Int) : endS p ks u = (ks.flatten, shortU ks.flatten (sameS (atS (ks.getD 0 []) p.cols u).1 (atS (ks.getD 1 []) p.wit (atS (ks.getD 0 []) p.cols u).2).1 (atS (ks.getD 1 []) p.wit (atS (ks.getD 0 []) p.cols u).2).2)) := by unfold endS; rw [if_neg (by omega), if_neg (by omega), if_neg (by omega), if_pos h]
theorem endS_8 {p : Px} (h : p.kind = 8) (ks : List (List Int)) (u : Int) : endS p ks u = redS p (ks.getD 0 []) u := by unfold endS; rw [if_neg (by omega), if_neg (by omega), if_neg (by omega), if_neg (by omega), if_pos h]
theorem endS_0 {p : Px} (h3 : p.kind ≠ 3) (h4 : p.kind ≠ 4) (h5 : p.kind ≠ 5) (h7 : p.kind ≠ 7) (h8 : p.kind ≠ 8) (ks : List (List Int)) (u : Int) : endS p ks u = (ks.getD 0 [], u) := by unfold endS; rw [if_neg h3, if_neg h4, if_neg h5, if_neg h7, if_neg h8]
theorem tys_own1 {w : World} {N : Nat} {t : TypeId} {a : Int} (h : Own w N t [.int .u8 a]) : Tys w w.heap.size (some ⟨N, 0, none⟩) [a] := fun _ => by
  refine ⟨_, _, rfl, h.inside, fun i x hx => ?_⟩
  match i, hx with
  | 0, hx => obtain rfl : a = x := by simpa using hx
             exact h.at_ 0
/-- the schemas of the first few, and the failure so far -/
structure Ks (M : Nat) (f : Px → Int → List Int × Int) (kids : List Px) (u : Int) (B : Nat) (ks : List (Sl Int)) (g : Nat) (w wr : World) (A0 : Option Addr) (n0 c0 : Nat) (v : Value) (P : Nat → Prop) : Prop where
  loc : ∀ s ∈ ks, ∀ b o, 0 < s.l.length → s.A = some ⟨b, o, none⟩ → w.heap.size ≤ b ∨ P b
  off : ∀ s ∈ ks, ∀ b o, 0 < s.l.length → s.A = some ⟨b, o, none⟩ → some b ≠ v.ownBlock
  is_ : schs ks = (pinfK f kids u).1
  tn : ∀ s ∈ ks, TN g wr s.A s.l
  len : ∀ s ∈ ks, s.l.length ≤ B
  upd : Upd w wr g 80 (evL (pinfK f kids u).2 A0 n0 c0)
set_option maxRecDepth 100000 in
set_option maxHeartbeats 6400000 in
theorem pinfer_node (M : Nat) (srcL : List (Sl Int)) (A0 : Option Addr) (c0 n : Nat) (hE : PInC M srcL A0 c0 n) (p : Px) (hk : p.kind ≠ 1 ∧ p.kind ≠ 2 ∧ p.kind ≠ 10) (ls : List (Sl Int)) (lA : Option Addr) (lc L : Nat) (u : Int) (b o g : Nat) (w : World)
    (hp : Pt M (n + 1) p w g) (hat : PAt w b o p) (hbg : b < g) (hsr : Sr M srcL A0 g w) (hlp : Lp L (n + 1) ls lA g w) (hML : M ≤ L) (htb : tb (cntP (n + 1) p) * L ≤ 1099511627776) (ho : Own w g 80 (evL u A0 srcL.length c0)) :
    Calls Try.prog 32 #[.pointer (some ⟨g, 0, none⟩), .pointer (some ⟨b, o, none⟩), .slice lA ls.length lc] w (InPost (fun b => OldB srcL b ∨ OldB ls b) (pinf (schs srcL) (n + 1) p (schs ls) u) A0 srcL.length c0 g w) := by
  have hgi := ho.inside
  have hpos := (fits_kids (good_fits hp.good)).2.2 hk.1 hk.2.1
  obtain ⟨e0, e1, e2, _, _, _, _, _⟩ := hat.eight
  have hlp1 := pinf_len (schs srcL) M (n + 1) p (schs ls) u L (fun s hs => by obtain ⟨y, hy, rfl⟩ := List.mem_map.1 hs; exact Nat.le_trans (hsr.len y hy) hML) (fun s hs => by obtain ⟨y, hy, rfl⟩ := List.mem_map.1 hs; exact hlp.len y hy) hML hp.sm hp.good hp.cnt
  have hkid : ∀ x ∈ p.kids, tb (cntP n x) * L ≤ 1099511627776 ∧ ∀ u, (pinf (schs srcL) n x (schs ls) u).1.length ≤ 1099511627776 := fun x hx => by
    have hck := cnt_kid (n := n) hx
    have hc := hp.cnt
    have h1 : tb (cntP n x) * L ≤ 1099511627776 := Nat.le_trans (Nat.mul_le_mul_right L (tb_mono (by omega) hc)) htb
    exact ⟨h1, fun u => Nat.le_trans (pinf_len (schs srcL) M n x (schs ls) u L (fun s hs => by obtain ⟨y, hy, rfl⟩ := List.mem_map.1 hs; exact Nat.le_trans (hsr.len y hy) hML) (fun s hs => by obtain ⟨y, hy, rfl⟩ := List.mem_map.1 hs; exact hlp.len y hy) hML (hp.sm.2 x hx) (good_kid hp.good hx) (by omega)) h1⟩
  have HR := Lib.hid (pinf_node (schs srcL) n hk.1 hk.2.1 hk.2.2 (schs ls) u)
  have HL1 := Lib.hid (Nat.le_trans hlp1 htb)
  have hkl := hp.ok.2.1.1
  have hLm : L ≤ 1099511627776 := by have := Nat.mul_le_mul_right L (tb_pos (cntP (n + 1) p) hp.cnt); rw [Nat.one_mul] at this; omega
  have hcm : p.exprs.length ≤ 1099511627776 ∧ p.cols.length ≤ 1099511627776 ∧ p.wit.length ≤ 1099511627776 := by have h1 := hp.sm.1; have h2 := hp.wm.1; omega
  obtain ⟨hcm1, hcm2, hcm3⟩ := hcm
  have hcl : p.kids.length ≤ 64 := by
    have : ∀ l : List Px, (∀ x ∈ l, 1 ≤ cntP n x) → l.length ≤ (l.map (cntP n)).sum := by
      intro l; induction l with
      | nil => intro _; simp
      | cons x l ih => intro h; have := ih (fun y hy => h y (by simp [hy])); have := h x (by simp); rw [List.length_cons, List.map_cons, List.sum_cons]; omega
    have h1 := this p.kids (fun x hx => cnt_pos (good_kid hp.good hx))
    have h2 := hp.cnt
    simp only [cntP] at h2
    omega
  obtain ⟨b', o', hA, hB', hxs⟩ := lies_px hp.in_.1.1 hpos
  have HP := Lib.hid (And.intro hp (And.intro hat (And.intro hsr (And.intro hlp (And.intro hML ho)))))
  have HX := Lib.hid (And.intro hxs hkid)
  have HE := Lib.hid hE
  generalize pinf (schs srcL) (n + 1) p (schs ls) u = R at *
  obtain ⟨f, hf⟩ : ∃ f : Px → Int → List Int × Int, f = fun k u => pinf (schs srcL) n k (schs ls) u := ⟨_, rfl⟩
  rw [← hf] at HR
  have HF := Lib.hid hf
  have HKL := Lib.hid (pinfK_len (f := f) p.kids u)
  have t1 : (p.kind == 1) = false := by simpa using hk.1
  have t2 : (p.kind == 2) = false := by simpa using hk.2.1
  have t3 : (p.kind == 10) = false := by simpa using hk.2.2
  obtain ⟨i0, hi, hz0, hz1, hz2⟩ := info_parts infoSc
  have HI := Lib.hid (And.intro Try.underlying53 (And.intro hi (And.intro hz0 (And.intro hz1 hz2))))
  have HA := Lib.hid hA
  rw [hA] at e2
  clear hk hp hat hsr hlp hML htb ho hlp1 hkid hxs hE hf hi hz0 hz1 hz2 hkl hA e1 hLm
  go_enter Try.func32, Try.ntmps32
  go_wp2_with fail
  go_loopw [8, 68] (fun v i wr => ∃ (k : Nat) (ks : List (Sl Int)) (vv : Value), vv = v ∧ i = .int .i64 (k : Int) ∧ k ≤ p.kids.length ∧ ks.length = k ∧ wr.ownsRow w.heap.size 34 1 v ks.length (ks.flatMap Sl.cells) ∧ Ks M f (p.kids.take k) u 1099511627776 ks g w wr A0 srcL.length c0 v (fun b => OldB srcL b ∨ OldB ls b))
    (fun _ i _ => p.kids.length - (intOf i).toNat)
  case atStart => exact ⟨0, [], _, rfl, rfl, by omega, rfl, World.ownsRow_nil _ _ _ _, ⟨by simp, by simp, rfl, by simp, by simp, Upd.same HP.out.2.2.2.2.2⟩⟩
  case round =>
    obtain ⟨k, ks, v, rfl, rfl, hk, hks, hown, hK⟩ := hrel
    by_cases hlt : k < p.kids.length
    · have hx : p.kids[k]? = some p.kids[k] := List.getElem?_eq_getElem hlt
      have hbw := hK.upd.below (Nat.le_refl _) (Nat.le_of_lt hgi)
      have hxa := (HX.out.1 k _ hx).past hbw hB'
      have hmem := List.mem_of_getElem? hx
      have hxp := (HP.out.1.kid hmem).past hbw
      have hxk := HX.out.2 _ hmem
      have e2 := (hbw.cell (p := ⟨b, o + 2, none⟩) hbg).trans e2
      have hnx := pinfK_next (f := f) hx u
      have hcall := Lib.hid (HE.out p.kids[k] ls lA lc L (pinfK f (p.kids.take k) u).2 b' (o' + k * 8) g wr hxp hxa hB' (HP.out.2.2.1.next hK.upd.grow) ((HP.out.2.2.2.1.next hK.upd.grow).less (by omega)) HP.out.2.2.2.2.1 hxk.1 hK.upd.own)
      have hfx : pinf (schs srcL) n p.kids[k] (schs ls) (pinfK f (p.kids.take k) u).2 = f p.kids[k] (pinfK f (p.kids.take k) u).2 := by rw [HF.out]
      have hrl := hxk.2 (pinfK f (p.kids.take k) u).2
      rw [hfx] at hcall hrl
      generalize p.kids[k] = x at *
      generalize f x (pinfK f (p.kids.take k) u).2 = r at *
      obtain ⟨rl, ru⟩ := r
      dsimp only at hrl hnx
      have HK := Lib.hid (And.intro hK (And.intro hnx (And.intro hks (And.intro hown hrl))))
      have r0 : (0 : Int) ≤ (k : Int) := by omega
      have r1 : (k : Int) < (p.kids.length : Int) := by omega
      have hszr := hK.upd.grow.size
      clear hx hbw hxa hmem hxp hxk hnx hfx hK hown hks hrl
      go_wp2_with fail
      refine hcall.out.mono ?_
      rintro _ w2 ⟨A1, c1, rfl, ⟨ht1, hl1⟩, hu1⟩
      have hk1 := HK.out.2.2.2.1.kept hu1.grow (not_block HK.out.2.2.2.1 (by omega))
      have H2 := Lib.hid (And.intro hk1 (And.intro ht1 (And.intro hu1 (HK.out.1.upd.trans hu1))))
      have hsz2 := hu1.grow.size
      have hg2 := hu1.own.inside
      have hv1 : ∀ b o, 0 < rl.length → A1 = some ⟨b, o, none⟩ → (w.heap.size ≤ b ∨ OldB srcL b ∨ OldB ls b) ∧ some b ≠ v.ownBlock ∧ b < w2.heap.size := fun b o hpp e => by
        have hlt : b < w2.heap.size := by
          obtain ⟨b2, o2, e', hb2, _⟩ := ht1.lies hpp
          rw [e] at e'
          simp only [Option.some.injEq, Addr.mk.injEq, and_true] at e'
          omega
        rcases hl1 b o hpp e with h | h
        · refine ⟨.inl (by omega), fun hh => ?_, hlt⟩
          have := (HK.out.2.2.2.1.lt b hh.symm).2
          omega
        · refine ⟨.inr h, fun hh => ?_, hlt⟩
          have h1 := (HK.out.2.2.2.1.lt b hh.symm).1
          have h2 : b < w.heap.size := by
            rcases h with h | h
            · exact h.lt (A := none) HP.out.2.2.1.sn.each_
            · exact h.lt (A := none) HP.out.2.2.2.1.sn.each_
          omega
      have HV1 := Lib.hid hv1
      clear hk1 ht1 hu1 hcall hl1 hv1
      have hks := HK.out.2.2.1
      go_wp2_with (at_builtin; refine wpList_push _ rfl _ _ 53 rfl w.heap.size 34 i0 _ 1 24 HI.out.1 HI.out.2.1 HI.out.2.2.1 HI.out.2.2.2.1 HI.out.2.2.2.2 rfl (by decide) _ _ _ rfl H2.out.1 #[.slice A1 rl.length c1] rfl rfl ?k1 ?k2 ?k3 ?k4 ?_)
      case k1 => rfl
      case k2 => unfold maxLen; omega
      case k3 => omega
      case k4 => omega
      intro v' w' ho' hb' hob hgw
      have H3 := Lib.hid (And.intro ho' (And.intro (H2.out.2.2.2.pushed hb' (Nat.le_refl _) (by omega)) (And.intro hob hgw)))
      clear ho' hb' hks hob hgw
      go_wp2_with fail
      go_roundw
      case rel =>
        have hin : ∀ s ∈ ks, ∀ b o, 0 < s.l.length → s.A = some ⟨b, o, none⟩ → b < w2.heap.size := fun s hs b o hpp e => by
          obtain ⟨b2, o2, e', hb2, _⟩ := (HK.out.1.tn s hs).lies hpp
          rw [e] at e'
          simp only [Option.some.injEq, Addr.mk.injEq, and_true] at e'
          omega
        have hoff : ∀ b, b < w2.heap.size → some b ≠ v.ownBlock → some b ≠ v'.ownBlock := fun b hb h hh => by
          rcases H3.out.2.2.1 with e | e
          · rw [e] at hh; exact h hh
          · rw [e] at hh; simp only [Option.some.injEq] at hh; omega
        refine ⟨k + 1, ks ++ [⟨A1, c1, rl⟩], _, rfl, by go_num, by omega, by rw [List.length_append, HK.out.2.2.1]; rfl, scell_snoc (s := ⟨A1, c1, rl⟩) H3.out.1 HK.out.2.2.1, ⟨?_, ?_, ?_, ?_, ?_, H3.out.2.1.as (by rw [HK.out.2.1])⟩⟩
        · intro s hs b o hpp e
          rcases List.mem_append.1 hs with hs | hs
          · exact HK.out.1.loc s hs b o hpp e
          · obtain rfl : s = ⟨A1, c1, rl⟩ := by simpa using hs
            exact (HV1.out b o hpp e).1
        · intro s hs b o hpp e
          rcases List.mem_append.1 hs with hs | hs
          · exact hoff b (hin s hs b o hpp e) (HK.out.1.off s hs b o hpp e)
          · obtain rfl : s = ⟨A1, c1, rl⟩ := by simpa using hs
            exact hoff b (HV1.out b o hpp e).2.2 (HV1.out b o hpp e).2.1
        · rw [HK.out.2.1]
          show schs (ks ++ [⟨A1, c1, rl⟩]) = _
          unfold schs
          rw [List.map_append]
          exact congrArg (· ++ [rl]) HK.out.1.is_
        · intro s hs
          rcases List.mem_append.1 hs with hs | hs
          · exact ((HK.out.1.tn s hs).next H2.out.2.2.1.grow).grow H3.out.2.2.2 (HK.out.1.off s hs)
          · obtain rfl : s = ⟨A1, c1, rl⟩ := by simpa using hs
            exact H2.out.2.1.grow H3.out.2.2.2 (fun b o hpp e => (HV1.out b o hpp e).2.1)
        · intro s hs
          rcases List.mem_append.1 hs with hs | hs
          · exact HK.out.1.len s hs
          · obtain rfl : s = ⟨A1, c1, rl⟩ := by simpa using hs
            exact HK.out.2.2.2.2
      case measure => simp [intOf]; omega
    · have hk2 : k = p.kids.length := by omega
      subst hk2
      rw [List.take_length] at hK
      obtain ⟨A8, c8, rfl, hcap8, _, hl8⟩ := lies_of_own (by decide) scell_len rfl hown
      obtain ⟨s0, hs0⟩ : ∃ s0, ks[0]? = some s0 := ⟨ks[0], List.getElem?_eq_getElem (by omega)⟩
      have hk0 : (schs ks).getD 0 [] = s0.l := by unfold schs; rw [List.getD_eq_getElem?_getD, List.getElem?_map, hs0]; rfl
      have hm0 := List.mem_of_getElem? hs0
      obtain ⟨hb8, ho8, hA8, hlt8, hc8⟩ := hl8 (by omega)
      have hge8 : w.heap.size ≤ hb8 := by subst hA8; exact (hown.lt hb8 rfl).1
      have c80 := hc8 0 s0 hs0 0 _ rfl
      rw [Nat.zero_mul, Nat.add_zero] at c80
      have hs0l := hK.len s0 hm0
      have hK1 := hK.is_
      have hupd := hK.upd
      generalize hKK : pinfK f p.kids u = KK at *
      obtain ⟨K1, K2⟩ := KK
      dsimp only at hK1 hupd
      subst hK1
      have hbw := hupd.below (Nat.le_refl _) (Nat.le_of_lt hgi)
      have hatw := HP.out.2.1.past hbw hbg
      obtain ⟨e0', e1', e2', e3', e4', e5', e6', e7'⟩ := hatw.eight
      have hgr := hupd.own.inside
      have HW := Lib.hid (And.intro (hK.tn s0 hm0) (And.intro (hK.loc s0 hm0) (And.intro hupd (And.intro hatw (And.intro hK hc8)))))
      have HK0 := Lib.hid (And.intro hk0 hs0)
      have HKK := Lib.hid hKK
      subst hA8
      have HKS := Lib.hid hks
      clear hk0 hs0 hm0 hc8 hK hKK hbw hatw hown hl8 e2 e0 hupd
      have z0 : (0 : Int) < (ks.length : Int) := by omega
      have z00 : 0 < ks.length := by omega
      have z64 : ks.length ≤ 64 := by omega
      clear hks
      by_cases h8 : p.kind = 8
      · have HRR := Lib.hid ((HR.out.trans (endS_8 h8 _ _)).trans (by rw [HK0.out.1]))
        have hred := Lib.hid (preduce_any A0 srcL.length c0 K2 p b o s0.A s0.c s0.l g wr HW.out.2.2.2.1 hbg (HP.out.1.past (HW.out.2.2.1.below (Nat.le_refl _) (Nat.le_of_lt hgi))).in_.1.2.2.1 HW.out.1 (by unfold maxLen; omega) (by omega) HW.out.2.2.1.own)
        rw [h8] at e0'
        clear h8
        go_wp2_with fail
        refine hred.out.mono ?_
        rintro _ w2 ⟨A', c', rfl, ⟨ht, hb⟩, hu⟩
        have HF := Lib.hid (And.intro ht (And.intro hb (HW.out.2.2.1.trans hu)))
        have hsz := HW.out.2.2.1.grow.size
        clear ht hb hu
        go_wp2_with fail
        go_ret
        exact inPost_of HRR.out rfl HF.out.1 (fun b2 o2 hpp e => by
          rcases HF.out.2.1 b2 o2 e with h | h
          · exact HW.out.2.1 b2 o2 (by rw [← h.2]; exact hpp) (by rw [← h.1]; exact e)
          · exact .inl (by omega)) HF.out.2.2
      have t8 : (p.kind == 8) = false := by simpa using h8
      have HS0 := Lib.hid (Upd.same HW.out.2.2.1.own)
      have hne8 : hb8 ≠ g := by omega
      have HK := Lib.hid (fun (w' : World) (h : ExP wr w' g) => (⟨h, ((h.choose_spec.below (Nat.le_refl _) (Nat.le_of_lt hgr)).cell (p := ⟨b, o + 3, none⟩) hbg).trans e3', ((grown_olds h.choose_spec.grow).1 hb8 ho8 hlt8 hne8).trans c80⟩ : ExP wr w' g ∧ w'.cell? ⟨b, o + 3, none⟩ = some (.slice p.eA p.exprs.length p.ec) ∧ w'.cell? ⟨hb8, ho8, none⟩ = some (.slice s0.A s0.l.length s0.c)))
      have HEs := Lib.hid (⟨(HP.out.1.past (HW.out.2.2.1.below (Nat.le_refl _) (Nat.le_of_lt hgi))).in_.1.2.1, fun e he => ⟨HP.out.1.ok.2.2.1 e he, (HP.out.1.past (HW.out.2.2.1.below (Nat.le_refl _) (Nat.le_of_lt hgi))).in_.2.1 e he⟩, by omega⟩ : EsIn p.exprs p.eA wr g)
      have hsz := HW.out.2.2.1.grow.size
      by_cases h3 : p.kind = 3
      · have HRR := Lib.hid ((HR.out.trans (endS_3 h3 _ _)).trans (by rw [HK0.out.1]))
        have hty := Lib.hid (fun (W : World) (hb : Below wr.heap.size wr W) => ptypes_any A0 srcL.length c0 K2 p.eA p.ec p.exprs s0.A s0.c s0.l g W (HEs.out.past (hb.mono (Nat.le_of_lt hgr))) (HW.out.1.more hb) (by unfold maxLen; omega) (HW.out.2.2.1.quiet hb).own)
        rw [h3] at e0'
        clear h3 h8 t8
        have h0 : ExP wr wr g := ExP.mk HS0.out
        generalize typesS s0.l p.exprs K2 = T at *
        obtain ⟨Tl, Tu⟩ := T
        dsimp only at hty HRR
        go_upto_region 18 with fail
        go_cut [6] (fun s6 wx => ∃ A' c', s6 = .slice A' Tl.length c' ∧ (TN g wx A' Tl ∧ ∀ b o, A' = some ⟨b, o, none⟩ → wr.heap.size ≤ b) ∧ Upd wr wx g 80 (evL (shortU Tl Tu) A0 srcL.length c0))
        case first =>
          go_region_held3 (fun w' => ExP wr w' g ∧ w'.cell? ⟨b, o + 3, none⟩ = some (.slice p.eA p.exprs.length p.ec) ∧ w'.cell? ⟨hb8, ho8, none⟩ = some (.slice s0.A s0.l.length s0.c))
            ((refine (HK.out _ ?_); repeat (first | with_reducible exact ExP.mk hu5 | with_reducible exact ExP.mk hu4 | with_reducible exact ExP.mk hu3 | with_reducible exact ExP.mk HS0.out | with_reducible refine ExP.more ?_ _ | with_reducible refine ExP.drew ?_)))
            ((go_at_call 48; refine (hty.out _ (Below.refl _ _).drew).mono ?_; rintro _ w2 ⟨A', c', rfl, ht, hu0⟩; have hu5 := Upd.after (Below.refl _ _).drew hu0))
          all_goals
            go_wp2_with fail
            go_meet
            exact ⟨A', c', rfl, ht, hu5⟩
        case rest =>
          obtain ⟨A', c', rfl, ht, hu⟩ := hcut
          have HFF := Lib.hid (And.intro ht (HW.out.2.2.1.trans hu))
          clear ht hu
          go_wp2_with fail
          go_ret
          exact inPost_of HRR.out rfl HFF.out.1.1 (fun b2 o2 _ e => .inl (by have := HFF.out.1.2 b2 o2 e; omega)) HFF.out.2
      have t3 : (p.kind == 3) = false := by simpa using h3
      by_cases h4 : p.kind = 4
      · have HRR := Lib.hid ((HR.out.trans (endS_4 h4 _ _)).trans (by rw [HK0.out.1]))
        have hty := Lib.hid (fun (W : World) (hb : Below wr.heap.size wr W) => ptypes_any A0 srcL.length c0 K2 p.eA p.ec p.exprs s0.A s0.c s0.l g W (HEs.out.past (hb.mono (Nat.le_of_lt hgr))) (HW.out.1.more hb) (by unfold maxLen; omega) (HW.out.2.2.1.quiet hb).own)
        have htl : (typesS s0.l p.exprs K2).1.length = p.exprs.length := by unfold typesS; simp
        rw [h4] at e0'
        clear h4 h8 t8 h3 t3
        have h0 : ExP wr wr g := ExP.mk HS0.out
        generalize typesS s0.l p.exprs K2 = T at *
        obtain ⟨Tl, Tu⟩ := T
        dsimp only at hty HRR htl
        have hTl : Tl.length ≤ maxLen := by unfold maxLen; omega
        have hsam := Lib.hid (fun (W : World) (N : Nat) (A4 : Option Addr) (c4 : Nat) (h1 : Own W N 30 [.int .u8 1]) (h2 : TN g W A4 Tl) (h3 : Own W g 80 (evL (shortU Tl Tu) A0 srcL.length c0)) => psame_any A0 srcL.length c0 (shortU Tl Tu) (some ⟨N, 0, none⟩) A4 1 c4 [1] Tl g W (tys_own1 h1) h2.tys (by unfold maxLen; simp) hTl h3)
        clear hTl htl
        go_upto_region 20 with fail
        go_region_held3 (fun w' => ExP wr w' g ∧ w'.cell? ⟨b, o + 3, none⟩ = some (.slice p.eA p.exprs.length p.ec) ∧ w'.cell? ⟨hb8, ho8, none⟩ = some (.slice s0.A s0.l.length s0.c))
          ((refine (HK.out _ ?_); repeat (first | with_reducible exact ExP.mk hu6 | with_reducible exact ExP.mk hu5 | with_reducible exact ExP.mk HS0.out | with_reducible refine ExP.more ?_ _ | with_reducible refine ExP.drew ?_)))
          (first | (go_at_call 48; refine (hty.out _ (by first | exact (Below.refl _ _).drew | exact (Below.refl _ _).drew.alloc (Nat.le_refl _) _ | exact ((Below.refl _ _).alloc (Nat.le_refl _) _).drew)).mono ?_; rintro _ w2 ⟨A', c', rfl, ht, hu0⟩; have hu5 : Upd wr w2 g 80 (evL (shortU Tl Tu) A0 srcL.length c0) := Upd.after (by first | exact (Below.refl _ _).drew | exact (Below.refl _ _).drew.alloc (Nat.le_refl _) _ | exact ((Below.refl _ _).alloc (Nat.le_refl _) _).drew) hu0; (try (have ho1 : Own w2 wr.heap.size 30 [.int .u8 1] := own_grown hu0.grow (own_at rfl) (by omega)))) | (go_at_call 46; refine (hsam.out _ _ A' c' (by first | exact ho1 | exact own_at rfl) (by first | exact ht.1 | exact ht.1.more ((Below.refl _ _).alloc (Nat.le_refl _) _)) (by first | exact hu5.own | exact hu5.own.more _)).mono ?_; rintro _ w6 ⟨rfl, hq⟩; have hu6 : Upd wr w6 g 80 (evL (sameS [1] Tl (shortU Tl Tu)) A0 srcL.length c0) := (by first | exact hu5.trans hq | exact (hu5.more _).trans hq)))
        all_goals
          have hc0 := ((grown_olds hu6.grow).1 hb8 ho8 hlt8 hne8).trans c80
          have HFF := Lib.hid (And.intro (HW.out.1.next hu6.grow) (HW.out.2.2.1.trans hu6))
          clear hq hu6
          go_wp2_with fail
          go_ret
          exact inPost_of HRR.out rfl HFF.out.1 HW.out.2.1 HFF.out.2
      have t4 : (p.kind == 4) = false := by simpa using h4
      by_cases h5 : p.kind = 5
      · have HRR := Lib.hid ((HR.out.trans (endS_5 h5 _ _)).trans (by rw [HK0.out.1]))
        have hsam := Lib.hid (fun (W : World) (s : Sl Int) (x : Int) (h1 : s ∈ ks) (h2 : Upd wr W g 80 (evL x A0 srcL.length c0)) => psame_any A0 srcL.length c0 x s0.A s.A s0.c s.c s0.l s.l g W (HW.out.1.next h2.grow).tys ((HW.out.2.2.2.2.1.tn s h1).next h2.grow).tys (by unfold maxLen; omega) (by have := HW.out.2.2.2.2.1.len s h1; unfold maxLen; omega) h2.own)
        rw [h5] at e0'
        have HC8 := Lib.hid HW.out.2.2.2.2.2
        obtain ⟨m, hm⟩ : ∃ m, ks.length = m + 1 := ⟨ks.length - 1, by omega⟩
        have HM := Lib.hid hm
        rw [hm] at hcap8 z0 z00 z64 ⊢
        clear h5 h8 t8 h3 t3 h4 t4 hm
        by_cases hc1 : c8 = 1
        · subst hc1
          obtain rfl : m = 0 := by omega
          have hd : (schs ks).drop 1 = [] := by rw [List.drop_eq_nil_iff]; unfold schs; rw [List.length_map, HM.out]; omega
          have HRR := Lib.hid (HRR.out.trans (show (s0.l, ((schs ks).drop 1).foldl (fun u x => sameS s0.l x u) K2) = (s0.l, K2) by rw [hd]; rfl))
          clear hd hcap8 z64
          go_wp2_with fail
          go_loopw [118] (fun i w9 => i = .int .i64 0 ∧ w9 = wr) (fun _ _ => 0)
          case atStart => exact ⟨rfl, rfl⟩
          case round =>
            obtain ⟨rfl, rfl⟩ := hrel
            go_wp2_with fail
            go_ret
            exact inPost_of HRR.out rfl HW.out.1 HW.out.2.1 HW.out.2.2.1
        · obtain ⟨d, rfl⟩ : ∃ d, c8 = d + 2 := ⟨c8 - 2, by omega⟩
          have hd1 : ¬ d + 2 = 1 := by omega
          clear hc1
          go_wp2_with fail
          go_loopw [118] (fun i w9 => ∃ j : Nat, i = .int .i64 (j : Int) ∧ j ≤ m ∧ Upd wr w9 g 80 (evL ((((schs ks).drop 1).take j).foldl (fun u x => sameS s0.l x u) K2) A0 srcL.length c0))
            (fun i _ => m - (intOf i).toNat)
          case atStart => exact ⟨0, rfl, by omega, HS0.out⟩
          case round =>
            obtain ⟨j, rfl, hj, hu⟩ := hrel
            by_cases hlt : j < m
            · obtain ⟨s, hs⟩ : ∃ s, ks[j + 1]? = some s := ⟨ks[j + 1]'(by have := HM.out; omega), List.getElem?_eq_getElem _⟩
              have hcs := HC8.out (j + 1) s hs 0 _ rfl
              rw [Nat.mul_one, Nat.add_zero, show ho8 + (j + 1) = ho8 + 1 + j by omega] at hcs
              have d0 := ((grown_olds hu.grow).1 hb8 (ho8 + 1 + j) hlt8 hne8).trans hcs
              have d1 := ((grown_olds hu.grow).1 hb8 ho8 hlt8 hne8).trans c80
              have hnx : (((schs ks).drop 1).take (j + 1)).foldl (fun u x => sameS s0.l x u) K2 = sameS s0.l s.l ((((schs ks).drop 1).take j).foldl (fun u x => sameS s0.l x u) K2) := by
                have : ((schs ks).drop 1)[j]? = some s.l := by rw [List.getElem?_drop]; unfold schs; rw [List.getElem?_map, Nat.add_comm 1 j, hs]; rfl
                rw [List.take_add_one, this, List.foldl_append]
                rfl
              have hcall := Lib.hid (hsam.out _ s _ (List.mem_of_getElem? hs) hu)
              have HJ := Lib.hid (And.intro hu hnx)
              have r0 : (0 : Int) ≤ (j : Int) := by omega
              have r1 : (j : Int) < (m : Int) := by omega
              generalize (((schs ks).drop 1).take j).foldl (fun u x => sameS s0.l x u) K2 = uj at *
              clear hu hnx hs hcs
              go_wp2_with fail
              refine hcall.out.mono ?_
              rintro _ w10 ⟨rfl, u10⟩
              have H10 := Lib.hid (HJ.out.1.trans u10)
              clear u10
              go_wp2_with fail
              go_roundw
              case rel => exact ⟨j + 1, by go_num, by omega, H10.out.as (by rw [HJ.out.2])⟩
              case measure => simp [intOf]; omega
            · have hj2 : j = m := by omega
              subst hj2
              have hall : ((schs ks).drop 1).take j = (schs ks).drop 1 := by rw [List.take_of_length_le]; unfold schs; rw [List.length_drop, List.length_map, HM.out]; omega
              rw [hall] at hu
              have d1 := ((grown_olds hu.grow).1 hb8 ho8 hlt8 hne8).trans c80
              have HJ := Lib.hid (And.intro (HW.out.1.next hu.grow) (HW.out.2.2.1.trans hu))
              clear hu hall
              go_wp2_with fail
              go_ret
              exact inPost_of HRR.out rfl HJ.out.1 HW.out.2.1 HJ.out.2
      have t5 : (p.kind == 5) = false := by simpa using h5
      by_cases h7 : p.kind = 7
      · have h2 : ks.length = 2 := by rw [HKS.out]; exact (fits_kids (good_fits HP.out.1.good)).2.1 (.inl h7)
        obtain ⟨s1, hs1⟩ : ∃ s1, ks[1]? = some s1 := ⟨ks[1], List.getElem?_eq_getElem (by omega)⟩
        have hk1 : (schs ks).getD 1 [] = s1.l := by unfold schs; rw [List.getD_eq_getElem?_getD, List.getElem?_map, hs1]; rfl
        have hm1 := List.mem_of_getElem? hs1
        have hs1l := HW.out.2.2.2.2.1.len s1 hm1
        have ht1 := HW.out.2.2.2.2.1.tn s1 hm1
        have c81 := HW.out.2.2.2.2.2 1 s1 hs1 0 _ rfl
        rw [Nat.one_mul, Nat.add_zero] at c81
        have HT1 := Lib.hid ht1
        have hsn : SN g wr (some ⟨hb8, ho8, none⟩) ks := ⟨⟨fun _ => ⟨hb8, ho8, rfl, hlt8, HW.out.2.2.2.2.2⟩, fun _ b2 o2 e => by simp only [Option.some.injEq, Addr.mk.injEq, and_true] at e; omega⟩, HW.out.2.2.2.2.1.tn⟩
        have HSN := Lib.hid hsn
        have hfl : flatS ks = (schs ks).flatten := by unfold flatS schs; rw [List.flatMap_def]
        have HRR := Lib.hid ((HR.out.trans (endS_7 h7 _ _)).trans (by rw [HK0.out.1, hk1, ← hfl]))
        have hfl2 : (flatS ks).length ≤ 1099511627776 := by have := HL1.out; rw [HRR.out] at this; exact this
        have hls : lensS ks ≤ 1099511627776 := by rw [← flatS_len]; exact hfl2
        have hin := (HP.out.1.past (HW.out.2.2.1.below (Nat.le_refl _) (Nat.le_of_lt hgi))).in_.1
        have hat1 := Lib.hid (fun (W : World) (hb : Below wr.heap.size wr W) => pat_any A0 srcL.length c0 K2 s0.A s0.c s0.l p.cA p.cc p.cols g W (HW.out.1.more hb) (LN.of_lies (ints_lies.1 (hin.2.2.1.past (hb.mono (Nat.le_of_lt hgr)) (Nat.le_refl _))) (by have := hb.size; omega)) (by unfold maxLen; omega) (by omega) (HW.out.2.2.1.quiet hb).own)
        have hla := atS_len s0.l p.cols K2
        generalize atS s0.l p.cols K2 = a at *
        obtain ⟨al, au⟩ := a
        dsimp only at hat1 hla HRR
        have hat2 := Lib.hid (fun (W : World) (hu : Upd wr W g 80 (evL au A0 srcL.length c0)) => pat_any A0 srcL.length c0 au s1.A s1.c s1.l p.wA p.wc p.wit g W (HT1.out.next hu.grow) (LN.of_lies (ints_lies.1 (hin.2.2.2.past (hu.below (Nat.le_refl _) (Nat.le_of_lt hgr)) (Nat.le_refl _))) (by have := hu.grow.size; omega)) (by unfold maxLen; omega) (by omega) hu.own)
        have hlb := atS_len s1.l p.wit au
        generalize atS s1.l p.wit au = b7 at *
        obtain ⟨bl, bu⟩ := b7
        dsimp only at hat2 hlb HRR
        have hsam := Lib.hid (fun (W : World) (A4 A5 : Option Addr) (c4 c5 : Nat) (h1 : TN g W A4 al) (h2 : TN g W A5 bl) (h3 : Own W g 80 (evL bu A0 srcL.length c0)) => psame_any A0 srcL.length c0 bu A4 A5 c4 c5 al bl g W h1.tys h2.tys (by unfold maxLen; omega) (by unfold maxLen; omega) h3)
        have HK7 := Lib.hid (fun (w' : World) (h : ExP wr w' g) => (⟨h, ((h.choose_spec.below (Nat.le_refl _) (Nat.le_of_lt hgr)).cell (p := ⟨b, o + 4, none⟩) hbg).trans e4', ((h.choose_spec.below (Nat.le_refl _) (Nat.le_of_lt hgr)).cell (p := ⟨b, o + 5, none⟩) hbg).trans e5', ((grown_olds h.choose_spec.grow).1 hb8 ho8 hlt8 hne8).trans c80, ((grown_olds h.choose_spec.grow).1 hb8 (ho8 + 1) hlt8 hne8).trans c81⟩ :
          ExP wr w' g ∧ w'.cell? ⟨b, o + 4, none⟩ = some (.slice p.cA p.cols.length p.cc) ∧ w'.cell? ⟨b, o + 5, none⟩ = some (.slice p.wA p.wit.length p.wc) ∧ w'.cell? ⟨hb8, ho8, none⟩ = some (.slice s0.A s0.l.length s0.c) ∧ w'.cell? ⟨hb8, ho8 + 1, none⟩ = some (.slice s1.A s1.l.length s1.c)))
        rw [h7] at e0'
        have z1 : (1 : Int) < (ks.length : Int) := by omega
        have z11 : 1 < ks.length := by omega
        have HFL := Lib.hid (And.intro hfl2 hls)
        clear h7 h2 h8 t8 h3 t3 h4 t4 h5 t5 hs1 hk1 hm1 ht1 hsn hfl hfl2 hls hin
        have h0 : ExP wr wr g := ExP.mk HS0.out
        go_upto_region 28 with fail
        go_cut [] (fun wx => Upd wr wx g 80 (evL (sameS al bl bu) A0 srcL.length c0))
        case first =>
          go_region_held3 (fun w' => ExP wr w' g ∧ w'.cell? ⟨b, o + 4, none⟩ = some (.slice p.cA p.cols.length p.cc) ∧ w'.cell? ⟨b, o + 5, none⟩ = some (.slice p.wA p.wit.length p.wc) ∧ w'.cell? ⟨hb8, ho8, none⟩ = some (.slice s0.A s0.l.length s0.c) ∧ w'.cell? ⟨hb8, ho8 + 1, none⟩ = some (.slice s1.A s1.l.length s1.c))
            ((refine (HK7.out _ ?_); repeat (first | with_reducible exact ExP.mk hu6 | with_reducible exact ExP.mk hu5 | with_reducible exact ExP.mk hu4 | with_reducible exact ExP.mk HS0.out | with_reducible refine ExP.more ?_ _ | with_reducible refine ExP.drew ?_)))
            (first | (go_at_call 49; with_reducible refine (hat1.out _ (Below.refl _ _).drew).mono ?_; rintro _ w2 ⟨v1, rfl, o1, hu0⟩; obtain ⟨A4, c4, rfl, _, ht4⟩ := tn_of_own rfl o1 hgr; have hu4 : Upd wr w2 g 80 (evL au A0 srcL.length c0) := Upd.after (Below.refl _ _).drew hu0) | (go_at_call 49; with_reducible refine (hat2.out _ hu4).mono ?_; rintro _ w3 ⟨v2, rfl, o2, hq⟩; obtain ⟨A5, c5, rfl, _, ht5⟩ := tn_of_own rfl o2 hu4.own.inside; have ht4 := ht4.next hq.grow; have hu5 := hu4.trans hq) | (go_at_call 46; refine (hsam.out _ A4 A5 c4 c5 ht4 ht5 hu5.own).mono ?_; rintro _ w6 ⟨rfl, hq6⟩; have hu6 := hu5.trans hq6))
          all_goals
            go_wp2_with fail
            go_meet
            exact hu6
        case rest =>
          rename World => wx
          have hcat := Lib.hid (concat_ty (some ⟨hb8, ho8, none⟩) c8 ks wx (HSN.out.next hcut.grow).ll (by unfold maxLen; omega) (by have := HFL.out.2; omega))
          have HC := Lib.hid hcut
          have hgc := hcut.own.inside
          have hszc := hcut.grow.size
          obtain ⟨FL, hFL⟩ : ∃ FL, FL = flatS ks := ⟨_, rfl⟩
          have hll : lensS ks = FL.length := by rw [hFL, flatS_len]
          rw [hll, ← hFL] at hcat
          rw [← hFL] at HRR HFL
          have hFLl := HFL.out.1
          clear hcut hll hFL e0' e1' e2' e3' e4' e5' e6' e7'
          go_wp2_with fail
          refine hcat.out.mono ?_
          rintro _ w7 ⟨v7, rfl, o7, b7⟩
          obtain ⟨A7, c7, rfl, hb7, ht7⟩ := tn_of_own rfl o7 hgc
          have hu7 := HC.out.quiet b7
          have hsh := Lib.hid (short_any A0 srcL.length c0 (sameS al bl bu) A7 c7 FL g w7 (by unfold maxLen; omega) hu7.own)
          have H7 := Lib.hid (And.intro ht7 (And.intro hb7 hu7))
          clear o7 b7 hb7 ht7 hu7 hcat
          go_wp2_with fail
          refine hsh.out.mono ?_
          rintro _ w9 ⟨rfl, u9⟩
          have H9 := Lib.hid (And.intro (H7.out.1.next u9.grow) (HW.out.2.2.1.trans (H7.out.2.2.trans u9)))
          clear u9
          go_wp2_with fail
          go_ret
          exact inPost_of HRR.out rfl H9.out.1 (fun b2 o2 _ e => .inl (by have := H7.out.2.1 b2 o2 e; omega)) H9.out.2
      have t7 : (p.kind == 7) = false := by simpa using h7
      have HRR := Lib.hid ((HR.out.trans (endS_0 h3 h4 h5 h7 h8 _ _)).trans (by rw [HK0.out.1]))
      clear h3 h4 h5 h7 h8
      go_wp2_with fail
      go_ret
      exact inPost_of HRR.out rfl HW.out.1 HW.out.2.1 HW.out.2.2.1
end Go.Proofs.Ytjidjpmdmcleoaa
