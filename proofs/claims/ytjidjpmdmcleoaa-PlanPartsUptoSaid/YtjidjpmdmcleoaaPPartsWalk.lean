/- PlanParts returns true. -/
import Derived.Test.YtjidjpmdmcleoaaPFoot
namespace Go.Proofs.Ytjidjpmdmcleoaa
open Go Go.RowKit

/-- the schemas with one more -/
theorem sfine_more {M : Nat} {L : List (Sl Int)} {A A' Am : Option Addr} {cm : Nat} {m : List Int} {w : World} (h : SFine M L A w) (hm : Lies 1 tcell w w.heap.size Am m) (hl : Lies 1 Sl.cells w w.heap.size A' (L ++ [⟨Am, cm, m⟩])) (hn : m.length ≤ M) (hL : L.length + 1 ≤ 1099511627776) : SFine M (L ++ [⟨Am, cm, m⟩]) A' w := by
  refine ⟨⟨hl, fun s hs => ?_⟩, fun s hs => ?_, by rw [List.length_append]; exact hL⟩
  · rcases List.mem_append.1 hs with hs | hs
    · exact h.ll.each_ s hs
    · obtain rfl : s = ⟨Am, cm, m⟩ := by simpa using hs
      exact hm
  · rcases List.mem_append.1 hs with hs | hs
    · exact h.len s hs
    · obtain rfl : s = ⟨Am, cm, m⟩ := by simpa using hs
      exact hn
theorem kids_len (p : Px) : p.kids.length ≤ cntP 2 p := by
  have h : (p.kids.map (cntP 1)).length ≤ (p.kids.map (cntP 1)).sum := len_le_sum fun b hb => by
    obtain ⟨k, _, rfl⟩ := List.mem_map.1 hb
    show 1 ≤ 1 + _
    omega
  rw [List.length_map] at h
  show _ ≤ 1 + (p.kids.map (cntP 1)).sum
  omega
theorem schs_more (L : List (Sl Int)) (x : Sl Int) : schs (L ++ [x]) = schs L ++ [x.l] := by unfold schs; simp
theorem check_schemas {M : Nat} {L : List (Sl Int)} {A : Option Addr} {c : Nat} {w : World} {k : Int} (hk : chkS (schs L) = k) (h : SFine M L A w) (hM : M ≤ 8388608) : Calls Try.prog 21 #[.slice A L.length c] w fun x w' => x = .returned (.int .i64 k) ∧ Below w.heap.size w w' := by
  subst hk
  exact chkS_any A c L w h.ll (fun s hs => by have := h.len s hs; unfold maxLen; omega) (by have := h.many; unfold maxLen; omega)
set_option maxRecDepth 100000 in
set_option maxHeartbeats 6400000 in
theorem pparts_walk (M : Nat) (hM : M ≤ 1048576) (p : Px) (L : List (Sl Int)) (A : Option Addr) (c : Nat) (Am : Option Addr) (cm : Nat) (m : List Int) (w : World) (hp : PAll M p w) (hs : SFine M L A w) (hL : L.length ≤ M) (hm : Lies 1 tcell w w.heap.size Am m) (hmM : m.length ≤ M) :
    Calls Try.prog 8 #[p.val, .slice A L.length c, .slice Am m.length cm] w fun x w' => x = .returned (.bool true) ∧ Below w.heap.size w w' := by
  obtain ⟨i0, hi, hz0, hz1, hz2⟩ := info_parts infoSc
  have HI := Lib.hid (And.intro Try.underlying53 (And.intro hi (And.intro hz0 (And.intro hz1 hz2))))
  have y0 := fun W => Lib.hid (plives_true W)
  have hpv : p.val = .agg #[.int .u8 p.kind, .int .i64 p.n, .slice p.kA p.kids.length p.kc, .slice p.eA p.exprs.length p.ec, .slice p.cA p.cols.length p.cc, .slice p.wA p.wit.length p.wc, .int .u8 p.agg, .int .i64 p.rounds] := rfl
  obtain ⟨W, hW, fb, fc⟩ := came_box w hp hs
  have HB := Lib.hid (And.intro fb (And.intro fc (lies_keep hm fb)))
  have hln := infer_len hp hs (by omega)
  have hno := fun h => inferP_bad (src := schs L) (p := p) h
  have hpart := fun (i : Nat) (k : Px) h1 h2 h3 => infer_part (src := schs L) (p := p) (i := i) (k := k) (by have := hp.cnt 17; omega) h1 h2 h3
  have hwide := fun h1 h2 => infer_wide (src := schs L) m (p := p) h1 h2
  obtain ⟨l, e, hR⟩ : ∃ l e, inferP (schs L) p = (l, e) := ⟨_, _, rfl⟩
  rw [hR] at hln hno hpart hwide
  have HL := Lib.hid hln
  have HP := Lib.hid hpart
  have HW := Lib.hid hwide
  have HK := Lib.hid (fun (k : Px) (h : k ∈ p.kids) (W : World) (hc : Came M p L A w.heap.size W) => hc.all.kid h)
  have hkl : p.kids.length ≤ 1048576 := Nat.le_trans (kids_len p) (Nat.le_trans (hp.cnt 2) hM)
  obtain ⟨KA, hKA⟩ : ∃ KA, p.kA = KA := ⟨_, rfl⟩
  have HKA := Lib.hid hKA
  have HM := Lib.hid (And.intro hL hmM)
  have z1 := fun W (h : Came M p L A w.heap.size W) => Lib.hid (infer_says (c := c) (by omega) hpv hR h.all h.src)
  rw [hpv]
  clear hp hs fb fc hR hln hpart hwide hm hi hz0 hz1 hz2 hL hmM hKA
  go_enter Try.func8, Try.ntmps8
  go_upto_region 1 with fail
  rw [← hW]
  clear hW
  go_wp2_with fail
  refine (y0 _).out.mono ?_
  rintro _ w1 ⟨rfl, b1⟩
  have H1 := Lib.hid (And.intro (belows HB.out.1 b1) (And.intro (HB.out.2.1.next b1) (lies_keep HB.out.2.2 b1)))
  clear b1 HB
  obtain ⟨c0, c1, c2, c3, c4, c5, c6, c7⟩ := own8 H1.out.2.1.box
  go_wp2_with fail
  refine (z1 _ H1.out.2.1).out.mono ?_
  rintro _ w2 ⟨A2, k2, rfl, t2, b2⟩
  have H2 := Lib.hid (And.intro (belows H1.out.1 b2) (And.intro (H1.out.2.1.next b2) (And.intro (lies_keep H1.out.2.2 b2) t2)))
  clear b2 t2 c0 c1 c2 c3 c4 c5 c6 c7 z1 H1
  by_cases he : e = 0
  case neg =>
    have t1 : (e != 0) = true := bne_iff_ne.2 he
    obtain rfl : l = [] := hno he
    clear hno he
    go_wp2_with fail
    go_ret
    exact ⟨rfl, H2.out.1⟩
  subst he
  clear hno
  have c2 := (own8 H2.out.2.1.box).2.2.1
  rw [HKA.out] at c2
  go_wp2_with fail
  clear c2
  go_loopw [32] (fun i wr => ∃ k : Nat, i = .int .i64 (k : Int) ∧ k ≤ p.kids.length ∧ Below w.heap.size w wr ∧ Came M p L A w.heap.size wr ∧ Lies 1 tcell wr wr.heap.size Am m ∧ Tys wr wr.heap.size A2 l) (fun i _ => p.kids.length - (intOf i).toNat)
  case atStart => exact ⟨0, rfl, by omega, H2.out.1, H2.out.2.1, H2.out.2.2.1, H2.out.2.2.2⟩
  case round =>
    obtain ⟨k, rfl, hk, hbw, hcm, hlm, htl⟩ := hrel
    have HX := Lib.hid (And.intro hbw (And.intro hcm (And.intro hlm htl)))
    clear hbw hcm hlm htl H2
    by_cases hlt : k < p.kids.length
    · have hx : p.kids[k]? = some p.kids[k] := List.getElem?_eq_getElem hlt
      have hkin := List.mem_of_getElem? hx
      have hq0 := fun W (h : Came M p L A w.heap.size W) => HK.out _ hkin W h
      have hlp := (HX.out.2.1.all.in_ 1).1.1
      rw [HKA.out] at hlp
      obtain ⟨b, o, rfl, hB, hxs⟩ := lies_px hlp (by omega)
      clear hlp
      have hxa := hxs k _ hx
      have hpk := HP.out k _ (by first | trivial | rfl) hx
      generalize p.kids[k] = q at *
      obtain ⟨x0, x1, x2, x3, x4, x5, x6, x7⟩ := hxa.eight
      obtain ⟨V, hV, hb, hbs, hk8⟩ := pxbox wr q
      have HV := Lib.hid (And.intro (belows HX.out.1 hb) (And.intro (HX.out.2.1.next hb) (And.intro (lies_keep HX.out.2.2.1 hb) (And.intro (tys_keep HX.out.2.2.2 hb) hk8))))
      have hqv : q.val = .agg #[.int .u8 q.kind, .int .i64 q.n, .slice q.kA q.kids.length q.kc, .slice q.eA q.exprs.length q.ec, .slice q.cA q.cols.length q.cc, .slice q.wA q.wit.length q.wc, .int .u8 q.agg, .int .i64 q.rounds] := rfl
      obtain ⟨l', e', hR'⟩ : ∃ l' e', inferP (schs L) q = (l', e') := ⟨_, _, rfl⟩
      have z1 := Lib.hid (infer_says (c := c) (by omega) hqv hR' (hq0 V HV.out.2.1) HV.out.2.1.src)
      rw [hR'] at hpk
      have HPK := Lib.hid hpk
      obtain ⟨v0, v1, v2, v3, v4, v5, v6, v7⟩ := own8 HV.out.2.2.2.2
      have q0 : (0 : Int) ≤ (k : Int) := by omega
      have q1 : (k : Int) < (p.kids.length : Int) := by omega
      have q2 : decide ((k : Int) < (p.kids.length : Int)) = true := decide_eq_true q1
      clear hqv hR' hpk hb hbs hk8 hxs hxa hx hkin hq0
      go_upto_region 9 with fail
      rw [← hV]
      clear hV x0 x1 x2 x3 x4 x5 x6 x7
      go_wp2_with fail
      refine z1.out.mono ?_
      rintro _ w4 ⟨A4, k4, rfl, _, b4⟩
      have H4 := Lib.hid (And.intro (belows HV.out.1 b4) (And.intro (HV.out.2.1.next b4) (And.intro (lies_keep HV.out.2.2.1 b4) (tys_keep HV.out.2.2.2.1 b4))))
      clear b4 v0 v1 v2 v3 v4 v5 v6 v7 z1
      obtain ⟨c0, c1, c2, c3, c4, c5, c6, c7⟩ := own8 H4.out.2.1.box
      by_cases he' : e' = 0
      · have t1 : (e' != 0) = false := by simp [he']
        clear he' c1 c2 c3 c4 c5 c6 c7
        go_wp2_with fail
        go_roundw
        case rel => exact ⟨k + 1, by go_num, by omega, H4.out.1, H4.out.2.1, H4.out.2.2.1, H4.out.2.2.2⟩
        case measure => simp [intOf]; omega
      · have t1 : (e' != 0) = true := bne_iff_ne.2 he'
        have hk10 : p.kind = 10 ∧ k = 1 := by
          by_cases h10 : p.kind = 10
          · refine ⟨h10, ?_⟩
            by_cases hk1 : k = 1
            · exact hk1
            · exact absurd (HPK.out (.inr hk1)) he'
          · exact absurd (HPK.out (.inl h10)) he'
        obtain ⟨h10, rfl⟩ := hk10
        rw [h10] at c0
        clear he' h10 c1 c2 c3 c4 c5 c6 c7
        go_wp2_with fail
        go_roundw
        case rel => exact ⟨1 + 1, by go_num, by omega, H4.out.1, H4.out.2.1, H4.out.2.2.1, H4.out.2.2.2⟩
        case measure => simp [intOf]; omega
    · have q2 : decide ((k : Int) < (p.kids.length : Int)) = false := decide_eq_false (by omega)
      have hk2 : k = p.kids.length := by omega
      have h0 := World.ownsRow_made (base := wr.heap.size) (e := 34) (size := 1) wr #[] 0 (Nat.le_refl _) (Nat.zero_le _) rfl
      have hl0 := HX.out.2.1.src.ll.head.past ((Below.refl _ _).alloc (Nat.le_refl _) (.cells #[] 34)) (Nat.le_refl _)
      have hL1 := HM.out.1
      have HN := Lib.hid (And.intro h0 hl0)
      clear h0 hl0
      go_wp2_with (at_builtin; refine wpList_append_lies _ rfl (.tmp 55) (.tmp 56) 53 34 rfl i0 _ 24 HI.out.1 HI.out.2.1 HI.out.2.2.1 HI.out.2.2.2.1 HI.out.2.2.2.2 rfl (by decide) scell_len scell_one wr.heap.size _ _ _ rfl HN.out.1 c rfl HN.out.2 ?c1 ?c2 ?c3 ?_)
      case c1 => unfold maxLen; omega
      case c2 => omega
      case c3 => simp
      intro v1 w5 ho1 hb1
      have hw5 : Below wr.heap.size wr w5 := ((Below.refl _ _).alloc (Nat.le_refl _) _).trans hb1
      have hs5 := hw5.size
      have H5 := Lib.hid (And.intro hw5 ho1)
      clear ho1 hb1 hw5
      go_wp2_with (at_builtin; refine wpList_push _ rfl _ _ 53 rfl wr.heap.size 34 i0 _ 1 24 HI.out.1 HI.out.2.1 HI.out.2.2.1 HI.out.2.2.2.1 HI.out.2.2.2.2 rfl (by decide) _ _ _ rfl H5.out.2 #[.slice Am m.length cm] rfl rfl ?k1 ?k2 ?k3 ?k4 ?_)
      case k1 => rfl
      case k2 => unfold maxLen; omega
      case k3 => omega
      case k4 => exact hs5
      intro v2 w6 ho2 hb2 _ _
      have hw6 : Below wr.heap.size wr w6 := H5.out.1.trans hb2
      obtain ⟨L2, hL2⟩ : ∃ L2 : List (Sl Int), L2 = L ++ [⟨Am, cm, m⟩] := ⟨_, rfl⟩
      have hn2 : L.length + 1 = L2.length := by rw [hL2, List.length_append, List.length_singleton]
      rw [show (L.flatMap Sl.cells ++ [.slice Am m.length cm]) = L2.flatMap Sl.cells by rw [hL2, List.flatMap_append]; rfl] at ho2
      obtain ⟨A7, k7, rfl, _, _, hl7⟩ := lies_of_own (l := L2) (by decide) scell_len hn2 ho2
      have hsf := sfine_more (cm := cm) (A' := A7) (HX.out.2.1.next hw6).src (lies_keep HX.out.2.2.1 hw6) (by rw [← hL2]; exact hl7) HM.out.2 (by omega)
      rw [← hL2] at hsf
      have hsch : schs L2 = schs L ++ [m] := by rw [hL2]; exact schs_more L _
      have H6 := Lib.hid (And.intro (belows HX.out.1 hw6) (And.intro (HX.out.2.1.next hw6) (And.intro (tys_keep HX.out.2.2.2 hw6) hsf)))
      obtain ⟨l2, e2, hR2⟩ : ∃ l2 e2, inferP (schs L2) p = (l2, e2) := ⟨_, _, rfl⟩
      obtain ⟨K, hK⟩ : ∃ K, chkS (schs L2) = K := ⟨_, rfl⟩
      have hfin : K = 0 → (l2, e2) = (l, 0) := fun h => by
        rw [← hR2, hsch]
        exact HW.out (by first | trivial | rfl) (by rw [← hsch, hK]; exact h)
      have Hfin := Lib.hid hfin
      have z1 := Lib.hid (infer_says (c := k7) (by omega) hpv hR2 H6.out.2.1.all H6.out.2.2.2)
      have z2 := fun W (h : Below w6.heap.size w6 W) => Lib.hid (check_schemas (c := k7) hK (H6.out.2.2.2.next h) (by omega))
      clear ho2 hb2 hw6 hL2 hn2 hl7 hsf hsch hR2 hK hfin H5 HN
      obtain ⟨c0, c1, c2, c3, c4, c5, c6, c7⟩ := own8 H6.out.2.1.box
      go_wp2_with fail
      refine z1.out.mono ?_
      rintro _ w7 ⟨A8, k8, rfl, t8, b8⟩
      have H7 := Lib.hid (And.intro (belows H6.out.1 b8) (And.intro (tys_keep H6.out.2.2.1 b8) t8))
      have z2 := z2 _ b8
      clear b8 t8 c0 c1 c2 c3 c4 c5 c6 c7 z1
      go_wp2_with fail
      refine z2.out.mono ?_
      rintro _ w8 ⟨rfl, b9⟩
      have H8 := Lib.hid (And.intro (belows H7.out.1 b9) (And.intro (tys_keep H7.out.2.1 b9) (tys_keep H7.out.2.2 b9)))
      clear b9 z2
      by_cases hK0 : K = 0
      case neg =>
        have t1 : (K != 0) = true := bne_iff_ne.2 hK0
        clear hK0
        go_wp2_with fail
        go_ret
        exact ⟨rfl, H8.out.1⟩
      obtain ⟨rfl, rfl⟩ := Prod.mk.inj (Hfin.out hK0)
      subst hK0
      have z3 : Hid (Calls Try.prog 22 #[.slice A2 l2.length k2, .slice A8 l2.length k8] w8 fun x w' => x = .returned (.bool true) ∧ Below w8.heap.size w8 w') := by
        have h := sametypes_any A2 A8 k2 k8 l2 l2 w8 H8.out.2.1 H8.out.2.2 HL.out HL.out
        rw [decide_eq_true (rfl : l2 = l2)] at h
        exact Lib.hid h
      go_wp2_with fail
      refine z3.out.mono ?_
      rintro _ w9 ⟨rfl, b9⟩
      have H9 := Lib.hid (belows H8.out.1 b9)
      clear b9 z3
      go_wp2_with fail
      go_ret
      exact ⟨rfl, H9.out⟩
theorem pparts_law {b0 b1 b2 : Nat} (p : Px) (A : Option Addr) (c : Nat) (L : List (Sl Int)) (Am : Option Addr) (cm : Nat) (m : List Int) (w : World) (hp : PAll b0 p w) (hl : LL 1 tcell w w.heap.size A L) (h1 : ∀ s ∈ L, s.l.length ≤ b1) (h2 : L.length ≤ b1) (hm : Lies 1 tcell w w.heap.size Am m) (h3 : m.length ≤ b2) (hb : b0 + (b1 + b2) ≤ 1048576) :
    Calls Try.prog 8 #[p.val, .slice A L.length c, .slice Am m.length cm] w fun x w' => x = .returned (.bool true) ∧ Below w.heap.size w w' :=
  pparts_walk 1048576 (Nat.le_refl _) p L A c Am cm m w (hp.mono (by omega)) ⟨hl, fun s hs => by have := h1 s hs; omega, by omega⟩ (by omega) hm (by omega)
end Go.Proofs.Ytjidjpmdmcleoaa
