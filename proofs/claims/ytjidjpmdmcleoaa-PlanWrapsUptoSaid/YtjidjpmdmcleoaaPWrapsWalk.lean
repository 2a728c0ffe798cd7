/- PlanWraps returns true. -/
import Derived.Test.YtjidjpmdmcleoaaPFoot
namespace Go.Proofs.Ytjidjpmdmcleoaa
open Go Go.RowKit

/-- the three plans around the one that came in -/
structure Three (p : Px) (g : Nat) (w : World) : Prop where
  a : Own w g 52 [.int .u8 p.kind, .int .i64 p.n, .slice p.kA p.kids.length p.kc, .slice p.eA p.exprs.length p.ec, .slice p.cA p.cols.length p.cc, .slice p.wA p.wit.length p.wc, .int .u8 p.agg, .int .i64 p.rounds]
  b : Own w (g + 1) 52 [.int .u8 p.kind, .int .i64 p.n, .slice p.kA p.kids.length p.kc, .slice p.eA p.exprs.length p.ec, .slice p.cA p.cols.length p.cc, .slice p.wA p.wit.length p.wc, .int .u8 p.agg, .int .i64 p.rounds]
  c : Own w (g + 1 + 1) 52 [.int .u8 p.kind, .int .i64 p.n, .slice p.kA p.kids.length p.kc, .slice p.eA p.exprs.length p.ec, .slice p.cA p.cols.length p.cc, .slice p.wA p.wit.length p.wc, .int .u8 p.agg, .int .i64 p.rounds, .int .u8 p.kind, .int .i64 p.n, .slice p.kA p.kids.length p.kc, .slice p.eA p.exprs.length p.ec, .slice p.cA p.cols.length p.cc, .slice p.wA p.wit.length p.wc, .int .u8 p.agg, .int .i64 p.rounds]
  row : Own w (g + 1 + 1 + 1) 52 [.int .u8 6, .int .i64 0, .slice (some ⟨g, 0, none⟩) 1 1, .slice none 0 0, .slice none 0 0, .slice none 0 0, .int .u8 0, .int .i64 0, .int .u8 9, .int .i64 0, .slice (some ⟨(g + 1), 0, none⟩) 1 1, .slice none 0 0, .slice none 0 0, .slice none 0 0, .int .u8 0, .int .i64 0, .int .u8 5, .int .i64 0, .slice (some ⟨(g + 1 + 1), 0, none⟩) 2 2, .slice none 0 0, .slice none 0 0, .slice none 0 0, .int .u8 0, .int .i64 0]
theorem Three.next {p : Px} {g : Nat} {w w' : World} (h : Three p g w) (hb : Below w.heap.size w w') : Three p g w' :=
  ⟨h.a.past hb h.a.inside, h.b.past hb h.b.inside, h.c.past hb h.c.inside, h.row.past hb h.row.inside⟩
theorem box_three (w : World) (p : Px) : ∃ V, V = ((((w.alloc (.cells #[.int .u8 p.kind, .int .i64 p.n, .slice p.kA p.kids.length p.kc, .slice p.eA p.exprs.length p.ec, .slice p.cA p.cols.length p.cc, .slice p.wA p.wit.length p.wc, .int .u8 p.agg, .int .i64 p.rounds] 52)).alloc (.cells #[.int .u8 p.kind, .int .i64 p.n, .slice p.kA p.kids.length p.kc, .slice p.eA p.exprs.length p.ec, .slice p.cA p.cols.length p.cc, .slice p.wA p.wit.length p.wc, .int .u8 p.agg, .int .i64 p.rounds] 52)).alloc (.cells #[.int .u8 p.kind, .int .i64 p.n, .slice p.kA p.kids.length p.kc, .slice p.eA p.exprs.length p.ec, .slice p.cA p.cols.length p.cc, .slice p.wA p.wit.length p.wc, .int .u8 p.agg, .int .i64 p.rounds, .int .u8 p.kind, .int .i64 p.n, .slice p.kA p.kids.length p.kc, .slice p.eA p.exprs.length p.ec, .slice p.cA p.cols.length p.cc, .slice p.wA p.wit.length p.wc, .int .u8 p.agg, .int .i64 p.rounds] 52)).alloc (.cells #[.int .u8 6, .int .i64 0, .slice (some ⟨w.heap.size, 0, none⟩) 1 1, .slice none 0 0, .slice none 0 0, .slice none 0 0, .int .u8 0, .int .i64 0, .int .u8 9, .int .i64 0, .slice (some ⟨(w.heap.size + 1), 0, none⟩) 1 1, .slice none 0 0, .slice none 0 0, .slice none 0 0, .int .u8 0, .int .i64 0, .int .u8 5, .int .i64 0, .slice (some ⟨(w.heap.size + 1 + 1), 0, none⟩) 2 2, .slice none 0 0, .slice none 0 0, .slice none 0 0, .int .u8 0, .int .i64 0] 52)) ∧ Below w.heap.size w V ∧ Three p w.heap.size V := by
  obtain ⟨W1, e1, s1, b1, o1, k1⟩ := boxed w [.int .u8 p.kind, .int .i64 p.n, .slice p.kA p.kids.length p.kc, .slice p.eA p.exprs.length p.ec, .slice p.cA p.cols.length p.cc, .slice p.wA p.wit.length p.wc, .int .u8 p.agg, .int .i64 p.rounds] 52
  obtain ⟨W2, e2, s2, b2, o2, k2⟩ := boxed W1 [.int .u8 p.kind, .int .i64 p.n, .slice p.kA p.kids.length p.kc, .slice p.eA p.exprs.length p.ec, .slice p.cA p.cols.length p.cc, .slice p.wA p.wit.length p.wc, .int .u8 p.agg, .int .i64 p.rounds] 52
  obtain ⟨W3, e3, s3, b3, o3, k3⟩ := boxed W2 [.int .u8 p.kind, .int .i64 p.n, .slice p.kA p.kids.length p.kc, .slice p.eA p.exprs.length p.ec, .slice p.cA p.cols.length p.cc, .slice p.wA p.wit.length p.wc, .int .u8 p.agg, .int .i64 p.rounds, .int .u8 p.kind, .int .i64 p.n, .slice p.kA p.kids.length p.kc, .slice p.eA p.exprs.length p.ec, .slice p.cA p.cols.length p.cc, .slice p.wA p.wit.length p.wc, .int .u8 p.agg, .int .i64 p.rounds] 52
  obtain ⟨W4, e4, s4, b4, o4, k4⟩ := boxed W3 [.int .u8 6, .int .i64 0, .slice (some ⟨w.heap.size, 0, none⟩) 1 1, .slice none 0 0, .slice none 0 0, .slice none 0 0, .int .u8 0, .int .i64 0, .int .u8 9, .int .i64 0, .slice (some ⟨(w.heap.size + 1), 0, none⟩) 1 1, .slice none 0 0, .slice none 0 0, .slice none 0 0, .int .u8 0, .int .i64 0, .int .u8 5, .int .i64 0, .slice (some ⟨(w.heap.size + 1 + 1), 0, none⟩) 2 2, .slice none 0 0, .slice none 0 0, .slice none 0 0, .int .u8 0, .int .i64 0] 52
  rw [s1] at o2
  rw [s2, s1] at o3
  rw [s3, s2, s1] at o4
  refine ⟨W4, by rw [e4, e3, e2, e1], ((b1.trans (b2.mono (by omega))).trans (b3.mono (by omega))).trans (b4.mono (by omega)), ?_⟩
  exact ⟨k4 _ _ _ (k3 _ _ _ (k2 _ _ _ o1)), k4 _ _ _ (k3 _ _ _ o2), k4 _ _ _ o3, o4⟩
def pthree (p : Px) (g i : Nat) : Px := if i = 0 then pwrap 6 (some ⟨g, 0, none⟩) 1 [p] 0 else if i = 1 then pwrap 9 (some ⟨g + 1, 0, none⟩) 1 [p] 0 else pwrap 5 (some ⟨g + 1 + 1, 0, none⟩) 2 [p, p] 0
theorem three_row {p : Px} {g i : Nat} {w : World} (h : Three p g w) (hi : i < 3) : PAt w (g + 1 + 1 + 1) (i * 8) (pthree p g i) := fun j u hj => by
  have hj8 : j < 8 := (List.getElem?_eq_some_iff.1 hj).1
  rw [h.row.at_]
  rcases (by omega : i = 0 ∨ i = 1 ∨ i = 2) with rfl | rfl | rfl <;>
    (rcases (by omega : j = 0 ∨ j = 1 ∨ j = 2 ∨ j = 3 ∨ j = 4 ∨ j = 5 ∨ j = 6 ∨ j = 7) with rfl | rfl | rfl | rfl | rfl | rfl | rfl | rfl <;> exact hj)
theorem three_all {M : Nat} {p : Px} {g : Nat} {w : World} (h : Three p g w) (hp : PAll M p w) (hM : M ≤ 1048576) (i : Nat) : PAll 4194304 (pthree p g i) w := by
  have hp' := hp.mono hM
  unfold pthree
  split
  · exact wrap_all (M := 1048576) (by decide) i0fit (fun x hx => by obtain rfl : x = p := by simpa using hx
                                                                    exact hp') (l := [p]) h.a (by simp) (by simp) (by omega) (by unfold maxLen; omega) (by omega)
  · split
    · exact wrap_all (M := 1048576) (by decide) i0fit (fun x hx => by obtain rfl : x = p := by simpa using hx
                                                                      exact hp') (l := [p]) h.b (by simp) (by simp) (by omega) (by unfold maxLen; omega) (by omega)
    · exact wrap_all (M := 1048576) (by decide) i0fit (fun x hx => by obtain rfl : x = p := by simpa using hx
                                                                      exact hp') (l := [p, p]) h.c (by simp) (by simp) (by omega) (by unfold maxLen; omega) (by omega)
theorem three_says {src : List (List Int)} {p : Px} {g i : Nat} (hb : cntP 17 (pthree p g i) < 4611686018427387904) (h : checkP (pthree p g i) = 0) : inferP src (pthree p g i) = inferP src p := by
  unfold pthree at *
  split at h
  · rename_i hi; rw [if_pos hi] at hb ⊢; exact wrap_one (.inl rfl) _ _ p hb h
  · rename_i hi
    rw [if_neg hi] at hb ⊢
    split at h
    · rename_i hi; rw [if_pos hi] at hb ⊢; exact wrap_one (.inr rfl) _ _ p hb h
    · rename_i hi; rw [if_neg hi] at hb ⊢; exact wrap_two _ _ p hb h
set_option maxRecDepth 100000 in
set_option maxHeartbeats 6400000 in
theorem pwraps_walk (M : Nat) (hM : M ≤ 1048576) (p : Px) (L : List (Sl Int)) (A : Option Addr) (c : Nat) (w : World) (hp : PAll M p w) (hs : SFine M L A w) :
    Calls Try.prog 9 #[p.val, .slice A L.length c] w fun x w' => x = .returned (.bool true) ∧ Below w.heap.size w w' := by
  have y0 := fun W => Lib.hid (plives_true W)
  have hpv : p.val = .agg #[.int .u8 p.kind, .int .i64 p.n, .slice p.kA p.kids.length p.kc, .slice p.eA p.exprs.length p.ec, .slice p.cA p.cols.length p.cc, .slice p.wA p.wit.length p.wc, .int .u8 p.agg, .int .i64 p.rounds] := rfl
  obtain ⟨W, hW, fb, fc⟩ := came_box w hp hs
  have HB := Lib.hid (And.intro fb fc)
  have hln := infer_len hp hs (by omega)
  obtain ⟨l, e, hR⟩ : ∃ l e, inferP (schs L) p = (l, e) := ⟨_, _, rfl⟩
  rw [hR] at hln
  have HL := Lib.hid hln
  have HR := Lib.hid hR
  have z1 := fun W (h : Came M p L A w.heap.size W) => Lib.hid (infer_says (c := c) (by omega) hpv hR h.all h.src)
  rw [hpv]
  clear hp hs fb fc hR hln
  go_enter Try.func9, Try.ntmps9
  go_upto_region 1 with fail
  rw [← hW]
  clear hW
  go_wp2_with fail
  refine (y0 _).out.mono ?_
  rintro _ w1 ⟨rfl, b1⟩
  have H1 := Lib.hid (And.intro (belows HB.out.1 b1) (HB.out.2.next b1))
  clear b1
  obtain ⟨c0, c1, c2, c3, c4, c5, c6, c7⟩ := own8 H1.out.2.box
  go_wp2_with fail
  refine (z1 _ H1.out.2).out.mono ?_
  rintro _ w2 ⟨A2, k2, rfl, t2, b2⟩
  have H2 := Lib.hid (And.intro (belows H1.out.1 b2) (And.intro (H1.out.2.next b2) t2))
  clear b2 t2 c0 c1 c2 c3 c4 c5 c6 c7 z1
  obtain ⟨c0, c1, c2, c3, c4, c5, c6, c7⟩ := own8 H2.out.2.1.box
  obtain ⟨d0, d1, d2, d3, d4, d5, d6, d7⟩ := own8 (H2.out.2.1.box.more (.cells #[.int .u8 p.kind, .int .i64 p.n, .slice p.kA p.kids.length p.kc, .slice p.eA p.exprs.length p.ec, .slice p.cA p.cols.length p.cc, .slice p.wA p.wit.length p.wc, .int .u8 p.agg, .int .i64 p.rounds] 52))
  obtain ⟨f0, f1, f2, f3, f4, f5, f6, f7⟩ := own8 ((H2.out.2.1.box.more (.cells #[.int .u8 p.kind, .int .i64 p.n, .slice p.kA p.kids.length p.kc, .slice p.eA p.exprs.length p.ec, .slice p.cA p.cols.length p.cc, .slice p.wA p.wit.length p.wc, .int .u8 p.agg, .int .i64 p.rounds] 52)).more (.cells #[.int .u8 p.kind, .int .i64 p.n, .slice p.kA p.kids.length p.kc, .slice p.eA p.exprs.length p.ec, .slice p.cA p.cols.length p.cc, .slice p.wA p.wit.length p.wc, .int .u8 p.agg, .int .i64 p.rounds] 52))
  obtain ⟨V, hV, hb, hk⟩ := box_three w2 p
  have H3 := Lib.hid (And.intro (belows H2.out.1 hb) (And.intro (H2.out.2.1.next hb) (And.intro (tys_keep H2.out.2.2 hb) hk)))
  clear hb hk
  have y1 := fun (i : Nat) => Lib.hid (three_says (src := schs L) (p := p) (g := w2.heap.size) (i := i))
  go_upto_region 5 with fail
  rw [← hV]
  clear hV c0 c1 c2 c3 c4 c5 c6 c7 d0 d1 d2 d3 d4 d5 d6 d7 f0 f1 f2 f3 f4 f5 f6 f7 H2
  generalize w2.heap.size = g at *
  go_loopw [31] (fun i wr => ∃ k : Nat, i = .int .i64 (k : Int) ∧ k ≤ 3 ∧ Below w.heap.size w wr ∧ Came M p L A w.heap.size wr ∧ Tys wr wr.heap.size A2 l ∧ Three p g wr) (fun i _ => 3 - (intOf i).toNat)
  case atStart => exact ⟨0, rfl, by omega, H3.out.1, H3.out.2.1, H3.out.2.2.1, H3.out.2.2.2⟩
  case round =>
    obtain ⟨k, rfl, hk, hbw, hcm, htl, hth⟩ := hrel
    have HX := Lib.hid (And.intro hbw (And.intro hcm (And.intro htl hth)))
    clear hbw hcm htl hth H3
    by_cases hlt : k < 3
    · obtain ⟨x0, x1, x2, x3, x4, x5, x6, x7⟩ := (three_row HX.out.2.2.2 hlt).eight
      obtain ⟨V, hV, hb, hbs, hk8⟩ := pxbox wr (pthree p g k)
      have hqa := Lib.hid (fun W' (hw : Below wr.heap.size wr W') => three_all (HX.out.2.2.2.next hw) (HX.out.2.1.all.next hw) hM k)
      have hq0 := hqa.out V hb
      have HV := Lib.hid (And.intro (belows HX.out.1 hb) (And.intro (HX.out.2.1.next hb) (And.intro (tys_keep HX.out.2.2.1 hb) (And.intro (HX.out.2.2.2.next hb) hb))))
      have hw1 := y1 k
      have hcn := hq0.cnt 17
      have hln2 := infer_len hq0 (HV.out.2.1.src.mono (by omega)) (by omega)
      generalize pthree p g k = q at *
      have hqv : q.val = .agg #[.int .u8 q.kind, .int .i64 q.n, .slice q.kA q.kids.length q.kc, .slice q.eA q.exprs.length q.ec, .slice q.cA q.cols.length q.cc, .slice q.wA q.wit.length q.wc, .int .u8 q.agg, .int .i64 q.rounds] := rfl
      obtain ⟨l', e', hR'⟩ : ∃ l' e', inferP (schs L) q = (l', e') := ⟨_, _, rfl⟩
      obtain ⟨K, hK⟩ : ∃ K, checkP q = K := ⟨_, rfl⟩
      have z1 := Lib.hid (infer_says (c := c) (by omega) hqv hR' hq0 (HV.out.2.1.src.mono (by omega)))
      have z2 := fun W' hw => Lib.hid (check_says hqv hK (hqa.out W' hw))
      rw [hR'] at hln2
      have hsame : K = 0 → (l', e') = (l, e) := fun h => by
        rw [← hR', ← HR.out]
        exact hw1.out (by omega) (by rw [hK]; exact h)
      have Hsame := Lib.hid hsame
      have Hln2 := Lib.hid hln2
      obtain ⟨v0, v1, v2, v3, v4, v5, v6, v7⟩ := own8 hk8
      have Hk8 := Lib.hid hk8
      have q0 : (0 : Int) ≤ (k : Int) := by omega
      have q1 : (k : Int) < 3 := by omega
      have q2 : decide ((k : Int) < 3) = true := decide_eq_true q1
      clear hqv hq0 hR' hK hqa hsame hln2 hb hw1 hcn hbs hk8
      go_upto_region 7 with fail
      rw [← hV]
      clear hV x0 x1 x2 x3 x4 x5 x6 x7
      go_wp2_with fail
      refine z1.out.mono ?_
      rintro _ w4 ⟨A4, k4, rfl, t4, b4⟩
      have H4 := Lib.hid (And.intro (belows HV.out.1 b4) (And.intro (HV.out.2.1.next b4) (And.intro (tys_keep HV.out.2.2.1 b4) (And.intro (HV.out.2.2.2.1.next b4) (And.intro (belows HV.out.2.2.2.2 b4) (And.intro t4 (Hk8.out.past b4 Hk8.out.inside)))))))
      clear b4 t4 v0 v1 v2 v3 v4 v5 v6 v7 z1
      obtain ⟨v0, v1, v2, v3, v4, v5, v6, v7⟩ := own8 H4.out.2.2.2.2.2.2
      go_wp2_with fail
      refine (z2 _ H4.out.2.2.2.2.1).out.mono ?_
      rintro _ w5 ⟨rfl, b5⟩
      have H5 := Lib.hid (And.intro (belows H4.out.1 b5) (And.intro (H4.out.2.1.next b5) (And.intro (tys_keep H4.out.2.2.1 b5) (And.intro (H4.out.2.2.2.1.next b5) (tys_keep H4.out.2.2.2.2.2.1 b5)))))
      clear b5 v0 v1 v2 v3 v4 v5 v6 v7 z2
      by_cases hK0 : K = 0
      case neg =>
        have t1 : (K == 0) = false := beq_eq_false_iff_ne.2 hK0
        clear hK0
        go_wp2_with fail
        go_roundw
        case rel => exact ⟨k + 1, by go_num, by omega, H5.out.1, H5.out.2.1, H5.out.2.2.1, H5.out.2.2.2.1⟩
        case measure => simp [intOf]; omega
      obtain ⟨rfl, rfl⟩ := Prod.mk.inj (Hsame.out hK0)
      subst hK0
      have z3 : Hid (Calls Try.prog 22 #[.slice A2 l'.length k2, .slice A4 l'.length k4] w5 fun x w' => x = .returned (.bool true) ∧ Below w5.heap.size w5 w') := by
        have h := sametypes_any A2 A4 k2 k4 l' l' w5 H5.out.2.2.1 H5.out.2.2.2.2 HL.out HL.out
        rw [decide_eq_true (rfl : l' = l')] at h
        exact Lib.hid h
      go_wp2_with fail
      refine z3.out.mono ?_
      rintro _ w6 ⟨rfl, b6⟩
      have H6 := Lib.hid (And.intro (belows H5.out.1 b6) (And.intro (H5.out.2.1.next b6) (And.intro (tys_keep H5.out.2.2.1 b6) (H5.out.2.2.2.1.next b6))))
      clear b6 z3
      go_wp2_with fail
      go_roundw
      case rel => exact ⟨k + 1, by go_num, by omega, H6.out.1, H6.out.2.1, H6.out.2.2.1, H6.out.2.2.2⟩
      case measure => simp [intOf]; omega
    · have q2 : decide ((k : Int) < 3) = false := decide_eq_false (by omega)
      go_wp2_with fail
      go_ret
      exact ⟨rfl, HX.out.1⟩
theorem pwraps_law {b0 b1 : Nat} (p : Px) (A : Option Addr) (c : Nat) (L : List (Sl Int)) (w : World) (hp : PAll b0 p w) (hl : LL 1 tcell w w.heap.size A L) (h1 : ∀ s ∈ L, s.l.length ≤ b1) (h2 : L.length ≤ b1) (hb : b0 + b1 ≤ 1048576) :
    Calls Try.prog 9 #[p.val, .slice A L.length c] w fun x w' => x = .returned (.bool true) ∧ Below w.heap.size w w' :=
  pwraps_walk 1048576 (Nat.le_refl _) p L A c w (hp.mono (by omega)) ⟨hl, fun s hs => by have := h1 s hs; omega, by omega⟩
end Go.Proofs.Ytjidjpmdmcleoaa
