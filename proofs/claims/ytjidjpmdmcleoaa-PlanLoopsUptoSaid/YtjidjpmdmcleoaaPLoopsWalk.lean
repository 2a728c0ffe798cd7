/- PlanLoops returns true. -/
import Derived.Test.YtjidjpmdmcleoaaPFoot
import Derived.Lib.MinMax
namespace Go.Proofs.Ytjidjpmdmcleoaa
open Go Go.RowKit

theorem box_loop (w : World) (p : Px) (r : Int) : ∃ V, V = ((w.alloc (.cells #[.int .u8 p.kind, .int .i64 p.n, .slice p.kA p.kids.length p.kc, .slice p.eA p.exprs.length p.ec, .slice p.cA p.cols.length p.cc, .slice p.wA p.wit.length p.wc, .int .u8 p.agg, .int .i64 p.rounds, .int .u8 2, .int .i64 0, .slice none 0 0, .slice none 0 0, .slice none 0 0, .slice none 0 0, .int .u8 0, .int .i64 0] 52)).alloc (.cells #[.int .u8 10, .int .i64 0, .slice (some ⟨w.heap.size, 0, none⟩) 2 2, .slice none 0 0, .slice none 0 0, .slice none 0 0, .int .u8 0, .int .i64 r] 52)) ∧ Below w.heap.size w V ∧ Own V w.heap.size 52 [.int .u8 p.kind, .int .i64 p.n, .slice p.kA p.kids.length p.kc, .slice p.eA p.exprs.length p.ec, .slice p.cA p.cols.length p.cc, .slice p.wA p.wit.length p.wc, .int .u8 p.agg, .int .i64 p.rounds, .int .u8 2, .int .i64 0, .slice none 0 0, .slice none 0 0, .slice none 0 0, .slice none 0 0, .int .u8 0, .int .i64 0] ∧ Own V (w.heap.size + 1) 52 [.int .u8 10, .int .i64 0, .slice (some ⟨w.heap.size, 0, none⟩) 2 2, .slice none 0 0, .slice none 0 0, .slice none 0 0, .int .u8 0, .int .i64 r] := by
  obtain ⟨W1, e1, s1, b1, o1, k1⟩ := boxed w [.int .u8 p.kind, .int .i64 p.n, .slice p.kA p.kids.length p.kc, .slice p.eA p.exprs.length p.ec, .slice p.cA p.cols.length p.cc, .slice p.wA p.wit.length p.wc, .int .u8 p.agg, .int .i64 p.rounds, .int .u8 2, .int .i64 0, .slice none 0 0, .slice none 0 0, .slice none 0 0, .slice none 0 0, .int .u8 0, .int .i64 0] 52
  obtain ⟨W2, e2, s2, b2, o2, k2⟩ := boxed W1 [.int .u8 10, .int .i64 0, .slice (some ⟨w.heap.size, 0, none⟩) 2 2, .slice none 0 0, .slice none 0 0, .slice none 0 0, .int .u8 0, .int .i64 r] 52
  rw [s1] at o2
  exact ⟨W2, by rw [e2, e1], b1.trans (b2.mono (by omega)), k2 _ _ _ o1, o2⟩
set_option maxRecDepth 100000 in
set_option maxHeartbeats 6400000 in
theorem ploops_walk (M : Nat) (hM : M ≤ 1048576) (p : Px) (L : List (Sl Int)) (A : Option Addr) (c : Nat) (r : Int) (w : World) (hp : PAll M p w) (hs : SFine M L A w) (hr : imin ≤ r ∧ r ≤ imax) :
    Calls Try.prog 10 #[p.val, .slice A L.length c, .int .i64 r] w fun x w' => x = .returned (.bool true) ∧ Below w.heap.size w w' := by
  have y0 := fun W => Lib.hid (plives_true W)
  have hpv : p.val = .agg #[.int .u8 p.kind, .int .i64 p.n, .slice p.kA p.kids.length p.kc, .slice p.eA p.exprs.length p.ec, .slice p.cA p.cols.length p.cc, .slice p.wA p.wit.length p.wc, .int .u8 p.agg, .int .i64 p.rounds] := rfl
  obtain ⟨W, hW, fb, fc⟩ := came_box w hp hs
  have HB := Lib.hid (And.intro fb fc)
  have hln := infer_len hp hs (by omega)
  obtain ⟨l, e, hR⟩ : ∃ l e, inferP (schs L) p = (l, e) := ⟨_, _, rfl⟩
  rw [hR] at hln
  have HL := Lib.hid hln
  have HR := Lib.hid hR
  have Hr := Lib.hid hr
  have z1 := fun W (h : Came M p L A w.heap.size W) => Lib.hid (infer_says (c := c) (by omega) hpv hR h.all h.src)
  have z2 := fun W (h : Came M p L A w.heap.size W) => Lib.hid (loops_says hpv rfl h.all)
  rw [hpv]
  clear hp hs fb fc hR hln hr
  go_enter Try.func10, Try.ntmps10
  go_upto_region 1 with fail
  rw [← hW]
  clear hW
  go_wp2_with fail
  refine (y0 _).out.mono ?_
  rintro _ w1 ⟨rfl, b1⟩
  have H1 := Lib.hid (And.intro (belows HB.out.1 b1) (HB.out.2.next b1))
  clear b1
  obtain ⟨c0, c1, c2, c3, c4, c5, c6, c7⟩ := own8 H1.out.2.box
  go_wp2_with fail
  refine (z1 _ H1.out.2).out.mono ?_
  rintro _ w2 ⟨A2, k2, rfl, t2, b2⟩
  have H2 := Lib.hid (And.intro (belows H1.out.1 b2) (And.intro (H1.out.2.next b2) t2))
  clear b2 t2 c0 c1 c2 c3 c4 c5 c6 c7 z1
  obtain ⟨c0, c1, c2, c3, c4, c5, c6, c7⟩ := own8 H2.out.2.1.box
  obtain ⟨V, hV, hb, hk, hq⟩ := box_loop w2 p r
  have H3 := Lib.hid (And.intro (belows H2.out.1 hb) (And.intro (H2.out.2.1.next hb) (And.intro (tys_keep H2.out.2.2 hb) (And.intro hk hq))))
  clear hb hk hq
  go_upto_region 5 with fail
  rw [← hV]
  clear hV c0 c1 c2 c3 c4 c5 c6 c7
  have hqa := Lib.hid (fun W' (hw : Below V.heap.size V W') => wrap_all (M' := 4194304) (k := 10) (r := r) (G := w2.heap.size) (n := 2) (l := [p, pvar]) (t := 52) (w := W') (by decide) Hr.out (fun x hx => by
    rcases List.mem_cons.1 hx with rfl | hx
    · exact ((H3.out.2.1.all.next hw).mono hM : PAll 1048576 x W')
    · rcases List.mem_cons.1 hx with rfl | hx
      · exact pvar_all 1048576 (by omega) (by unfold maxLen; omega) W'
      · cases hx) (H3.out.2.2.2.1.past hw H3.out.2.2.2.1.inside) (by simp) (by simp) (by omega) (by unfold maxLen; omega) (by omega))
  obtain ⟨q, hqd⟩ : ∃ q, q = pwrap 10 (some ⟨w2.heap.size, 0, none⟩) 2 [p, pvar] r := ⟨_, rfl⟩
  have hqv : q.val = .agg #[.int .u8 10, .int .i64 0, .slice (some ⟨w2.heap.size, 0, none⟩) 2 2, .slice none 0 0, .slice none 0 0, .slice none 0 0, .int .u8 0, .int .i64 r] := by rw [hqd]; rfl
  have hq0 := hqa.out V (Below.refl _ _)
  have hwl := fun h => wrap_loop (src := schs L) (some ⟨w2.heap.size, 0, none⟩) 2 p r ((hq0.fine (by omega)).cnt) h
  rw [← hqd] at hqa hq0 hwl
  have hln2 := infer_len hq0 (H3.out.2.1.src.mono (by omega)) (by omega)
  obtain ⟨l', e', hR'⟩ : ∃ l' e', inferP (schs L) q = (l', e') := ⟨_, _, rfl⟩
  obtain ⟨K, hK⟩ : ∃ K, checkP q = K := ⟨_, rfl⟩
  have hno := fun (h : K ≠ 0) => infer_no (src := schs L) (p := q) (by rw [hK]; exact h)
  have x1 := Lib.hid (infer_says (c := c) (by omega) hqv hR' hq0 (H3.out.2.1.src.mono (by omega)))
  have x2 := fun W' hw => Lib.hid (check_says hqv hK (hqa.out W' hw))
  have x3 := fun W' hw => Lib.hid (loops_says hqv rfl (hqa.out W' hw))
  rw [hR', HR.out, hK] at hwl
  rw [hR'] at hno hln2
  have Hwl := Lib.hid hwl
  have Hln2 := Lib.hid hln2
  clear hqd hqv hq0 hR' hK hqa hwl hln2
  obtain ⟨c0, c1, c2, c3, c4, c5, c6, c7⟩ := own8 H3.out.2.2.2.2
  go_wp2_with fail
  refine x1.out.mono ?_
  rintro _ w4 ⟨A4, k4, rfl, t4, b4⟩
  have H4 := Lib.hid (And.intro (belows H3.out.1 b4) (And.intro (H3.out.2.1.next b4) (And.intro (tys_keep H3.out.2.2.1 b4) (And.intro t4 (And.intro (H3.out.2.2.2.2.past b4 H3.out.2.2.2.2.inside) b4)))))
  clear b4 t4 c0 c1 c2 c3 c4 c5 c6 c7 x1
  obtain ⟨c0, c1, c2, c3, c4, c5, c6, c7⟩ := own8 H4.out.2.2.2.2.1
  go_wp2_with fail
  refine (x2 _ H4.out.2.2.2.2.2).out.mono ?_
  rintro _ w5 ⟨rfl, b5⟩
  have H5 := Lib.hid (And.intro (belows H4.out.1 b5) (And.intro (H4.out.2.1.next b5) (And.intro (tys_keep H4.out.2.2.1 b5) (And.intro (tys_keep H4.out.2.2.2.1 b5) (And.intro (H4.out.2.2.2.2.1.past b5 H4.out.2.2.2.2.1.inside) (belows H4.out.2.2.2.2.2 b5))))))
  clear b5 c0 c1 c2 c3 c4 c5 c6 c7 x2
  by_cases hK0 : K = 0
  case neg =>
    have t1 : (K != 0) = true := bne_iff_ne.2 hK0
    have t2 : (e' != 0) = true := bne_iff_ne.2 (hno hK0)
    clear hK0 hno
    go_wp2_with fail
    go_ret
    exact ⟨ret_bool (by first | rfl | rw [t2]), H5.out.1⟩
  have hw2 := Hwl.out hK0
  obtain ⟨hw3, hw4⟩ := hw2
  obtain ⟨rfl, rfl⟩ := Prod.mk.inj hw3
  subst hK0
  clear hw3 hno
  generalize hlq : loopsP q = lq at *
  generalize hlp : loopsP p = lp at *
  have tq : (lq == max 1 lp) = true := beq_iff_eq.2 hw4
  clear hw4 hlq hlp
  go_upto_region 8 with fail
  refine wp_region_past w5 (by kernel_rfl) (by kernel_rfl) (Below.refl _ _) ?_
  have s1 := fun (v : Past w5) => Lib.hid (sametypes_any A2 A4 k2 k4 l' l' v.w (tys_keep H5.out.2.2.1 v.h) (tys_keep H5.out.2.2.2.1 v.h) HL.out HL.out)
  have s2 := fun (v : Past w5) => x3 v.w (belows H5.out.2.2.2.2.2 v.h)
  have s3 := fun (v : Past w5) => z2 v.w (H5.out.2.1.next v.h)
  have d0 := fun (v : Past w5) => own8 (H5.out.2.2.2.2.1.past v.h H5.out.2.2.2.2.1.inside)
  have d1 := fun (v : Past w5) => own8 (H5.out.2.1.box.past v.h H5.out.2.1.box.inside)
  have u1 : ∀ v : Past w5, Calls Try.prog 22 #[.slice A2 l'.length k2, .slice A4 l'.length k4] v.w fun e w'' => e = .returned (.bool true) ∧ ∃ q : Past w5, w'' = q.w := fun v => by
    have h := calls_past (s1 v).out
    rw [decide_eq_true (rfl : l' = l')] at h
    exact h
  have u2 := fun (v : Past w5) => (calls_past (s2 v).out)
  have u3 := fun (v : Past w5) => (calls_past (s3 v).out)
  clear s1 s2 s3 x3 z2
  repeat (first | quiet_step (fail))
  quiet_step ((go_at_call 22; exact u1 _))
  repeat (first | quiet_step (fail))
  quiet_step ((go_at_call 24; exact u2 _))
  repeat (first | quiet_step (fail))
  quiet_step ((go_at_call 24; exact u3 _))
  repeat (first | quiet_step (fail))
  refine wpQuiet_nil ?_
  intro _ hw'
  obtain ⟨⟨wz, hbz⟩, hw''⟩ := hw'
  dsimp only at hw''
  obtain rfl := hw''
  go_wp2_with fail
  go_ret
  exact ⟨rfl, belows H5.out.1 hbz⟩
theorem ploops_law {b0 b1 : Nat} (p : Px) (A : Option Addr) (c : Nat) (L : List (Sl Int)) (r : Int) (w : World) (hp : PAll b0 p w) (hl : LL 1 tcell w w.heap.size A L) (h1 : ∀ s ∈ L, s.l.length ≤ b1) (h2 : L.length ≤ b1) (r1 : -9223372036854775808 ≤ r) (r2 : r ≤ 9223372036854775807) (hb : b0 + b1 ≤ 1048576) :
    Calls Try.prog 10 #[p.val, .slice A L.length c, .int .i64 r] w fun x w' => x = .returned (.bool true) ∧ Below w.heap.size w w' :=
  ploops_walk 1048576 (Nat.le_refl _) p L A c r w (hp.mono (by omega)) ⟨hl, fun s hs => by have := h1 s hs; omega, by omega⟩ ⟨r1, r2⟩
end Go.Proofs.Ytjidjpmdmcleoaa
