/- Part 11 of the texts on which SpineEnds rests: facts and contracts. -/
import Derived.Test.YtenjlhlighkenaaGreatSpineEndsM10
namespace Go.Proofs.YtenjlhlighkenaaGreat
open Go Go.RowKit

def WorkedC (m : Mg) (fuel : Int) (w : World) (x : Ending) (w' : World) : Prop :=
  ∃ (m' : Mg) (c E : Int), x = .returned (.tuple #[m'.val, .int .i64 c, .int .i64 E]) ∧ (¬ MOk m ∧ m' = Mg.nil ∧ c = 0 ∧ E = 8 ∨ MOk m ∧ WorkOk m m' fuel c E) ∧ MgIn w' w'.heap.size m' ∧ MgOk m' ∧ MgLo w.heap.size m' ∧ Below w.heap.size w w' ∧ m'.ac = m'.a.length ∧ m'.bc = m'.b.length
set_option maxRecDepth 100000 in
set_option maxHeartbeats 12800000 in
theorem work_anyC (m : Mg) (fuel : Int) (w : World) (hm : MgIn w w.heap.size m) (hok : MgOk m) (na : m.a.length ≤ 274877906944) (nb : m.b.length ≤ 274877906944) (no : m.o.length ≤ 274877906944) :
    Calls Tryz.prog 53 #[m.val, .int .i64 fuel] w (WorkedC m fuel w) := by
  obtain ⟨V, hV, hvb, hvo, hvz⟩ := wk_box w m
  have hin := hm.keep hvb
  have y1 := Lib.hid (checkM_any m V hin hok)
  have HB := Lib.hid (And.intro hvb (And.intro hvo hvz))
  have HK := Lib.hid (And.intro hin (And.intro hok (And.intro na (And.intro nb no))))
  have hmv : m.val = .agg #[.slice m.aA m.a.length m.ac, .slice m.bA m.b.length m.bc, .int .i64 m.i, .int .i64 m.j, .slice m.sA m.f.length m.sc, .slice m.oA m.o.length m.oc] := rfl
  rw [hmv] at y1 ⊢
  obtain ⟨d0, d1, d2, d3, d4, d5⟩ := own6 hvo
  clear hm hok hvb hvo hvz hin hmv na nb no
  go_enter Tryz.func53, Tryz.ntmps53
  go_upto_region 1 with fail
  rw [← hV]
  clear hV
  go_wp2_with fail
  refine y1.out.mono ?_
  rintro _ w1 ⟨n, rfl, hn, b1⟩
  have H1 := Lib.hid (And.intro hn (And.intro (HB.out.1.trans (b1.mono HB.out.1.size)) (And.intro (HB.out.2.1.past b1 HB.out.2.1.inside) (And.intro (HB.out.2.2.past b1 HB.out.2.2.inside) (HK.out.1.keep b1)))))
  clear d0 d1 d2 d3 d4 d5 b1 y1 hn
  by_cases h0 : n = 0
  case neg =>
    have t1 : (n != 0) = true := bne_iff_ne.2 h0
    obtain ⟨f0, f1, f2, f3, f4, f5⟩ := own_frozen6 H1.out.2.2.2.1
    obtain ⟨z0, z1, z2, z3, z4, z5⟩ := own6 H1.out.2.2.2.1
    obtain ⟨X, hX', hXo, hXb, hXs, hXh⟩ := own_six H1.out.2.2.2.1 (.slice none 0 0) (.slice none 0 0) (.int .i64 0) (.int .i64 0) (.slice none 0 0) (.slice none 0 0)
    have HX := Lib.hid (And.intro (hXb w.heap.size w H1.out.2.1 (by omega)) hXo)
    have HR := Lib.hid hX'
    have H0 := Lib.hid h0
    clear hXo hXb hXs hXh hX' h0
    go_wp2_with fail
    rw [← HR.out]
    obtain ⟨x0, x1, x2, x3, x4, x5⟩ := own6 HX.out.2
    exact bodyPost_ret (v := .tuple #[.agg #[.slice none 0 0, .slice none 0 0, .int .i64 0, .int .i64 0, .slice none 0 0, .slice none 0 0], .int .i64 0, .int .i64 n]) (by simp [results, Tryz.results53, go_sem, x0, x1, x2, x3, x4, x5]) rfl ⟨Mg.nil, 0, n, rfl, .inl (by
      rcases H1.out.1 with ⟨_, e⟩ | ⟨e, e2⟩
      · exact absurd e H0.out
      · exact ⟨e, rfl, rfl, e2⟩), mg_nil_in _ _, mg_nil_ok, mg_nil_lo _, HX.out.1, rfl, rfl⟩
  subst h0
  have hmok : MOk m := by
    rcases H1.out.1 with ⟨e, _⟩ | ⟨_, e⟩
    · exact e
    · omega
  have y2 := Lib.hid (copyM_any m w1 H1.out.2.2.2.2 HK.out.2.1 (mok_sm hmok HK.out.2.2.1 HK.out.2.2.2.1 HK.out.2.2.2.2))
  obtain ⟨d0, d1, d2, d3, d4, d5⟩ := own6 H1.out.2.2.1
  have HM := Lib.hid hmok
  rw [show m.val = .agg #[.slice m.aA m.a.length m.ac, .slice m.bA m.b.length m.bc, .int .i64 m.i, .int .i64 m.j, .slice m.sA m.f.length m.sc, .slice m.oA m.o.length m.oc] from rfl] at y2
  clear hmok
  go_wp2_with fail
  refine y2.out.mono ?_
  rintro _ w2 ⟨m1, rfl, hs1, hi1, ho1, hl1, b2, ha1⟩
  clear d0 d1 d2 d3 d4 d5 y2
  -- loop
  unfold Mg.val
  obtain ⟨i1, hi1'⟩ : ∃ i : Nat, m1.i = (i : Int) := ⟨m1.i.toNat, by have := HM.out.da.lo; rw [hs1.i]; omega⟩
  obtain ⟨j1, hj1'⟩ : ∃ j : Nat, m1.j = (j : Int) := ⟨m1.j.toNat, by have := HM.out.db.lo; rw [hs1.j]; omega⟩
  have hi1l : i1 ≤ m1.a.length := by have := HM.out.da.hi; have h3 := hs1.i; rw [len_p hs1.a]; omega
  have hj1l : j1 ≤ m1.b.length := by have := HM.out.db.hi; have h3 := hs1.j; rw [len_p hs1.b]; omega
  rw [hi1', hj1']
  obtain ⟨V2, hV2⟩ : ∃ V2, V2 = w2.alloc (.cells #[.slice m1.aA m1.a.length m1.ac, .slice m1.bA m1.b.length m1.bc, .int .i64 (i1 : Int), .int .i64 (j1 : Int), .slice m1.sA m1.f.length m1.sc, .slice m1.oA m1.o.length m1.oc, .int .i64 0] 154) := ⟨_, rfl⟩
  have hst0 := wst_start hi1 ho1 ha1 hi1' hj1' b2.size hl1 hV2
  have hbV2 : Below w1.heap.size w2 V2 := by rw [hV2]; exact (Below.refl _ _).alloc b2.size _
  have HCP := Lib.hid (And.intro ha1.ac ha1.bc)
  have hla := len_p hs1.a
  have hlb := len_p hs1.b
  have hlo := len_p hs1.o
  have hnA : m1.a.length ≤ 274877906944 := by rw [hla]; exact HK.out.2.2.1
  have hnB : m1.b.length ≤ 274877906944 := by rw [hlb]; exact HK.out.2.2.2.1
  have hnO : m1.o.length ≤ 274877906944 := by rw [hlo]; exact HK.out.2.2.2.2
  have hRz := (H1.out.2.2.2.1.past b2 H1.out.2.2.2.1.inside).past hbV2 H1.out.2.2.2.1.inside
  have hNl : (m.a.length - m.i.toNat) + (m.b.length - m.j.toNat) = (m1.a.length - i1) + (m1.b.length - j1) := by have h3 := hs1.i; have h4 := hs1.j; rw [hla, hlb]; omega
  have hii : m.i.toNat = i1 := by have h3 := hs1.i; omega
  have hjj : m.j.toNat = j1 := by have h3 := hs1.j; omega
  have H2 := Lib.hid (And.intro (And.intro H1.out.2.1.size H1.out.2.2.2.1.inside) (And.intro (show Below w.heap.size w V2 from (H1.out.2.1.trans (b2.mono H1.out.2.1.size)).trans (hbV2.mono H1.out.2.1.size)) (And.intro hRz (And.intro ho1 (And.intro hs1 (And.intro hl1 (And.intro ha1 (And.intro (And.intro hNl (And.intro hii hjj)) hst0))))))))
  have hP2 : w2.heap.size < V2.heap.size := hst0.own.inside
  obtain ⟨P, hP⟩ : ∃ P, P = w2.heap.size := ⟨_, rfl⟩
  have HST := Lib.hid (show WSt w1.heap.size P m1 i1 j1 0 (.slice m1.oA m1.o.length m1.oc) m1.o V2 from hP ▸ hst0)
  clear hs1 hi1 ho1 hl1 b2 ha1 hi1' hj1' hst0 hbV2 hla hlb hlo hRz hNl hii hjj hP2
  go_wp2_with fail
  rw [← hV2, ← hP]
  clear hV2 hP
  go_loopw [9] (fun _ wr => ∃ (i j k : Nat) (v : Value) (o : List Up) (n : Nat), WSt w1.heap.size P m1 i j k v o wr ∧ Below w1.heap.size V2 wr ∧ i ≤ m1.a.length ∧ j ≤ m1.b.length ∧ k ≤ i + j ∧ o.length + (m1.a.length - i) + (m1.b.length - j) ≤ 824633720832 ∧
      workM m1.f fuel ((m1.a.length - i1) + (m1.b.length - j1)) (curM m1 i1 j1 0 m1.o) = workM m1.f fuel n (curM m1 i j k o) ∧ (m1.a.length - i) + (m1.b.length - j) ≤ n)
    (fun _ wr => m1.a.length + m1.b.length - ((intOf ((wr.cell? ⟨P, 2, none⟩).getD undef)).toNat + (intOf ((wr.cell? ⟨P, 3, none⟩).getD undef)).toNat))
  case atStart => exact ⟨i1, j1, 0, _, m1.o, _, HST.out, Below.refl _ _, hi1l, hj1l, by omega, by omega, rfl, Nat.le_refl _⟩
  case round =>
    obtain ⟨i, j, k, v, o, n, hws, hbv, hi, hj, hk, hsz, hw, hn⟩ := hrel
    obtain ⟨oA, oc, hv, _, _, _⟩ := lies_of_own (size := 6) (cells := Up.cells) (by decide) ucells_len rfl hws.row
    subst hv
    obtain ⟨wi, hwi⟩ : ∃ wi, wi = wr := ⟨_, rfl⟩
    subst hwi
    have y1 := Lib.hid (left_any P m1 i j k _ wi hws.own (by omega) (by omega) (by omega) (by omega))
    have HN := Lib.hid (And.intro hi (And.intro hj (And.intro hk (And.intro hsz (And.intro hw hn)))))
    have HW := Lib.hid (And.intro hws hbv)
    clear hws hbv hw
    have HC := Lib.hid (show WSt w1.heap.size P m1 i j k (.slice oA o.length oc) o wi ∧ Below w1.heap.size V2 wi from HW.out)
    obtain ⟨c0, c1, c2, c3, c4, c5, c6⟩ := own7 HC.out.1.own
    by_cases hlf : i < m1.a.length ∨ j < m1.b.length
    case neg =>
      have hD : decide (i < m1.a.length ∨ j < m1.b.length) = false := decide_eq_false hlf
      rw [hD] at y1
      have HE := Lib.hid (show workM m1.f fuel n (curM m1 i j k o) = { curM m1 i j k o with E := 0 } from work_none (cur_none (by omega) (by omega)) n)
      clear hD hlf c0 c1 c2 c3 c4 c5 c6
      go_wp2_with fail
      refine y1.out.mono ?_
      rintro _ wl ⟨rfl, q, hq⟩
      have h9 : WSt w1.heap.size P m1 i j k (.slice oA o.length oc) o wl := hq ▸ HC.out.1.past (below_draws (Below.refl _ _) q)
      have b9 : Below w1.heap.size V2 wl := hq ▸ below_draws HC.out.2 q
      have HQ := Lib.hid (And.intro h9 b9)
      have hC := fun p : Past wl => own7 ((h9.past p.h).own)
      clear hq h9 b9 y1
      have hwt := hC ⟨wl, Below.refl _ _⟩
      obtain ⟨c0, c1, c2, c3, c4, c5, c6⟩ := hwt
      dsimp only at c0 c1 c2 c3 c4 c5 c6
      have HS := Lib.hid (fun W (h : Hp P wl W) => (⟨h.cell c0, h.cell c1, h.cell c2, h.cell c3, h.cell c4, h.cell c5, h.cell c6⟩ : W.cell? ⟨P, 0, none⟩ = some (.slice m1.aA m1.a.length m1.ac) ∧ W.cell? ⟨P, 1, none⟩ = some (.slice m1.bA m1.b.length m1.bc) ∧ W.cell? ⟨P, 2, none⟩ = some (.int .i64 (i : Int)) ∧ W.cell? ⟨P, 3, none⟩ = some (.int .i64 (j : Int)) ∧ W.cell? ⟨P, 4, none⟩ = some (.slice m1.sA m1.f.length m1.sc) ∧ W.cell? ⟨P, 5, none⟩ = some (.slice oA o.length oc) ∧ W.cell? ⟨P, 6, none⟩ = some (.int .i64 (k : Int))))
      have hself := Hp.refl P wl
      have hRP : w.heap.size + 1 ≠ P := by have h1 := H2.out.1.2; have h2 := HST.out.base_; omega
      have hwz := (H2.out.2.2.1.past HQ.out.2 (by have := H2.out.1.2; omega))
      obtain ⟨f0, f1, f2, f3, f4, f5⟩ := own_frozen6 hwz
      obtain ⟨z0, z1, z2, z3, z4, z5⟩ := own6 hwz
      clear hwz
      go_upto_region 9 with fail
      have HDR := Lib.hid (Below.drew (Below.refl wl.heap.size wl))
      go_region_held3 (fun w' => Hp P wl w' ∧ (w'.cell? ⟨P, 0, none⟩ = some (.slice m1.aA m1.a.length m1.ac) ∧ w'.cell? ⟨P, 1, none⟩ = some (.slice m1.bA m1.b.length m1.bc) ∧ w'.cell? ⟨P, 2, none⟩ = some (.int .i64 (i : Int)) ∧ w'.cell? ⟨P, 3, none⟩ = some (.int .i64 (j : Int)) ∧ w'.cell? ⟨P, 4, none⟩ = some (.slice m1.sA m1.f.length m1.sc) ∧ w'.cell? ⟨P, 5, none⟩ = some (.slice oA o.length oc) ∧ w'.cell? ⟨P, 6, none⟩ = some (.int .i64 (k : Int))))
        ((refine (fun h => And.intro h (HS.out _ h)) ?_; repeat (first | with_reducible exact hself | with_reducible refine Hp.set ?_ hRP _ _ | with_reducible refine Hp.drew ?_)))
        (fail)
      clear c0 c1 c2 c3 c4 c5 c6 f0 f1 f2 f3 f4 f5 z0 z1 z2 z3 z4 z5 hself
      have hz := (H2.out.2.2.1.past HQ.out.2 (by have := H2.out.1.2; omega))
      have hst := HQ.out.1
      have hbb := HQ.out.2
      obtain ⟨X, hX', hXo, hXb, hXs, hXh⟩ := own_six hz (.slice m1.aA m1.a.length m1.ac) (.slice m1.bA m1.b.length m1.bc) (.int .i64 (i : Int)) (.int .i64 (j : Int)) (.slice m1.sA m1.f.length m1.sc) (.slice oA o.length oc)
      obtain ⟨r1, r2⟩ := out_fine (R := w.heap.size + 1) hst H2.out.2.2.2.2.2.1 H2.out.1.2 hXs hXh
      have HX := Lib.hid (And.intro (Below.drew (hXb w.heap.size w (H2.out.2.1.trans (hbb.mono H2.out.1.1)) (by omega))) (And.intro (own_drew' hXo) (And.intro (show MgIn X.drew X.drew.heap.size (outM m1 i j oA oc o) from r1.keep (Below.drew (Below.refl _ _))) (r2.mono H2.out.1.1))))
      have HR := Lib.hid hX'
      clear hst hbb hz hXo hXb hXs hXh hX' hC r1 r2 HS HDR
      go_wp2_with fail
      rw [← HR.out]
      obtain ⟨x0, x1, x2, x3, x4, x5⟩ := own6 HX.out.2.1
      exact bodyPost_ret (v := .tuple #[.agg #[.slice m1.aA m1.a.length m1.ac, .slice m1.bA m1.b.length m1.bc, .int .i64 (i : Int), .int .i64 (j : Int), .slice m1.sA m1.f.length m1.sc, .slice oA o.length oc], .int .i64 (k : Int), .int .i64 0]) (by simp [results, Tryz.results53, go_sem, x0, x1, x2, x3, x4, x5]) rfl ⟨outM m1 i j oA oc o, k, 0, rfl, .inr ⟨HM.out, ⟨H2.out.2.2.2.2.1.a, H2.out.2.2.2.2.1.b, H2.out.2.2.2.2.1.f, work_fin H2.out.2.2.2.2.1 HN.out.2.2.2.2.1 HN.out.1 HN.out.2.1 H2.out.2.2.2.2.2.2.2.1 HE.out⟩⟩, HX.out.2.2.1, ⟨H2.out.2.2.2.1.a, H2.out.2.2.2.1.b, H2.out.2.2.2.1.f, ⟨by have := HN.out.2.2.2.1; show o.length ≤ _; omega, HQ.out.1.ok⟩, ⟨by show -9223372036854775808 ≤ (i : Int); omega, by show (i : Int) ≤ 9223372036854775807; omega⟩, ⟨by show -9223372036854775808 ≤ (j : Int); omega, by show (j : Int) ≤ 9223372036854775807; omega⟩⟩, HX.out.2.2.2, HX.out.1, HCP.out⟩
    have hD : decide (i < m1.a.length ∨ j < m1.b.length) = true := decide_eq_true hlf
    rw [hD] at y1
    by_cases hf : (k : Int) < fuel
    case neg =>
      have t1 : decide ((k : Int) < fuel) = false := decide_eq_false hf
      have HE := Lib.hid (show workM m1.f fuel n (curM m1 i j k o) = { curM m1 i j k o with E := 0 } from work_full hf n)
      clear hD hlf hf c0 c1 c2 c3 c4 c5 c6
      go_wp2_with fail
      refine y1.out.mono ?_
      rintro _ wl ⟨rfl, q, hq⟩
      have h9 : WSt w1.heap.size P m1 i j k (.slice oA o.length oc) o wl := hq ▸ HC.out.1.past (below_draws (Below.refl _ _) q)
      have b9 : Below w1.heap.size V2 wl := hq ▸ below_draws HC.out.2 q
      have HQ := Lib.hid (And.intro h9 b9)
      have hC := fun p : Past wl => own7 ((h9.past p.h).own)
      obtain ⟨c0, c1, c2, c3, c4, c5, c6⟩ := own7 h9.own
      clear hq h9 b9 y1
      have hwt := hC ⟨wl, Below.refl _ _⟩
      obtain ⟨c0, c1, c2, c3, c4, c5, c6⟩ := hwt
      dsimp only at c0 c1 c2 c3 c4 c5 c6
      have HS := Lib.hid (fun W (h : Hp P wl W) => (⟨h.cell c0, h.cell c1, h.cell c2, h.cell c3, h.cell c4, h.cell c5, h.cell c6⟩ : W.cell? ⟨P, 0, none⟩ = some (.slice m1.aA m1.a.length m1.ac) ∧ W.cell? ⟨P, 1, none⟩ = some (.slice m1.bA m1.b.length m1.bc) ∧ W.cell? ⟨P, 2, none⟩ = some (.int .i64 (i : Int)) ∧ W.cell? ⟨P, 3, none⟩ = some (.int .i64 (j : Int)) ∧ W.cell? ⟨P, 4, none⟩ = some (.slice m1.sA m1.f.length m1.sc) ∧ W.cell? ⟨P, 5, none⟩ = some (.slice oA o.length oc) ∧ W.cell? ⟨P, 6, none⟩ = some (.int .i64 (k : Int))))
      have hself := Hp.refl P wl
      have hRP : w.heap.size + 1 ≠ P := by have h1 := H2.out.1.2; have h2 := HST.out.base_; omega
      have hwz := (H2.out.2.2.1.past HQ.out.2 (by have := H2.out.1.2; omega))
      obtain ⟨f0, f1, f2, f3, f4, f5⟩ := own_frozen6 hwz
      obtain ⟨z0, z1, z2, z3, z4, z5⟩ := own6 hwz
      clear hwz
      go_upto_region 9 with fail
      have HDR := Lib.hid (Below.drew (Below.refl wl.heap.size wl))
      go_region_held3 (fun w' => Hp P wl w' ∧ (w'.cell? ⟨P, 0, none⟩ = some (.slice m1.aA m1.a.length m1.ac) ∧ w'.cell? ⟨P, 1, none⟩ = some (.slice m1.bA m1.b.length m1.bc) ∧ w'.cell? ⟨P, 2, none⟩ = some (.int .i64 (i : Int)) ∧ w'.cell? ⟨P, 3, none⟩ = some (.int .i64 (j : Int)) ∧ w'.cell? ⟨P, 4, none⟩ = some (.slice m1.sA m1.f.length m1.sc) ∧ w'.cell? ⟨P, 5, none⟩ = some (.slice oA o.length oc) ∧ w'.cell? ⟨P, 6, none⟩ = some (.int .i64 (k : Int))))
        ((refine (fun h => And.intro h (HS.out _ h)) ?_; repeat (first | with_reducible exact hself | with_reducible refine Hp.set ?_ hRP _ _ | with_reducible refine Hp.drew ?_)))
        (fail)
      clear c0 c1 c2 c3 c4 c5 c6 f0 f1 f2 f3 f4 f5 z0 z1 z2 z3 z4 z5 hself
      have hz := (H2.out.2.2.1.past HQ.out.2 (by have := H2.out.1.2; omega))
      have hst := HQ.out.1
      have hbb := HQ.out.2
      obtain ⟨X, hX', hXo, hXb, hXs, hXh⟩ := own_six hz (.slice m1.aA m1.a.length m1.ac) (.slice m1.bA m1.b.length m1.bc) (.int .i64 (i : Int)) (.int .i64 (j : Int)) (.slice m1.sA m1.f.length m1.sc) (.slice oA o.length oc)
      obtain ⟨r1, r2⟩ := out_fine (R := w.heap.size + 1) hst H2.out.2.2.2.2.2.1 H2.out.1.2 hXs hXh
      have HX := Lib.hid (And.intro (Below.drew (hXb w.heap.size w (H2.out.2.1.trans (hbb.mono H2.out.1.1)) (by omega))) (And.intro (own_drew' hXo) (And.intro (show MgIn X.drew X.drew.heap.size (outM m1 i j oA oc o) from r1.keep (Below.drew (Below.refl _ _))) (r2.mono H2.out.1.1))))
      have HR := Lib.hid hX'
      clear hst hbb hz hXo hXb hXs hXh hX' hC r1 r2 HS HDR
      go_wp2_with fail
      rw [← HR.out]
      obtain ⟨x0, x1, x2, x3, x4, x5⟩ := own6 HX.out.2.1
      exact bodyPost_ret (v := .tuple #[.agg #[.slice m1.aA m1.a.length m1.ac, .slice m1.bA m1.b.length m1.bc, .int .i64 (i : Int), .int .i64 (j : Int), .slice m1.sA m1.f.length m1.sc, .slice oA o.length oc], .int .i64 (k : Int), .int .i64 0]) (by simp [results, Tryz.results53, go_sem, x0, x1, x2, x3, x4, x5]) rfl ⟨outM m1 i j oA oc o, k, 0, rfl, .inr ⟨HM.out, ⟨H2.out.2.2.2.2.1.a, H2.out.2.2.2.2.1.b, H2.out.2.2.2.2.1.f, work_fin H2.out.2.2.2.2.1 HN.out.2.2.2.2.1 HN.out.1 HN.out.2.1 H2.out.2.2.2.2.2.2.2.1 HE.out⟩⟩, HX.out.2.2.1, ⟨H2.out.2.2.2.1.a, H2.out.2.2.2.1.b, H2.out.2.2.2.1.f, ⟨by have := HN.out.2.2.2.1; show o.length ≤ _; omega, HQ.out.1.ok⟩, ⟨by show -9223372036854775808 ≤ (i : Int); omega, by show (i : Int) ≤ 9223372036854775807; omega⟩, ⟨by show -9223372036854775808 ≤ (j : Int); omega, by show (j : Int) ≤ 9223372036854775807; omega⟩⟩, HX.out.2.2.2, HX.out.1, HCP.out⟩
    have t1 : decide ((k : Int) < fuel) = true := decide_eq_true hf
    have hA9 := H2.out.2.2.2.2.2.2.1
    have HT := Lib.hid (And.intro hf hlf)
    clear hD hf c0 c1 c2 c3 c4 c5 c6
    go_wp2_with fail
    refine y1.out.mono ?_
    rintro _ wl ⟨rfl, q, hq⟩
    have h9 : WSt w1.heap.size P m1 i j k (.slice oA o.length oc) o wl := hq ▸ HC.out.1.past (below_draws (Below.refl _ _) q)
    have b9 : Below w1.heap.size V2 wl := hq ▸ below_draws HC.out.2 q
    have y3 := Lib.hid (step_anyB w1.heap.size P m1 i j k (.slice oA o.length oc) o wl h9 hA9.na hA9.nb H2.out.2.2.2.1.a H2.out.2.2.2.1.b H2.out.2.2.2.1.f hA9.ac hA9.bc HN.out.1 HN.out.2.1 HT.out.2 (by omega) HN.out.2.2.2.1)
    obtain ⟨c0, c1, c2, c3, c4, c5, c6⟩ := own7 h9.own
    have HZ := Lib.hid b9
    clear hq h9 b9 y1 hA9 hlf
    go_wp2_with fail
    refine y3.out.mono ?_
    rintro _ w5 ⟨u, E, hnx, hE, rfl, b5, hor⟩
    clear c0 c1 c2 c3 c4 c5 c6 y3
    by_cases h0 : E = 0
    case neg =>
      have t2 : (E != 0) = true := bne_iff_ne.2 h0
      have h5 : WSt w1.heap.size P m1 i j k (.slice oA o.length oc) o w5 := by
        rcases hor with ⟨_, h⟩ | ⟨e, _⟩
        · exact h
        · exact absurd e h0
      have hn0 : 0 < n := by have := HT.out.2; omega
      have HE := Lib.hid (show workM m1.f fuel n (curM m1 i j k o) = { curM m1 i j k o with E := E } from by
        obtain ⟨n', rfl⟩ : ∃ n', n = n' + 1 := ⟨n - 1, by omega⟩
        have hc : consE [advL m1.f (grp u (curM m1 i j k o).ra ++ grp u (curM m1 i j k o).rb)] ≠ 0 := fun h => h0 (hE.trans h)
        rw [work_err HT.out.1 hnx hc, hE]
        rfl)
      have HQ := Lib.hid (And.intro h5 (HZ.out.trans b5))
      have hC := fun p : Past w5 => own7 ((h5.past p.h).own)
      clear hor h0 hE hnx b5 h5 hn0
      have hwt := hC ⟨w5, Below.refl _ _⟩
      obtain ⟨c0, c1, c2, c3, c4, c5, c6⟩ := hwt
      dsimp only at c0 c1 c2 c3 c4 c5 c6
      have HS := Lib.hid (fun W (h : Hp P w5 W) => (⟨h.cell c0, h.cell c1, h.cell c2, h.cell c3, h.cell c4, h.cell c5, h.cell c6⟩ : W.cell? ⟨P, 0, none⟩ = some (.slice m1.aA m1.a.length m1.ac) ∧ W.cell? ⟨P, 1, none⟩ = some (.slice m1.bA m1.b.length m1.bc) ∧ W.cell? ⟨P, 2, none⟩ = some (.int .i64 (i : Int)) ∧ W.cell? ⟨P, 3, none⟩ = some (.int .i64 (j : Int)) ∧ W.cell? ⟨P, 4, none⟩ = some (.slice m1.sA m1.f.length m1.sc) ∧ W.cell? ⟨P, 5, none⟩ = some (.slice oA o.length oc) ∧ W.cell? ⟨P, 6, none⟩ = some (.int .i64 (k : Int))))
      have hself := Hp.refl P w5
      have hRP : w.heap.size + 1 ≠ P := by have h1 := H2.out.1.2; have h2 := HST.out.base_; omega
      have hwz := (H2.out.2.2.1.past HQ.out.2 (by have := H2.out.1.2; omega))
      obtain ⟨f0, f1, f2, f3, f4, f5⟩ := own_frozen6 hwz
      obtain ⟨z0, z1, z2, z3, z4, z5⟩ := own6 hwz
      clear hwz
      go_upto_region 8 with fail
      have HDR := Lib.hid (Below.drew (Below.refl w5.heap.size w5))
      go_region_held3 (fun w' => Hp P w5 w' ∧ (w'.cell? ⟨P, 0, none⟩ = some (.slice m1.aA m1.a.length m1.ac) ∧ w'.cell? ⟨P, 1, none⟩ = some (.slice m1.bA m1.b.length m1.bc) ∧ w'.cell? ⟨P, 2, none⟩ = some (.int .i64 (i : Int)) ∧ w'.cell? ⟨P, 3, none⟩ = some (.int .i64 (j : Int)) ∧ w'.cell? ⟨P, 4, none⟩ = some (.slice m1.sA m1.f.length m1.sc) ∧ w'.cell? ⟨P, 5, none⟩ = some (.slice oA o.length oc) ∧ w'.cell? ⟨P, 6, none⟩ = some (.int .i64 (k : Int))))
        ((refine (fun h => And.intro h (HS.out _ h)) ?_; repeat (first | with_reducible exact hself | with_reducible refine Hp.set ?_ hRP _ _ | with_reducible refine Hp.drew ?_)))
        (fail)
      clear c0 c1 c2 c3 c4 c5 c6 f0 f1 f2 f3 f4 f5 z0 z1 z2 z3 z4 z5 hself
      have hz := (H2.out.2.2.1.past HQ.out.2 (by have := H2.out.1.2; omega))
      have hst := HQ.out.1
      have hbb := HQ.out.2
      obtain ⟨X, hX', hXo, hXb, hXs, hXh⟩ := own_six hz (.slice m1.aA m1.a.length m1.ac) (.slice m1.bA m1.b.length m1.bc) (.int .i64 (i : Int)) (.int .i64 (j : Int)) (.slice m1.sA m1.f.length m1.sc) (.slice oA o.length oc)
      obtain ⟨r1, r2⟩ := out_fine (R := w.heap.size + 1) hst H2.out.2.2.2.2.2.1 H2.out.1.2 hXs hXh
      have HX := Lib.hid (And.intro (Below.drew (hXb w.heap.size w (H2.out.2.1.trans (hbb.mono H2.out.1.1)) (by omega))) (And.intro (own_drew' hXo) (And.intro (show MgIn X.drew X.drew.heap.size (outM m1 i j oA oc o) from r1.keep (Below.drew (Below.refl _ _))) (r2.mono H2.out.1.1))))
      have HR := Lib.hid hX'
      clear hst hbb hz hXo hXb hXs hXh hX' hC r1 r2 HS HDR
      go_wp2_with fail
      rw [← HR.out]
      obtain ⟨x0, x1, x2, x3, x4, x5⟩ := own6 HX.out.2.1
      exact bodyPost_ret (v := .tuple #[.agg #[.slice m1.aA m1.a.length m1.ac, .slice m1.bA m1.b.length m1.bc, .int .i64 (i : Int), .int .i64 (j : Int), .slice m1.sA m1.f.length m1.sc, .slice oA o.length oc], .int .i64 (k : Int), .int .i64 E]) (by simp [results, Tryz.results53, go_sem, x0, x1, x2, x3, x4, x5]) rfl ⟨outM m1 i j oA oc o, k, E, rfl, .inr ⟨HM.out, ⟨H2.out.2.2.2.2.1.a, H2.out.2.2.2.2.1.b, H2.out.2.2.2.2.1.f, work_fin H2.out.2.2.2.2.1 HN.out.2.2.2.2.1 HN.out.1 HN.out.2.1 H2.out.2.2.2.2.2.2.2.1 HE.out⟩⟩, HX.out.2.2.1, ⟨H2.out.2.2.2.1.a, H2.out.2.2.2.1.b, H2.out.2.2.2.1.f, ⟨by have := HN.out.2.2.2.1; show o.length ≤ _; omega, HQ.out.1.ok⟩, ⟨by show -9223372036854775808 ≤ (i : Int); omega, by show (i : Int) ≤ 9223372036854775807; omega⟩, ⟨by show -9223372036854775808 ≤ (j : Int); omega, by show (j : Int) ≤ 9223372036854775807; omega⟩⟩, HX.out.2.2.2, HX.out.1, HCP.out⟩
    subst h0
    obtain ⟨v', e, he, h5⟩ : ∃ (v' : Value) (e : List Up), e.map Up.p = consL [advL m1.f (grp u (m1.a.drop i) ++ grp u (m1.b.drop j))] ∧ WSt w1.heap.size P m1 (i + (grp u (m1.a.drop i)).length) (j + (grp u (m1.b.drop j)).length) (k + ((grp u (m1.a.drop i)).length + (grp u (m1.b.drop j)).length)) v' (o ++ e) w5 := by
      rcases hor with ⟨h, _⟩ | ⟨_, h⟩
      · exact absurd rfl h
      · exact h
    have hpos := grp_pos hnx
    have hg1 := grp_lens u m1.a i
    have hg2 := grp_lens u m1.b j
    have hel : e.length ≤ (grp u (m1.a.drop i)).length + (grp u (m1.b.drop j)).length := by
      have := consL_len [advL m1.f (grp u (m1.a.drop i) ++ grp u (m1.b.drop j))]
      rw [← he, List.length_map] at this
      simp only [List.flatten_cons, List.flatten_nil, List.append_nil, advL_len, List.length_append] at this
      exact this
    have hwk : workM m1.f fuel n (curM m1 i j k o) = workM m1.f fuel (n - 1) (curM m1 (i + (grp u (m1.a.drop i)).length) (j + (grp u (m1.b.drop j)).length) (k + ((grp u (m1.a.drop i)).length + (grp u (m1.b.drop j)).length)) (o ++ e)) := by
      obtain ⟨n', rfl⟩ : ∃ n', n = n' + 1 := ⟨n - 1, by have := HT.out.2; omega⟩
      rw [work_more HT.out.1 hnx hE.symm, cur_step m1 i j k o e u he]
      rfl
    have H5 := Lib.hid (And.intro h5 (And.intro (HZ.out.trans b5) (And.intro hpos (And.intro hg1 (And.intro hg2 (And.intro hel hwk))))))
    obtain ⟨c0, c1, c2, c3, c4, c5, c6⟩ := own7 h5.own
    have HM2 := Lib.hid (And.intro c2 c3)
    have HM0 := Lib.hid (own7 HC.out.1.own)
    clear hor hE hnx b5 h5 he hpos hg1 hg2 hel hwk c0 c1 c2 c3 c4 c5 c6
    go_wp2_with fail
    go_roundw
    case rel =>
      have q1 := H5.out.2.2.1
      have q2 := H5.out.2.2.2.1
      have q3 := H5.out.2.2.2.2.1
      have q4 := H5.out.2.2.2.2.2.1
      exact ⟨_, _, _, v', o ++ e, n - 1, H5.out.1, H5.out.2.1, by omega, by omega, by omega, by rw [List.length_append]; omega, HN.out.2.2.2.2.1.trans H5.out.2.2.2.2.2.2, by omega⟩
    case measure =>
      have q1 := H5.out.2.2.1
      have q2 := H5.out.2.2.2.1
      have q3 := H5.out.2.2.2.2.1
      rw [HM2.out.1, HM2.out.2, HM0.out.2.2.1, HM0.out.2.2.2.1]
      simp only [Option.getD_some, intOf]
      omega
end Go.Proofs.YtenjlhlighkenaaGreat
namespace Go.Proofs.YtenjlhlighkenaaGreat
open Go Go.RowKit

theorem Wk.off {X Y : World} {base g : Nat} {s : Sp} {S : Nat → Prop} (h : Wk X base g s) (k : KeptK X Y S) (hg : ¬ S g) (hA : ∀ q, blkS s.lA = some q → ¬ S q) (hf : OfT S s.sA s.f.length) (hl : ∀ l ∈ s.L, OfL S l) : Wk Y base g s :=
  ⟨k.own h.own hg, k.row h.row (fun q e => hA q (by rw [← e, blkS_own])), h.out, times_kept h.since hf k, h.soff, fun l hm => lv_kept (h.lev l hm) (hl l hm) k, h.loff, h.ok, h.slo, h.lo, h.low, Nat.le_trans h.base_ k.size⟩
theorem Wk.merger {W : World} {base g G i : Nat} {s : Sp} {l : Lv} {m : Mg} (h : Wk W base g s) (hm : MgIn W W.heap.size m) (om : OfM (SpS g s.lA) m) (okm : MgOk m) (cap : McOk m) (lom : MgLo base m) (hi : s.L[i]? = some l) (hA : s.lA = some ⟨G, 0, none⟩) :
    Wk (setsAt W G (i * 10 + 4) m.cells) base g ⟨s.sA, s.sc, s.f, s.lA, s.lc, s.L.set i ⟨l.cls, l.busy, l.b, m⟩⟩ ∧ KeptK W (setsAt W G (i * 10 + 4) m.cells) (SpS g s.lA) := by
  have hlt := (List.getElem?_eq_some_iff.1 hi).1
  have hml := List.mem_of_getElem? hi
  have hblk : blkS s.lA = some G := by rw [hA]; rfl
  have hk : KeptK W (setsAt W G (i * 10 + 4) m.cells) (SpS g s.lA) := setsAt_kept (.inl (.inr hblk)) _ _ _ (KeptK.refl _ _)
  have hk1 : KeptK W (setsAt W G (i * 10 + 4) m.cells) (fun k => k = G) := setsAt_kept (S := fun k => k = G) (.inl rfl) _ _ _ (KeptK.refl _ _)
  have hlen : (s.L.set i ⟨l.cls, l.busy, l.b, m⟩).length = s.L.length := List.length_set ..
  have o0 := h.ok.each_ l hml
  have okS : SpOk ⟨s.sA, s.sc, s.f, s.lA, s.lc, s.L.set i ⟨l.cls, l.busy, l.b, m⟩⟩ := ⟨h.ok.f, by show (s.L.set i _).length ≤ _; rw [hlen]; exact h.ok.n, by show (s.L.set i _).length ≤ _; rw [hlen]; exact h.ok.le, h.ok.c_, fun x hx => by
    rcases List.mem_or_eq_of_mem_set hx with hx | rfl
    · exact h.ok.each_ x hx
    · exact ⟨o0.c, o0.b, okm, cap⟩⟩
  refine ⟨h.of_row hk rfl rfl rfl ?_ ?_ h.out (.inl rfl) (fun x hx => ?_) okS, hk⟩
  · show Own _ g _ [.slice s.sA s.f.length s.sc, .slice s.lA (s.L.set i _).length s.lc]
    rw [hlen]
    exact hk1.own h.own (fun e => h.out (by rw [hblk, e]))
  · show World.ownsRow _ base _ 10 (.slice s.lA (s.L.set i _).length s.lc) (s.L.set i _).length _
    rw [hlen]
    rcases row_ownK h.row with ⟨h0, _⟩ | ⟨G', cur, e, hb, hg, hn, hm2, hc, ht⟩
    · rw [hA] at h0; cases h0
    · rw [hA] at e
      obtain rfl : G = G' := by simpa using e
      have hle : i * 10 + 10 ≤ s.lc * 10 := by omega
      have hc6 : m.cells.length = 6 := rfl
      have o2 := setsAt_own m.cells W (i * 10 + 4) cur hg (by rw [hc6, hc]; omega)
      -- the level as a whole
      have hfour : (cur.drop (i * 10)).take 4 = (⟨l.cls, l.busy, l.b, m⟩ : Lv).cells.take 4 := by
        have h1 : (cur.take (s.L.length * 10)).drop (i * 10) = l.cells ++ (s.L.drop (i + 1)).flatMap Lv.cells := by
          rw [ht, level_rowsD, List.drop_eq_getElem_cons hlt, List.flatMap_cons, (List.getElem?_eq_some_iff.1 hi).2]
        have h2 := congrArg (List.take 4) h1
        rw [List.drop_take, List.take_take, Nat.min_eq_left (by omega), List.take_append_of_le_length (by show 4 ≤ 10; omega)] at h2
        rw [h2]
        rfl
      have hwhole : cur.take (i * 10 + 4) ++ m.cells ++ cur.drop (i * 10 + 4 + m.cells.length) = cur.take (i * 10) ++ (⟨l.cls, l.busy, l.b, m⟩ : Lv).cells ++ cur.drop (i * 10 + 10) := by
        have h3 : (⟨l.cls, l.busy, l.b, m⟩ : Lv).cells = (⟨l.cls, l.busy, l.b, m⟩ : Lv).cells.take 4 ++ m.cells := rfl
        rw [h3, ← hfour, List.take_add, hc6]
        simp only [List.append_assoc]
      rw [hwhole] at o2
      have hnew : (cur.take (i * 10) ++ (⟨l.cls, l.busy, l.b, m⟩ : Lv).cells ++ cur.drop (i * 10 + 10)).take (s.L.length * 10) = (s.L.set i ⟨l.cls, l.busy, l.b, m⟩).flatMap Lv.cells := by
        have e1 : s.L.set i ⟨l.cls, l.busy, l.b, m⟩ = s.L.take i ++ ⟨l.cls, l.busy, l.b, m⟩ :: s.L.drop (i + 1) := (List.set_eq_take_append_cons_drop ..).trans (if_pos hlt)
        rw [splice_level rfl hlt (by omega), ht, level_rows, level_rowsD, e1, List.flatMap_append, List.flatMap_cons, List.append_assoc]
      rw [hA, ← hnew]
      exact own_to_row o2 hb hn hm2 (by rw [List.length_append, List.length_append, List.length_take, List.length_drop, hc]; show _ + 10 + _ = _; omega)
  · rcases List.mem_or_eq_of_mem_set hx with hx | rfl
    · exact .inl hx
    · exact .inr ⟨⟨(h.lev l hml).b, hm⟩, ⟨(h.loff l hml).b, om⟩, ⟨(h.lo l hml).b, lom⟩⟩
def Aw (W : World) (M : Nat) (dA : Option Addr) (k : Nat) : Prop := (W.heap.size ≤ k ∧ k < M) ∨ blkS dA = some k
structure WkB (W : World) (base g : Nat) (s : Sp) (fuel : Int) (M : Nat) (s1 : Sp) (D : List Bt) (cv : Int) (dA : Option Addr) (dc : Nat) (X : World) : Prop where
  wk : Wk X base g s1
  e1 : s1.sA = s.sA
  e2 : s1.sc = s.sc
  e3 : s1.f = s.f
  e4 : s1.lA = s.lA
  e5 : s1.lc = s.lc
  awf : OfT (Aw W M dA) s1.sA s1.f.length
  aw : ∀ l ∈ s1.L, OfL (Aw W M dA) l
  w0 : Own X W.heap.size 111 [.pointer (some ⟨g, 0, none⟩)]
  w1 : Own X (W.heap.size + 1) 3 [.int .i64 fuel]
  w2 : Own X (W.heap.size + 2) 3 [.int .i64 0]
  w3 : Own X (W.heap.size + 3) 35 [.int .i64 0]
  w4 : Own X (W.heap.size + 4) 3 [.int .i64 cv]
  w5 : Own X (W.heap.size + 5) 121 [.slice dA D.length dc]
  w6 : Own X (W.heap.size + 6) 111 [.pointer (some ⟨g, 0, none⟩)]
  row : X.ownsRow M 61 2 (.slice dA D.length dc) D.length (D.flatMap Bt.cells)
  each : ∀ d ∈ D, BtIn X X.heap.size d ∧ BtOk d ∧ BtLo base d ∧ OfB (fun k => SpS g s.lA k ∨ Aw W M dA k) d
  kept : KeptK W X (SpS g s.lA)
  lo : W.heap.size + 7 ≤ M
  low : ∀ k, SpS g s.lA k → k < W.heap.size
  hi : M ≤ X.heap.size
section
variable {W X Y : World} {base g M : Nat} {s s1 : Sp} {fuel cv : Int} {D : List Bt} {dA : Option Addr} {dc : Nat}
theorem WkB.turn {row : Option Nat} (h : WkB W base g s fuel M s1 D cv dA dc X) (hg : X.grownBy Y row) (hr : Bare X row) (hb : ∀ r, row = some r → W.heap.size ≤ r) : WkB W base g s fuel M s1 D cv dA dc Y :=
  ⟨h.wk.turn hg hr, h.e1, h.e2, h.e3, h.e4, h.e5, h.awf, h.aw, h.w0.turn hg hr, h.w1.turn hg hr, h.w2.turn hg hr, h.w3.turn hg hr, h.w4.turn hg hr, h.w5.turn hg hr, h.w6.turn hg hr, row_turn h.row hg hr, fun d hd => ⟨(h.each d hd).1.turn hg hr, (h.each d hd).2⟩, h.kept.turn hg hb (Nat.le_refl _), h.lo, h.low, Nat.le_trans h.hi hg.size⟩
theorem WkB.past (h : WkB W base g s fuel M s1 D cv dA dc X) (hb : Below X.heap.size X Y) : WkB W base g s fuel M s1 D cv dA dc Y :=
  ⟨h.wk.past hb, h.e1, h.e2, h.e3, h.e4, h.e5, h.awf, h.aw, h.w0.past hb h.w0.inside, h.w1.past hb h.w1.inside, h.w2.past hb h.w2.inside, h.w3.past hb h.w3.inside, h.w4.past hb h.w4.inside, h.w5.past hb h.w5.inside, h.w6.past hb h.w6.inside, own_below h.row hb, fun d hd => ⟨(h.each d hd).1.keep hb, (h.each d hd).2⟩, h.kept.trans (KeptK.of_below hb (Nat.le_refl _) (SpS g s.lA)) (fun _ _ e => e), h.lo, h.low, Nat.le_trans h.hi hb.size⟩
theorem WkB.rowM (h : WkB W base g s fuel M s1 D cv dA dc X) : ∀ k, blkS dA = some k → M ≤ k ∧ k < X.heap.size := fun k e => h.row.lt k (by rw [blkS_own]; exact e)
theorem WkB.sps (h : WkB W base g s fuel M s1 D cv dA dc X) {k : Nat} (hk : W.heap.size ≤ k) : ¬ SpS g s.lA k := fun e => by have := h.low k e; omega
theorem WkB.off (h : WkB W base g s fuel M s1 D cv dA dc X) {S : Nat → Prop} (k : KeptK X Y S) (hS : ∀ b, S b → W.heap.size ≤ b ∧ b < M) : Wk Y base g s1 ∧ Y.ownsRow M 61 2 (.slice dA D.length dc) D.length (D.flatMap Bt.cells) ∧ (∀ d ∈ D, BtIn Y Y.heap.size d ∧ BtOk d ∧ BtLo base d ∧ OfB (fun k => SpS g s.lA k ∨ Aw W M dA k) d) ∧ KeptK W Y (SpS g s.lA) := by
  refine ⟨h.wk.off k (fun e => by have := hS _ e; have := h.low g (.inl rfl); omega) (fun q e e2 => by have := hS _ e2; have := h.low q (.inr (by rw [← h.e4]; exact e)); omega) (h.awf.less (fun b e => .inl (hS b e))) (fun l hl => (h.aw l hl).less (fun b e => .inl (hS b e))), k.row h.row (fun q e e2 => by rw [blkS_own] at e; have := hS _ e2; have := h.rowM q e; omega), fun d hd => ⟨bt_kept (h.each d hd).1 ((h.each d hd).2.2.2.less (fun b e => .inr (.inl (hS b e)))) k, (h.each d hd).2⟩, h.kept.trans k (fun b hb e => by have := hS b e; omega)⟩
theorem WkB.cost (h : WkB W base g s fuel M s1 D cv dA dc X) (c' : Int) : WkB W base g s fuel M s1 D c' dA dc (X.setCell ⟨W.heap.size + 4, 0, none⟩ (.int .i64 c')) := by
  have k1 : KeptK X (X.setCell ⟨W.heap.size + 4, 0, none⟩ (.int .i64 c')) (fun b => b = W.heap.size + 4) := (KeptK.refl X (fun b => b = W.heap.size + 4)).set_ (.inl rfl) _
  have hlo := h.lo
  obtain ⟨a1, a2, a3, a4⟩ := h.off k1 (fun b e => by omega)
  exact ⟨a1, h.e1, h.e2, h.e3, h.e4, h.e5, h.awf, h.aw, h.w0.other (by show _ ≠ _; simp) _, h.w1.other (by show _ ≠ _; simp) _, h.w2.other (by show _ ≠ _; simp) _, h.w3.other (by show _ ≠ _; simp) _, h.w4.set_ 0 _, h.w5.other (by show _ ≠ _; simp) _, h.w6.other (by show _ ≠ _; simp) _, a2, a3, a4, h.lo, h.low, by simpa using h.hi⟩
theorem WkB.spine (h : WkB W base g s fuel M s1 D cv dA dc X) {s2 : Sp} (k : KeptK X Y (SpS g s.lA)) (hwk : Wk Y base g s2) (e1 : s2.sA = s.sA) (e2 : s2.sc = s.sc) (e3 : s2.f = s.f) (e4 : s2.lA = s.lA) (e5 : s2.lc = s.lc) (aw : ∀ l ∈ s2.L, l ∈ s1.L ∨ OfL (Aw W M dA) l) : WkB W base g s fuel M s2 D cv dA dc Y := by
  have kk := fun j => h.sps (k := W.heap.size + j) (Nat.le_add_right _ _)
  refine ⟨hwk, e1, e2, e3, e4, e5, by rw [e1, e3, ← h.e1, ← h.e3]; exact h.awf, fun l hl => (aw l hl).elim (h.aw l) id, k.own h.w0 (kk 0), k.own h.w1 (kk 1), k.own h.w2 (kk 2), k.own h.w3 (kk 3), k.own h.w4 (kk 4), k.own h.w5 (kk 5), k.own h.w6 (kk 6), k.row h.row (fun q e e9 => ?_), fun d hd => ⟨bt_kept (h.each d hd).1 ((h.each d hd).2.2.2.less (fun b e => .inl e)) k, (h.each d hd).2⟩, h.kept.trans k (fun _ _ e => e), h.lo, h.low, Nat.le_trans h.hi k.size⟩
  rw [blkS_own] at e
  have h1 := h.rowM q e
  have h2 := h.low q e9
  have h3 := h.lo
  omega
theorem WkB.pushed (h : WkB W base g s fuel M s1 D cv dA dc X) {Z : World} {b : Bt} {dA' : Option Addr} {dc' : Nat} (hb : Below X.heap.size X Y) (ib : BtIn X X.heap.size b) (ob : BtOk b) (lb : BtLo base b) (fb : OfB (fun k => SpS g s.lA k ∨ Aw W M dA k) b)
    (hr : Z.ownsRow M 61 2 (.slice dA' (D.length + 1) dc') (D.length + 1) (D.flatMap Bt.cells ++ [b].flatMap Bt.cells)) (hob : blkS dA' = blkS dA ∨ blkS dA' = some Y.heap.size) (hg : Y.grownBy Z (blkS dA)) :
    WkB W base g s fuel M s1 (D ++ [b]) cv dA' dc' (Z.setCell ⟨W.heap.size + 5, 0, none⟩ (.slice dA' (D.length + 1) dc')) := by
  have hY := h.past hb
  have k1 : KeptK Y Z (fun q => blkS dA = some q) := KeptK.of_grown hg (fun _ e => e)
  have k2 : KeptK Y (Z.setCell ⟨W.heap.size + 5, 0, none⟩ (.slice dA' (D.length + 1) dc')) (fun q => blkS dA = some q ∨ q = W.heap.size + 5) := (k1.more (fun _ e => .inl e)).set_ (.inl (.inr rfl)) _
  have hlo := h.lo
  have hM := hY.rowM
  have ne : ∀ j, j < 7 → ¬ blkS dA = some (W.heap.size + j) := fun j hj e => by have := hM _ e; omega
  have nS : ∀ q, SpS g s.lA q → ¬ (blkS dA = some q ∨ q = W.heap.size + 5) := fun q hq e => by
    have h1 := h.low q hq
    rcases e with e | e
    · have := hM _ e; omega
    · omega
  -- nothing of the spine or of what is done lies in the row
  have hnew : ∀ q, Aw W M dA' q → Aw W M dA q ∨ Y.heap.size ≤ q := fun q e => by
    rcases e with e | e
    · exact .inl (.inl e)
    · rcases hob with e2 | e2
      · exact .inl (.inr (by rw [← e2]; exact e))
      · rw [e2] at e; injection e with e; exact .inr (by omega)
  have inS : ∀ q, (blkS dA = some q ∨ q = W.heap.size + 5) → Aw W M dA q := fun q e => by
    rcases e with e | e
    · exact .inr e
    · exact .inl (by omega)
  have fixL : ∀ l ∈ s1.L, OfL (Aw W M dA') l := fun l hl => ((h.aw l hl).or (lv_in (hY.wk.lev l hl))).less hnew
  have fixB : ∀ {d : Bt}, BtIn Y Y.heap.size d → OfB (fun k => SpS g s.lA k ∨ Aw W M dA k) d → OfB (fun k => SpS g s.lA k ∨ Aw W M dA' k) d := fun hi hd => (hd.or (bt_in hi)).less fun q e => by
    rcases e with e | e
    · exact .inl (.inl e)
    · rcases hnew q e with e | e
      · exact .inl (.inr e)
      · exact .inr e
  have ibY := ib.keep hb
  have hwk := hY.wk.off k2 (fun e => nS g (.inl rfl) e) (fun q e => nS q (.inr (by rw [← h.e4]; exact e))) (h.awf.less inS) (fun l hl => (h.aw l hl).less inS)
  have hfl : (D ++ [b]).flatMap Bt.cells = D.flatMap Bt.cells ++ [b].flatMap Bt.cells := List.flatMap_append ..
  have hlen : (D ++ [b]).length = D.length + 1 := by rw [List.length_append]; rfl
  have hr2 : (Z.setCell ⟨W.heap.size + 5, 0, none⟩ (.slice dA' (D.length + 1) dc')).ownsRow M 61 2 (.slice dA' (D.length + 1) dc') (D.length + 1) (D.flatMap Bt.cells ++ [b].flatMap Bt.cells) :=
    ((KeptK.refl Z (fun q => q = W.heap.size + 5)).set_ (.inl rfl) _).row hr (fun q e e2 => by have := (hr.lt q e).1; omega)
  have nw : ∀ j, j < 5 → ¬ (blkS dA = some (W.heap.size + j) ∨ W.heap.size + j = W.heap.size + 5) := fun j hj e => by
    rcases e with e | e
    · exact ne j (by omega) e
    · omega
  have w5 : Own (Z.setCell ⟨W.heap.size + 5, 0, none⟩ (.slice dA' (D.length + 1) dc')) (W.heap.size + 5) 121 [.slice dA' (D.length + 1) dc'] := (k1.own hY.w5 (ne 5 (by decide))).set_ 0 _
  refine ⟨hwk, h.e1, h.e2, h.e3, h.e4, h.e5, (h.awf.or (times_in hY.wk.since)).less hnew, fixL, k2.own hY.w0 (nw 0 (by decide)), k2.own hY.w1 (nw 1 (by decide)), k2.own hY.w2 (nw 2 (by decide)), k2.own hY.w3 (nw 3 (by decide)), k2.own hY.w4 (nw 4 (by decide)), by rw [hlen]; exact w5, k2.own hY.w6 (fun e => by
    rcases e with e | e
    · exact ne 6 (by decide) e
    · omega), by rw [hlen, hfl]; exact hr2, fun d hd => ?_, hY.kept.trans k2 (fun q hq e => by
    rcases e with e | e
    · have := hM q e; omega
    · omega), h.lo, h.low, Nat.le_trans hY.hi k2.size⟩
  rcases List.mem_append.1 hd with hd | hd
  · exact ⟨bt_kept (hY.each d hd).1 ((h.each d hd).2.2.2.less (fun q e => .inr (inS q e))) k2, (h.each d hd).2.1, (h.each d hd).2.2.1, fixB (hY.each d hd).1 (h.each d hd).2.2.2⟩
  · obtain rfl := List.mem_singleton.1 hd
    exact ⟨bt_kept ibY (fb.less (fun q e => .inr (inS q e))) k2, ob, lb, fixB ibY fb⟩
end
end Go.Proofs.YtenjlhlighkenaaGreat
namespace Go.Proofs.YtenjlhlighkenaaGreat
open Go Go.RowKit

set_option maxRecDepth 100000 in
set_option maxHeartbeats 12800000 in
theorem put_idle (base g : Nat) (s : Sp) (b : Bt) (l : Lv) (w : World) (h : PutIn base g s b w) (hl : s.L[posC s.L (clsN b.l.length : Int)]? = some l) (hcl : l.cls = (clsN b.l.length : Int)) (hidle : l.busy = false) :
    Calls Tryz.prog 22 #[.pointer (some ⟨g, 0, none⟩), b.val] w (PutSays base g s b w) := by
  obtain ⟨V, hV, hvb, hvs, hvo⟩ := btbox w b
  obtain ⟨c, hc⟩ : ∃ c : Nat, clsN b.l.length = c := ⟨_, rfl⟩
  have y1 := Lib.hid (class_any b.uA b.uc b.l.length V h.bok.l.n)
  rw [hc] at y1
  obtain ⟨d0, d1⟩ := own2 hvo
  have H := Lib.hid h
  have HB := Lib.hid (And.intro hvb hvo)
  have HC := Lib.hid hc
  have hcn : c ≤ 41 := by rw [← hc]; exact cls_pow (by have := h.bok.l.n; omega)
  have hpl := posC_le s.L (c : Int)
  have hfew := h.good.few h.wk.ok.each_
  obtain ⟨p, hp⟩ : ∃ p : Nat, posC s.L (c : Int) = p := ⟨_, rfl⟩
  rw [hc] at hl hcl
  rw [hp] at hl hpl
  have hplt : p < s.L.length := (List.getElem?_eq_some_iff.1 hl).1
  have hn0 : c ≠ 0 := by have := h.good.pos l (List.mem_of_getElem? hl); omega
  have t0 : ((c : Int) == 0) = false := beq_eq_false_iff_ne.2 (by omega)
  have hpi : posI s.L (c : Int) = (p : Int) := by unfold posI; rw [hp, if_neg (by omega)]
  have y2 := fun (V2 : World) (bx : Nat) (hb : Below w.heap.size w V2) (hk : Kin V2 bx (c : Int)) => Lib.hid (indexS_any s.lA s.lc s.L bx (c : Int) V2 (h.wk.past hb).lies.head h.wk.ok.n hk)
  rw [hpi] at y2
  have t1 : ((p : Int) == (s.L.length : Int)) = false := beq_eq_false_iff_ne.2 (by omega)
  have t2 : decide (l.cls < (c : Int)) = false := decide_eq_false (by omega)
  have q0 : ¬ ((p : Int) < 0) := by omega
  have q1 : (0 : Int) ≤ (p : Int) := by omega
  have q2 : (p : Int) < (s.L.length : Int) := by omega
  obtain ⟨G, hGA⟩ : ∃ G : Nat, s.lA = some ⟨G, 0, none⟩ := by
    rcases row_ownK h.wk.row with ⟨_, h9, _⟩ | ⟨G, cur, hA, _⟩
    · omega
    · exact ⟨G, hA⟩
  have hGi : G < w.heap.size := (h.wk.lt G (.inr (by rw [hGA]; rfl))).2
  have HLV := Lib.hid (show ∀ W, Below w.heap.size w W → (∀ (j : Nat) (u : Value), l.cells[j]? = some u → W.cell? ⟨G, p * 10 + j, none⟩ = some u) from fun W hb j u hj => by
    have hW := h.wk.past hb
    obtain ⟨b', o', e, _, hcell⟩ := hW.lies.head (by omega)
    rw [hGA] at e
    simp only [Option.some.injEq, Addr.mk.injEq, and_true] at e
    obtain ⟨rfl, rfl⟩ := e
    have := hcell p l hl j u hj
    rwa [Nat.zero_add] at this)
  have HGA := Lib.hid hGA
  have HIDX := Lib.hid (And.intro hl (And.intro hcl hplt))
  have hLn := h.wk.ok.n
  rw [hGA] at y2
  rw [show b.val = .agg #[.slice b.sA b.f.length b.sc, .slice b.uA b.l.length b.uc] from rfl]
  clear h hvb hvs hvo hc hp hpi hpl hl hcl hplt hfew hn0 hGA
  go_enter Tryz.func22, Tryz.ntmps22
  go_upto_region 1 with fail
  rw [← hV]
  clear hV
  go_wp2_with fail
  refine y1.out.mono ?_
  rintro _ w1 ⟨rfl, b1⟩
  obtain ⟨V2, hV2, hs2, hb2, ho2⟩ := boxd w1 [.int .i64 (c : Int)] 3
  have b12 := belows b1 hb2
  have H2 := Lib.hid (And.intro (belows HB.out.1 b12) (And.intro (HB.out.2.past b12 HB.out.2.inside) (And.intro ho2 (show w.heap.size < w1.heap.size from Nat.lt_of_lt_of_le HB.out.2.inside b1.size))))
  have k0 : V2.cell? ⟨w1.heap.size, 0, none⟩ = some (.int .i64 (c : Int)) := ho2.at_ 0
  clear b1 hs2 hb2 ho2 y1 d0 d1 b12
  go_upto_region 2 with fail
  rw [← hV2]
  clear hV2
  have g0 : V2.cell? ⟨g, 1, none⟩ = some (.slice (some ⟨G, 0, none⟩) s.L.length s.lc) := by rw [← HGA.out]; exact (H.out.wk.past H2.out.1).own.at_ 1
  have hgi : g < V2.heap.size := (H.out.wk.past H2.out.1).own.inside
  have z2 := y2 V2 w1.heap.size H2.out.1 ⟨k0, H2.out.2.2.1.inside⟩
  go_wp2_with fail
  refine z2.out.mono ?_
  rintro _ w3 ⟨rfl, b3⟩
  have H3 := Lib.hid (And.intro (belows H2.out.1 b3) (And.intro (H2.out.2.1.past b3 H2.out.2.1.inside) (And.intro (H2.out.2.2.1.past b3 H2.out.2.2.1.inside) (And.intro H2.out.2.2.2 (Nat.lt_of_lt_of_le H2.out.2.2.1.inside b3.size)))))
  have k1 : w3.cell? ⟨w1.heap.size, 0, none⟩ = some (.int .i64 (c : Int)) := (b3.cell (p := ⟨w1.heap.size, 0, none⟩) H2.out.2.2.1.inside).trans k0
  have g1 : w3.cell? ⟨g, 1, none⟩ = some (.slice (some ⟨G, 0, none⟩) s.L.length s.lc) := (b3.cell (p := ⟨g, 1, none⟩) hgi).trans g0
  have hgi3 : g < w3.heap.size := Nat.lt_of_lt_of_le hgi b3.size
  obtain ⟨e0, e1⟩ := own2 H3.out.2.1
  clear b3 z2 k0 g0 hgi
  have hGi3 : G < w3.heap.size := Nat.lt_of_lt_of_le hGi H3.out.1.size
  have x1 := fun q : Past w3 => (q.h.cell (p := ⟨w1.heap.size, 0, none⟩) H3.out.2.2.2.2).trans k1
  have x3 := fun q : Past w3 => HLV.out q.w (belows H3.out.1 q.h) 0 _ rfl
  simp only [Nat.add_zero] at x3
  have x2 := fun q : Past w3 => (q.h.cell (p := ⟨g, 1, none⟩) hgi3).trans g1
  go_upto_region 7 with fail
  refine wp_region_past w3 (by kernel_rfl) (by kernel_rfl) (Below.refl _ _) ?_
  repeat (first | go_big_quiet_step (fail) | quiet_step (fail))
  refine wpQuiet_nil ?_
  intro wz hw'
  obtain ⟨⟨wy, hbz⟩, hw''⟩ := hw'
  dsimp only at hw''
  subst hw''
  have HZ3 := Lib.hid (And.intro (belows H3.out.1 hbz) (And.intro (H3.out.2.1.past hbz H3.out.2.1.inside) (H3.out.2.2.1.past hbz H3.out.2.2.1.inside)))
  have HW1 := Lib.hid H3.out.2.2.2.1
  have g1 := x2 ⟨wz, hbz⟩
  have k1 := (hbz.cell (p := ⟨w1.heap.size, 0, none⟩) H3.out.2.2.2.2).trans k1
  have hgi3 : g < wz.heap.size := Nat.lt_of_lt_of_le hgi3 hbz.size
  obtain ⟨e0, e1⟩ := own2 (H3.out.2.1.past hbz H3.out.2.1.inside)
  dsimp only at g1
  clear x1 x2 x3 hbz hGi3
  go_upto_region 10 with fail
  obtain ⟨r0, r1, r2, r3, r4, r5, r6, r7, r8, r9⟩ := lv_ten (HLV.out wz HZ3.out.1)
  have hGz : G < wz.heap.size := Nat.lt_of_lt_of_le hGi HZ3.out.1.size
  obtain ⟨V5, hV5, hb5, hs5, ho5⟩ := lvbox wz l
  obtain ⟨f0, f1, f2, f3, f4, f5, f6, f7, f8, f9⟩ := own10 ho5
  have H5 := Lib.hid (And.intro (belows HZ3.out.1 hb5) (And.intro (HZ3.out.2.1.past hb5 HZ3.out.2.1.inside) (And.intro (HZ3.out.2.2.past hb5 HZ3.out.2.2.inside) (And.intro ho5 (Nat.lt_of_lt_of_le HZ3.out.2.2.inside hb5.size)))))
  rw [hidle] at r1 f1 hV5
  go_upto_region 11 with fail
  rw [← hV5]
  clear hV5 r0 r1 r2 r3 r4 r5 r6 r7 r8 r9 e0 e1 g1 k1 hgi3
  go_upto_region 12 with fail
  have hwk5 := H.out.wk.past H5.out.1
  have hLl := List.mem_of_getElem? HIDX.out.1
  have hgd := (H.out.good.each l hLl).idle hidle
  have hst : StartOk s.f l.b b := ⟨hgd.2.1, H.out.right, H.out.good.front, hgd.2.2.2, H.out.later⟩
  have hlv := hwk5.lev l hLl
  have hlo := hwk5.ok.each_ l hLl
  have hwt := H.out.wt
  have hwl := wt_le hLl
  have hwtl : wtL l = l.b.l.length := by unfold wtL; rw [if_neg (by rw [hidle]; decide)]
  have z := fun W (h : Bl V5 W) => Lib.hid (start_good s.sA s.sc s.f l.b b W ((hwk5.since.past h.below (Nat.le_refl _)).wide h.below.size) hwk5.ok.f (hlv.b.keep h) hlo.b (by omega) ((H.out.bin.keep H5.out.1).keep h) H.out.bok (by omega) hst)
  have hself := Bl.refl V5
  have hbs : V5.heap.size ≤ V5.heap.size := Nat.le_refl _
  have HS := Lib.hid (show ∀ W, Bm V5.heap.size V5 W → W.cell? ⟨g, 0, none⟩ = some (.slice s.sA s.f.length s.sc) ∧ W.cell? ⟨wz.heap.size, 2, none⟩ = some (.slice l.b.sA l.b.f.length l.b.sc) ∧ W.cell? ⟨wz.heap.size, 3, none⟩ = some (.slice l.b.uA l.b.l.length l.b.uc) ∧ W.cell? ⟨w.heap.size, 0, none⟩ = some (.slice b.sA b.f.length b.sc) ∧ W.cell? ⟨w.heap.size, 1, none⟩ = some (.slice b.uA b.l.length b.uc) from fun W h => by
    have o1 := hwk5.own.past h hwk5.own.inside
    have o2 := H5.out.2.2.2.1.past h H5.out.2.2.2.1.inside
    have o3 := H5.out.2.1.past h H5.out.2.1.inside
    exact ⟨o1.at_ 0, o2.at_ 2, o2.at_ 3, o3.at_ 0, o3.at_ 1⟩)
  have HW5 := Lib.hid (And.intro hgd (And.intro hLl (And.intro hlo (And.intro hwt hwtl))))
  have hlt5 : wz.heap.size < V5.heap.size := ho5.inside
  clear hwk5 hLl hgd hst hlv hlo hwt hwl hwtl f0 f1 f2 f3 f4 f5 f6 f7 f8 f9 hb5 ho5 hs5
  unfold Bt.val at z
  go_cut [8, 9] (fun s8 s9 wx => ∃ (Q : Nat) (m : Mg), s8 = .pointer (some ⟨Q, 0, none⟩) ∧ s9 = .int .i64 0 ∧ Own wx Q 63 m.cells ∧ NewM s.f l.b b m ∧ MgIn wx wx.heap.size m ∧ MgOk m ∧ MgLo V5.heap.size m ∧ Below V5.heap.size V5 wx ∧ McOk m)
  case first =>
    go_region_held3 (fun w' => Bm V5.heap.size V5 w' ∧ (w'.cell? ⟨g, 0, none⟩ = some (.slice s.sA s.f.length s.sc) ∧ w'.cell? ⟨wz.heap.size, 2, none⟩ = some (.slice l.b.sA l.b.f.length l.b.sc) ∧ w'.cell? ⟨wz.heap.size, 3, none⟩ = some (.slice l.b.uA l.b.l.length l.b.uc) ∧ w'.cell? ⟨w.heap.size, 0, none⟩ = some (.slice b.sA b.f.length b.sc) ∧ w'.cell? ⟨w.heap.size, 1, none⟩ = some (.slice b.uA b.l.length b.uc)))
      ((refine (fun h => And.intro h (HS.out _ h)) ?_; repeat (first | with_reducible exact Bm.of hb6 hbs | with_reducible exact Bm.of hself hbs | with_reducible refine Bm.set ?_ (by first | exact Nat.le_refl _ | (have z6 := hb6.below.size; simp; omega)) _ _ | with_reducible refine Bm.more ?_ hbs _ | with_reducible refine Bm.drew ?_)))
      ((go_at_call 52; refine (z _ ?_).out.mono ?_; (repeat (first | with_reducible exact hself | with_reducible refine Bl.more ?_ _ | with_reducible refine Bl.drew ?_)); rintro _ w6 ⟨m, rfl, hnew, im, om, lm, b6, cm⟩; unfold Mg.val; have hb6 : Bl V5 w6 := Bl.call (by repeat (first | with_reducible exact hself | with_reducible refine Bl.more ?_ _ | with_reducible refine Bl.drew ?_)) b6; (try (have oz : Own w6 V5.heap.size 63 [.slice none 0 0, .slice none 0 0, .int .i64 0, .int .i64 0, .slice none 0 0, .slice none 0 0] := (Own.past (by first | exact Own.made _ _ [.slice none 0 0, .slice none 0 0, .int .i64 0, .int .i64 0, .slice none 0 0, .slice none 0 0] | exact own_drewKS (Own.made _ _ [.slice none 0 0, .slice none 0 0, .int .i64 0, .int .i64 0, .slice none 0 0, .slice none 0 0])) b6 (by simp)); obtain ⟨f0, f1, f2, f3, f4, f5⟩ := own_frozen6 oz; obtain ⟨e0, e1, e2, e3, e4, e5⟩ := own6 oz))))
    all_goals
      go_wp2_with fail
      go_meet
    · obtain ⟨V6, hV6, hb, hs, ho⟩ := mgbox w6 m
      rw [← hV6]
      exact ⟨_, m, rfl, rfl, ho, hnew, im.keep hb, om, lm.mono (by simp), hb6.below.trans (hb.mono hb6.below.size), cm⟩
    · obtain ⟨X, hX, hXo, hXb, hXs, hXh⟩ := own_six oz (.slice m.aA m.a.length m.ac) (.slice m.bA m.b.length m.bc) (.int .i64 m.i) (.int .i64 m.j) (.slice m.sA m.f.length m.sc) (.slice m.oA m.o.length m.oc)
      rw [← hX]
      exact ⟨_, m, rfl, rfl, hXo, hnew, ⟨ups_other im.a (lm.a.mono (by simp)) hXs hXh, ups_other im.b (lm.b.mono (by simp)) hXs hXh, times_other im.f (lm.f.mono (by simp)) hXs hXh, ups_other im.o (lm.o.mono (by simp)) hXs hXh⟩, om, lm.mono (by simp), hXb V5.heap.size V5 hb6.below (Nat.le_refl _), cm⟩
  case rest =>
    obtain ⟨Q, m, rfl, rfl, hQ, hnew, im, om, lm, b6, cm⟩ := hcut
    have HCM := Lib.hid cm
    clear cm
    have b06 := belows H5.out.1 b6
    have hwk6 := H.out.wk.past b06
    have oc6 := H5.out.2.2.1.past b6 H5.out.2.2.1.inside
    have hX0 := fun q : Past wc => (hwk6.own.past q.h hwk6.own.inside).at_ 1
    have hX1 := fun q : Past wc => (oc6.past q.h oc6.inside).at_ 0
    have hX2 := fun q : Past wc => own6 (hQ.past q.h hQ.inside)
    simp only [Sp.cells, List.getElem?_cons_zero, List.getElem?_cons_succ, HGA.out] at hX0 hX1
    have HFR := Lib.hid (show ∀ W, Below wc.heap.size wc W → (∀ o, W.frozen? ⟨G, o, none⟩ = false) from fun W hb o => by
      rcases row_ownK (hwk6.past hb).row with ⟨h0, _⟩ | ⟨G', cur, e, _, hg, _⟩
      · rw [HGA.out] at h0; cases h0
      · rw [HGA.out] at e
        obtain rfl : G = G' := by simpa using e
        exact hg.open_ o)
    have H6 := Lib.hid (And.intro b06 (And.intro hnew (And.intro im (And.intro om (And.intro lm (And.intro hQ b6))))))
    clear hnew im om lm hQ b6 b06 hwk6 oc6 z HS hself hbs
    go_upto_region 13 with fail
    refine wp_region_past_tail wc 10 (by kernel_rfl) (by kernel_rfl) (Below.refl _ _) ?_
    repeat (first | go_big_quiet_step (fail) | quiet_step (fail))
    refine wpQuiet_nil ?_
    intro wt hw'
    obtain ⟨⟨wu, hbt⟩, hw''⟩ := hw'
    dsimp only at hw''
    subst hw''
    have HT := Lib.hid hbt
    obtain ⟨r0, r1, r2, r3, r4, r5, r6, r7, r8, r9⟩ := lv_ten (HLV.out wt (belows H6.out.1 hbt))
    have g0 := HFR.out wt hbt (p * 10)
    have g1 := HFR.out wt hbt (p * 10 + 1)
    have g2 := HFR.out wt hbt (p * 10 + 2)
    have g3 := HFR.out wt hbt (p * 10 + 3)
    have g4 := HFR.out wt hbt (p * 10 + 4)
    have g5 := HFR.out wt hbt (p * 10 + 5)
    have g6 := HFR.out wt hbt (p * 10 + 6)
    have g7 := HFR.out wt hbt (p * 10 + 7)
    have g8 := HFR.out wt hbt (p * 10 + 8)
    have g9 := HFR.out wt hbt (p * 10 + 9)
    have HFI := Lib.hid (put_merge (p := p) (G := G) (m := m) (H.out.past (belows H6.out.1 hbt)) HIDX.out.1 hidle (by rw [HIDX.out.2.1, HC.out]) H6.out.2.1 (H6.out.2.2.1.keep hbt) H6.out.2.2.2.1 (H6.out.2.2.2.2.1.of (fun k hk => (H.out.wk.past H5.out.1).lt k hk |>.2)) (H6.out.2.2.2.2.1.mono (Nat.le_trans H.out.wk.base_ H5.out.1.size)) HCM.out HGA.out)
    rw [HIDX.out.2.1] at HFI
    clear hX0 hX1 hX2 hbt
    go_wp2_with fail
    go_ret
    obtain ⟨k1, s', k2⟩ := HFI.out
    have bb := belows H6.out.1 HT.out
    exact ⟨0, rfl, (KeptK.of_below bb (Nat.le_refl _) (SpS g s.lA)).trans k1 (fun _ _ e => e), .inl ⟨rfl, s', k2.first bb⟩⟩
end Go.Proofs.YtenjlhlighkenaaGreat
namespace Go.Proofs.YtenjlhlighkenaaGreat
open Go Go.RowKit

set_option maxRecDepth 100000 in
set_option maxHeartbeats 12800000 in
theorem put_absent1 (base g : Nat) (s : Sp) (b : Bt) (w : World) (h : PutIn base g s b w) (hno : ∀ l ∈ s.L, l.cls ≠ (clsN b.l.length : Int)) (hz : clsN b.l.length ≠ 0) (hq : posC s.L (clsN b.l.length : Int) = s.L.length) :
    Calls Tryz.prog 22 #[.pointer (some ⟨g, 0, none⟩), b.val] w (PutNew base g s b w) := by
  obtain ⟨V, hV, hvb, hvs, hvo⟩ := btbox w b
  obtain ⟨c, hc⟩ : ∃ c : Nat, clsN b.l.length = c := ⟨_, rfl⟩
  have y1 := Lib.hid (class_any b.uA b.uc b.l.length V h.bok.l.n)
  rw [hc] at y1
  obtain ⟨d0, d1⟩ := own2 hvo
  have H := Lib.hid h
  have HB := Lib.hid (And.intro hvb hvo)
  have HC := Lib.hid hc
  have hcn : c ≤ 41 := by rw [← hc]; exact cls_pow (by have := h.bok.l.n; omega)
  have hpl := posC_le s.L (c : Int)
  have hfew := h.good.few h.wk.ok.each_
  have hlow : ∀ l ∈ s.L.drop (posC s.L (c : Int)), l.cls < (c : Int) := posC_after h.good.fall fun l hl e => hno l (List.mem_of_getElem? hl) (by rw [hc]; exact e)
  have HLOW := Lib.hid (And.intro (posC_before s.L (c : Int)) hlow)
  rw [show b.val = .agg #[.slice b.sA b.f.length b.sc, .slice b.uA b.l.length b.uc] from rfl]
  rw [hc] at hz hq
  have h0 : ¬ c = 0 := hz
  have t0 : ((c : Int) == 0) = false := beq_eq_false_iff_ne.2 (by omega)
  have hn0 : b.l.length ≠ 0 := fun e => h0 (hc.symm.trans (cls_zero.2 e))
  have HZ := Lib.hid hn0
  obtain ⟨p, hp⟩ : ∃ p : Nat, posC s.L (c : Int) = p := ⟨_, rfl⟩
  have HPP := Lib.hid hp
  rw [hp] at hpl HLOW
  have y2 := fun (V2 : World) (bx : Nat) (hb : Below w.heap.size w V2) (hk : Kin V2 bx (c : Int)) => Lib.hid (indexS_any s.lA s.lc s.L bx (c : Int) V2 (h.wk.past hb).lies.head h.wk.ok.n hk)
  have y3 : ∀ w3, Below w.heap.size w w3 → ∀ W, Below w3.heap.size w3 W → Own W w3.heap.size 65 (⟨(c : Int), false, b, Mg.nil⟩ : Lv).cells → Hid (Calls Tryz.prog 51 #[.slice s.lA s.L.length s.lc, .int .i64 (p : Int), .slice (some ⟨w3.heap.size, 0, none⟩) 1 1] W fun e w' => ∃ A' c', e = .returned (.slice A' (s.L.length + 1) c') ∧
      w'.ownsRow base 65 10 (.slice A' (s.L.length + 1) c') (s.L.length + 1) ((s.L.flatMap Lv.cells).take (p * 10) ++ (⟨(c : Int), false, b, Mg.nil⟩ : Lv).cells ++ (s.L.flatMap Lv.cells).drop (p * 10)) ∧ W.grownBy w' (Value.slice s.lA s.L.length s.lc).ownBlock ∧ ((Value.slice A' (s.L.length + 1) c').ownBlock = (Value.slice s.lA s.L.length s.lc).ownBlock ∨ (Value.slice A' (s.L.length + 1) c').ownBlock = some W.heap.size)) := fun w3 hb W hbW ho => by
    have hw3 := h.wk.past hb
    refine Lib.hid (insert_anyS base s.L.length s.lc p w3.heap.size s.lA _ ⟨(c : Int), false, b, Mg.nil⟩ W (own_below hw3.row hbW) ho ?_ hpl ?_ (Nat.le_trans hw3.base_ hbW.size) (lvs_one s.L))
    · intro e
      rw [blkS_own] at e
      have := (hw3.lt _ (.inr e)).2
      omega
    · omega
  have HFIN := Lib.hid (show ∀ (w3 W2 : World) (A' : Option Addr) (c' : Nat), Below w.heap.size w w3 → W2.ownsRow base 65 10 (.slice A' (s.L.length + 1) c') (s.L.length + 1) ((s.L.flatMap Lv.cells).take (p * 10) ++ (⟨(c : Int), false, b, Mg.nil⟩ : Lv).cells ++ (s.L.flatMap Lv.cells).drop (p * 10)) → (w3.alloc (.cells #[.int .i64 (c : Int), .bool false, .slice b.sA b.f.length b.sc, .slice b.uA b.l.length b.uc, .slice none 0 0, .slice none 0 0, .int .i64 0, .int .i64 0, .slice none 0 0, .slice none 0 0] 65)).drew.grownBy W2 (Value.slice s.lA s.L.length s.lc).ownBlock → ((Value.slice A' (s.L.length + 1) c').ownBlock = (Value.slice s.lA s.L.length s.lc).ownBlock ∨ (Value.slice A' (s.L.length + 1) c').ownBlock = some (w3.alloc (.cells #[.int .i64 (c : Int), .bool false, .slice b.sA b.f.length b.sc, .slice b.uA b.l.length b.uc, .slice none 0 0, .slice none 0 0, .int .i64 0, .int .i64 0, .slice none 0 0, .slice none 0 0] 65)).drew.heap.size) →
      PutNew base g s b w (.returned (.int .i64 0)) (W2.setCell ⟨g, 1, none⟩ (.slice A' (s.L.length + 1) c')) from fun w3 W2 A' c' hb hr hg hA => by
    obtain ⟨k1, s', k2, k3⟩ := put_level (h.past hb) hpl (by rw [hc]) HLOW.out.1 HLOW.out.2 hn0 (lvbox1 w3 b (c : Int)).1 hr hg hA
    exact ⟨rfl, (KeptK.of_below hb (Nat.le_refl _) (SpS g s.lA)).trans k1 (fun _ _ e => e), s', k2.first hb, k3⟩)
  have HMID := Lib.hid (show ∀ (w3 W2 : World), Below w.heap.size w w3 → (w3.alloc (.cells #[.int .i64 (c : Int), .bool false, .slice b.sA b.f.length b.sc, .slice b.uA b.l.length b.uc, .slice none 0 0, .slice none 0 0, .int .i64 0, .int .i64 0, .slice none 0 0, .slice none 0 0] 65)).drew.grownBy W2 (Value.slice s.lA s.L.length s.lc).ownBlock → Own W2 g 71 s.cells from fun w3 W2 hb hg => by
    have hw3 := (h.wk.past hb).past (lvbox1 w3 b (c : Int)).1
    refine (hg.block g hw3.own.inside ?_).trans hw3.own
    rw [blkS_own]
    exact fun e => hw3.out e.symm)
  have HG := Lib.hid h.wk.own.inside
  have hpe : p = s.L.length := hp.symm.trans hq
  clear hz hq
  have hpi : posI s.L (c : Int) = -1 := by unfold posI; rw [hp, if_pos hpe]
  rw [hpi] at y2
  have t1 : ((s.L.length : Int) == (s.L.length : Int)) = true := by simp
  subst hpe
  clear h hvb hvs hvo hc hno hlow hn0 hp h0 hpi hpl
  go_enter Tryz.func22, Tryz.ntmps22
  go_upto_region 1 with fail
  rw [← hV]
  clear hV
  go_wp2_with fail
  refine y1.out.mono ?_
  rintro _ w1 ⟨rfl, b1⟩
  obtain ⟨V2, hV2, hs2, hb2, ho2⟩ := boxd w1 [.int .i64 (c : Int)] 3
  have b12 := belows b1 hb2
  have H2 := Lib.hid (And.intro (belows HB.out.1 b12) (And.intro (HB.out.2.past b12 HB.out.2.inside) (And.intro ho2 (show w.heap.size < w1.heap.size from Nat.lt_of_lt_of_le HB.out.2.inside b1.size))))
  have k0 : V2.cell? ⟨w1.heap.size, 0, none⟩ = some (.int .i64 (c : Int)) := ho2.at_ 0
  clear b1 hs2 hb2 ho2 y1 d0 d1 b12
  go_upto_region 2 with fail
  rw [← hV2]
  clear hV2
  have g0 : V2.cell? ⟨g, 1, none⟩ = some (.slice s.lA s.L.length s.lc) := (H.out.wk.past H2.out.1).own.at_ 1
  have hgi : g < V2.heap.size := (H.out.wk.past H2.out.1).own.inside
  have z2 := y2 V2 w1.heap.size H2.out.1 ⟨k0, H2.out.2.2.1.inside⟩
  go_wp2_with fail
  refine z2.out.mono ?_
  rintro _ w3 ⟨rfl, b3⟩
  have H3 := Lib.hid (And.intro (belows H2.out.1 b3) (And.intro (H2.out.2.1.past b3 H2.out.2.1.inside) (And.intro (H2.out.2.2.1.past b3 H2.out.2.2.1.inside) (And.intro H2.out.2.2.2 (Nat.lt_of_lt_of_le H2.out.2.2.1.inside b3.size)))))
  have k1 : w3.cell? ⟨w1.heap.size, 0, none⟩ = some (.int .i64 (c : Int)) := (b3.cell (p := ⟨w1.heap.size, 0, none⟩) H2.out.2.2.1.inside).trans k0
  have g1 : w3.cell? ⟨g, 1, none⟩ = some (.slice s.lA s.L.length s.lc) := (b3.cell (p := ⟨g, 1, none⟩) hgi).trans g0
  have hgi3 : g < w3.heap.size := Nat.lt_of_lt_of_le hgi b3.size
  obtain ⟨e0, e1⟩ := own2 H3.out.2.1
  clear b3 z2 k0 g0 hgi
  have x2 := fun q : Past w3 => (q.h.cell (p := ⟨g, 1, none⟩) hgi3).trans g1
  go_upto_region 7 with fail
  refine wp_region_past w3 (by kernel_rfl) (by kernel_rfl) (Below.refl _ _) ?_
  repeat (first | go_big_quiet_step (fail) | quiet_step (fail))
  refine wpQuiet_nil ?_
  intro wz hw'
  obtain ⟨⟨wy, hbz⟩, hw''⟩ := hw'
  dsimp only at hw''
  subst hw''
  have HZ3 := Lib.hid (And.intro (belows H3.out.1 hbz) (And.intro (H3.out.2.1.past hbz H3.out.2.1.inside) (H3.out.2.2.1.past hbz H3.out.2.2.1.inside)))
  have HW1 := Lib.hid H3.out.2.2.2.1
  have g1 := x2 ⟨wz, hbz⟩
  have k1 := (hbz.cell (p := ⟨w1.heap.size, 0, none⟩) H3.out.2.2.2.2).trans k1
  have hgi3 : g < wz.heap.size := Nat.lt_of_lt_of_le hgi3 hbz.size
  obtain ⟨e0, e1⟩ := own2 (H3.out.2.1.past hbz H3.out.2.1.inside)
  dsimp only at g1
  clear x2 hbz
  go_upto_region 8 with fail
  have a2 : (wz.alloc (.cells #[.int .i64 (c : Int), .bool false, .slice b.sA b.f.length b.sc, .slice b.uA b.l.length b.uc, .slice none 0 0, .slice none 0 0, .int .i64 0, .int .i64 0, .slice none 0 0, .slice none 0 0] 65)).cell? ⟨g, 1, none⟩ = some (.slice s.lA s.L.length s.lc) := ((lvbox1 wz b (c : Int)).1.cell (p := ⟨g, 1, none⟩) hgi3).trans g1
  go_region_with (go_at_call 51; refine (y3 wz HZ3.out.1 _ (lvbox1 wz b (c : Int)).1 (lvbox1 wz b (c : Int)).2).out.mono ?_; rintro _ w4 ⟨A', c', rfl, hr, hg, hA⟩; have o2 := HMID.out wz w4 HZ3.out.1 hg; have s0 : w4.cell? ⟨g, 1, none⟩ = some (.slice s.lA s.L.length s.lc) := o2.at_ 1; have s1 : w4.frozen? ⟨g, 1, none⟩ = false := o2.open_ 1; have HF := Lib.hid (HFIN.out wz w4 A' c' HZ3.out.1 hr hg hA); clear hr hg hA o2)
  all_goals
    go_wp2_with fail
    go_ret
    exact HF.out
end Go.Proofs.YtenjlhlighkenaaGreat
namespace Go.Proofs.YtenjlhlighkenaaGreat
open Go Go.RowKit

set_option maxRecDepth 100000 in
set_option maxHeartbeats 12800000 in
theorem put_absent2 (base g : Nat) (s : Sp) (b : Bt) (w : World) (h : PutIn base g s b w) (hno : ∀ l ∈ s.L, l.cls ≠ (clsN b.l.length : Int)) (hz : clsN b.l.length ≠ 0) (hq : posC s.L (clsN b.l.length : Int) ≠ s.L.length) :
    Calls Tryz.prog 22 #[.pointer (some ⟨g, 0, none⟩), b.val] w (PutNew base g s b w) := by
  obtain ⟨V, hV, hvb, hvs, hvo⟩ := btbox w b
  obtain ⟨c, hc⟩ : ∃ c : Nat, clsN b.l.length = c := ⟨_, rfl⟩
  have y1 := Lib.hid (class_any b.uA b.uc b.l.length V h.bok.l.n)
  rw [hc] at y1
  obtain ⟨d0, d1⟩ := own2 hvo
  have H := Lib.hid h
  have HB := Lib.hid (And.intro hvb hvo)
  have HC := Lib.hid hc
  have hcn : c ≤ 41 := by rw [← hc]; exact cls_pow (by have := h.bok.l.n; omega)
  have hpl := posC_le s.L (c : Int)
  have hfew := h.good.few h.wk.ok.each_
  have hlow : ∀ l ∈ s.L.drop (posC s.L (c : Int)), l.cls < (c : Int) := posC_after h.good.fall fun l hl e => hno l (List.mem_of_getElem? hl) (by rw [hc]; exact e)
  have HLOW := Lib.hid (And.intro (posC_before s.L (c : Int)) hlow)
  rw [show b.val = .agg #[.slice b.sA b.f.length b.sc, .slice b.uA b.l.length b.uc] from rfl]
  rw [hc] at hz hq
  have h0 : ¬ c = 0 := hz
  have t0 : ((c : Int) == 0) = false := beq_eq_false_iff_ne.2 (by omega)
  have hn0 : b.l.length ≠ 0 := fun e => h0 (hc.symm.trans (cls_zero.2 e))
  have HZ := Lib.hid hn0
  obtain ⟨p, hp⟩ : ∃ p : Nat, posC s.L (c : Int) = p := ⟨_, rfl⟩
  have HPP := Lib.hid hp
  rw [hp] at hpl HLOW
  have y2 := fun (V2 : World) (bx : Nat) (hb : Below w.heap.size w V2) (hk : Kin V2 bx (c : Int)) => Lib.hid (indexS_any s.lA s.lc s.L bx (c : Int) V2 (h.wk.past hb).lies.head h.wk.ok.n hk)
  have y3 : ∀ w3, Below w.heap.size w w3 → ∀ W, Below w3.heap.size w3 W → Own W w3.heap.size 65 (⟨(c : Int), false, b, Mg.nil⟩ : Lv).cells → Hid (Calls Tryz.prog 51 #[.slice s.lA s.L.length s.lc, .int .i64 (p : Int), .slice (some ⟨w3.heap.size, 0, none⟩) 1 1] W fun e w' => ∃ A' c', e = .returned (.slice A' (s.L.length + 1) c') ∧
      w'.ownsRow base 65 10 (.slice A' (s.L.length + 1) c') (s.L.length + 1) ((s.L.flatMap Lv.cells).take (p * 10) ++ (⟨(c : Int), false, b, Mg.nil⟩ : Lv).cells ++ (s.L.flatMap Lv.cells).drop (p * 10)) ∧ W.grownBy w' (Value.slice s.lA s.L.length s.lc).ownBlock ∧ ((Value.slice A' (s.L.length + 1) c').ownBlock = (Value.slice s.lA s.L.length s.lc).ownBlock ∨ (Value.slice A' (s.L.length + 1) c').ownBlock = some W.heap.size)) := fun w3 hb W hbW ho => by
    have hw3 := h.wk.past hb
    refine Lib.hid (insert_anyS base s.L.length s.lc p w3.heap.size s.lA _ ⟨(c : Int), false, b, Mg.nil⟩ W (own_below hw3.row hbW) ho ?_ hpl ?_ (Nat.le_trans hw3.base_ hbW.size) (lvs_one s.L))
    · intro e
      rw [blkS_own] at e
      have := (hw3.lt _ (.inr e)).2
      omega
    · omega
  have HFIN := Lib.hid (show ∀ (w3 W2 : World) (A' : Option Addr) (c' : Nat), Below w.heap.size w w3 → W2.ownsRow base 65 10 (.slice A' (s.L.length + 1) c') (s.L.length + 1) ((s.L.flatMap Lv.cells).take (p * 10) ++ (⟨(c : Int), false, b, Mg.nil⟩ : Lv).cells ++ (s.L.flatMap Lv.cells).drop (p * 10)) → (w3.alloc (.cells #[.int .i64 (c : Int), .bool false, .slice b.sA b.f.length b.sc, .slice b.uA b.l.length b.uc, .slice none 0 0, .slice none 0 0, .int .i64 0, .int .i64 0, .slice none 0 0, .slice none 0 0] 65)).drew.grownBy W2 (Value.slice s.lA s.L.length s.lc).ownBlock → ((Value.slice A' (s.L.length + 1) c').ownBlock = (Value.slice s.lA s.L.length s.lc).ownBlock ∨ (Value.slice A' (s.L.length + 1) c').ownBlock = some (w3.alloc (.cells #[.int .i64 (c : Int), .bool false, .slice b.sA b.f.length b.sc, .slice b.uA b.l.length b.uc, .slice none 0 0, .slice none 0 0, .int .i64 0, .int .i64 0, .slice none 0 0, .slice none 0 0] 65)).drew.heap.size) →
      PutNew base g s b w (.returned (.int .i64 0)) (W2.setCell ⟨g, 1, none⟩ (.slice A' (s.L.length + 1) c')) from fun w3 W2 A' c' hb hr hg hA => by
    obtain ⟨k1, s', k2, k3⟩ := put_level (h.past hb) hpl (by rw [hc]) HLOW.out.1 HLOW.out.2 hn0 (lvbox1 w3 b (c : Int)).1 hr hg hA
    exact ⟨rfl, (KeptK.of_below hb (Nat.le_refl _) (SpS g s.lA)).trans k1 (fun _ _ e => e), s', k2.first hb, k3⟩)
  have HMID := Lib.hid (show ∀ (w3 W2 : World), Below w.heap.size w w3 → (w3.alloc (.cells #[.int .i64 (c : Int), .bool false, .slice b.sA b.f.length b.sc, .slice b.uA b.l.length b.uc, .slice none 0 0, .slice none 0 0, .int .i64 0, .int .i64 0, .slice none 0 0, .slice none 0 0] 65)).drew.grownBy W2 (Value.slice s.lA s.L.length s.lc).ownBlock → Own W2 g 71 s.cells from fun w3 W2 hb hg => by
    have hw3 := (h.wk.past hb).past (lvbox1 w3 b (c : Int)).1
    refine (hg.block g hw3.own.inside ?_).trans hw3.own
    rw [blkS_own]
    exact fun e => hw3.out e.symm)
  have HG := Lib.hid h.wk.own.inside
  have hpe : ¬ p = s.L.length := fun e => hq (hp.trans e)
  clear hz hq
  have hpi : posI s.L (c : Int) = (p : Int) := by unfold posI; rw [hp, if_neg hpe]
  rw [hpi] at y2
  have hplt : p < s.L.length := by omega
  obtain ⟨l, hl⟩ : ∃ l, s.L[p]? = some l := ⟨_, List.getElem?_eq_getElem hplt⟩
  have hcl : l.cls < (c : Int) := HLOW.out.2 l (by
    rw [List.drop_eq_getElem_cons hplt]
    have := (List.getElem?_eq_some_iff.1 hl).2
    rw [this]
    exact List.mem_cons_self)
  have t1 : ((p : Int) == (s.L.length : Int)) = false := beq_eq_false_iff_ne.2 (by omega)
  have t2 : decide (l.cls < (c : Int)) = true := decide_eq_true hcl
  have q0 : ¬ ((p : Int) < 0) := by omega
  have q1 : (0 : Int) ≤ (p : Int) := by omega
  have q2 : (p : Int) < (s.L.length : Int) := by omega
  have HLV := Lib.hid (show ∀ W, Below w.heap.size w W → ∃ G : Nat, s.lA = some ⟨G, 0, none⟩ ∧ W.cell? ⟨G, p * 10, none⟩ = some (.int .i64 l.cls) from fun W hb => by
    have hW := h.wk.past hb
    rcases row_ownK hW.row with ⟨_, h9, _⟩ | ⟨G, cur, hA, _⟩
    · omega
    · obtain ⟨b', o', e, _, hcell⟩ := hW.lies.head (by omega)
      rw [hA] at e
      simp only [Option.some.injEq, Addr.mk.injEq, and_true] at e
      obtain ⟨rfl, rfl⟩ := e
      have := hcell p l hl 0 _ rfl
      rw [Nat.zero_add, Nat.add_zero] at this
      exact ⟨G, hA, this⟩)
  clear h hvb hvs hvo hc hno hlow hn0 hp h0 hpi hpl hl hcl hplt
  go_enter Tryz.func22, Tryz.ntmps22
  go_upto_region 1 with fail
  rw [← hV]
  clear hV
  go_wp2_with fail
  refine y1.out.mono ?_
  rintro _ w1 ⟨rfl, b1⟩
  obtain ⟨V2, hV2, hs2, hb2, ho2⟩ := boxd w1 [.int .i64 (c : Int)] 3
  have b12 := belows b1 hb2
  have H2 := Lib.hid (And.intro (belows HB.out.1 b12) (And.intro (HB.out.2.past b12 HB.out.2.inside) (And.intro ho2 (show w.heap.size < w1.heap.size from Nat.lt_of_lt_of_le HB.out.2.inside b1.size))))
  have k0 : V2.cell? ⟨w1.heap.size, 0, none⟩ = some (.int .i64 (c : Int)) := ho2.at_ 0
  clear b1 hs2 hb2 ho2 y1 d0 d1 b12
  go_upto_region 2 with fail
  rw [← hV2]
  clear hV2
  have g0 : V2.cell? ⟨g, 1, none⟩ = some (.slice s.lA s.L.length s.lc) := (H.out.wk.past H2.out.1).own.at_ 1
  have hgi : g < V2.heap.size := (H.out.wk.past H2.out.1).own.inside
  have z2 := y2 V2 w1.heap.size H2.out.1 ⟨k0, H2.out.2.2.1.inside⟩
  go_wp2_with fail
  refine z2.out.mono ?_
  rintro _ w3 ⟨rfl, b3⟩
  have H3 := Lib.hid (And.intro (belows H2.out.1 b3) (And.intro (H2.out.2.1.past b3 H2.out.2.1.inside) (And.intro (H2.out.2.2.1.past b3 H2.out.2.2.1.inside) (And.intro H2.out.2.2.2 (Nat.lt_of_lt_of_le H2.out.2.2.1.inside b3.size)))))
  have k1 : w3.cell? ⟨w1.heap.size, 0, none⟩ = some (.int .i64 (c : Int)) := (b3.cell (p := ⟨w1.heap.size, 0, none⟩) H2.out.2.2.1.inside).trans k0
  have g1 : w3.cell? ⟨g, 1, none⟩ = some (.slice s.lA s.L.length s.lc) := (b3.cell (p := ⟨g, 1, none⟩) hgi).trans g0
  have hgi3 : g < w3.heap.size := Nat.lt_of_lt_of_le hgi b3.size
  obtain ⟨e0, e1⟩ := own2 H3.out.2.1
  clear b3 z2 k0 g0 hgi
  obtain ⟨G, hGA, r0⟩ := HLV.out w3 H3.out.1
  have hGi : G < w3.heap.size := by
    have := (H.out.wk.past H3.out.1).lt G (.inr (by rw [hGA]; rfl))
    exact this.2
  have x1 := fun q : Past w3 => (q.h.cell (p := ⟨w1.heap.size, 0, none⟩) H3.out.2.2.2.2).trans k1
  have x3 := fun q : Past w3 => (q.h.cell (p := ⟨G, p * 10, none⟩) hGi).trans r0
  rw [hGA] at g1 ⊢
  have x2 := fun q : Past w3 => (q.h.cell (p := ⟨g, 1, none⟩) hgi3).trans g1
  go_upto_region 7 with fail
  refine wp_region_past w3 (by kernel_rfl) (by kernel_rfl) (Below.refl _ _) ?_
  repeat (first | go_big_quiet_step (fail) | quiet_step (fail))
  refine wpQuiet_nil ?_
  intro wz hw'
  obtain ⟨⟨wy, hbz⟩, hw''⟩ := hw'
  dsimp only at hw''
  subst hw''
  have HZ3 := Lib.hid (And.intro (belows H3.out.1 hbz) (And.intro (H3.out.2.1.past hbz H3.out.2.1.inside) (H3.out.2.2.1.past hbz H3.out.2.2.1.inside)))
  have HW1 := Lib.hid H3.out.2.2.2.1
  have g1 := x2 ⟨wz, hbz⟩
  have k1 := (hbz.cell (p := ⟨w1.heap.size, 0, none⟩) H3.out.2.2.2.2).trans k1
  have hgi3 : g < wz.heap.size := Nat.lt_of_lt_of_le hgi3 hbz.size
  obtain ⟨e0, e1⟩ := own2 (H3.out.2.1.past hbz H3.out.2.1.inside)
  dsimp only at g1
  clear x2 hbz
  go_upto_region 8 with fail
  rw [← hGA] at g1 ⊢
  clear hGA r0 x1 x3 hGi
  have a2 : (wz.alloc (.cells #[.int .i64 (c : Int), .bool false, .slice b.sA b.f.length b.sc, .slice b.uA b.l.length b.uc, .slice none 0 0, .slice none 0 0, .int .i64 0, .int .i64 0, .slice none 0 0, .slice none 0 0] 65)).cell? ⟨g, 1, none⟩ = some (.slice s.lA s.L.length s.lc) := ((lvbox1 wz b (c : Int)).1.cell (p := ⟨g, 1, none⟩) hgi3).trans g1
  go_region_with (go_at_call 51; refine (y3 wz HZ3.out.1 _ (lvbox1 wz b (c : Int)).1 (lvbox1 wz b (c : Int)).2).out.mono ?_; rintro _ w4 ⟨A', c', rfl, hr, hg, hA⟩; have o2 := HMID.out wz w4 HZ3.out.1 hg; have s0 : w4.cell? ⟨g, 1, none⟩ = some (.slice s.lA s.L.length s.lc) := o2.at_ 1; have s1 : w4.frozen? ⟨g, 1, none⟩ = false := o2.open_ 1; have HF := Lib.hid (HFIN.out wz w4 A' c' HZ3.out.1 hr hg hA); clear hr hg hA o2)
  all_goals
    go_wp2_with fail
    go_ret
    exact HF.out
end Go.Proofs.YtenjlhlighkenaaGreat
namespace Go.Proofs.YtenjlhlighkenaaGreat
open Go Go.RowKit

set_option maxRecDepth 100000 in
set_option maxHeartbeats 12800000 in
theorem put_absent (base g : Nat) (s : Sp) (b : Bt) (w : World) (h : PutIn base g s b w) (hno : ∀ l ∈ s.L, l.cls ≠ (clsN b.l.length : Int)) :
    Calls Tryz.prog 22 #[.pointer (some ⟨g, 0, none⟩), b.val] w (PutNew base g s b w) := by
  obtain ⟨V, hV, hvb, hvs, hvo⟩ := btbox w b
  obtain ⟨c, hc⟩ : ∃ c : Nat, clsN b.l.length = c := ⟨_, rfl⟩
  have y1 := Lib.hid (class_any b.uA b.uc b.l.length V h.bok.l.n)
  rw [hc] at y1
  obtain ⟨d0, d1⟩ := own2 hvo
  have H := Lib.hid h
  have HB := Lib.hid (And.intro hvb hvo)
  have HC := Lib.hid hc
  have hcn : c ≤ 41 := by rw [← hc]; exact cls_pow (by have := h.bok.l.n; omega)
  have hpl := posC_le s.L (c : Int)
  have hfew := h.good.few h.wk.ok.each_
  have hlow : ∀ l ∈ s.L.drop (posC s.L (c : Int)), l.cls < (c : Int) := posC_after h.good.fall fun l hl e => hno l (List.mem_of_getElem? hl) (by rw [hc]; exact e)
  have HLOW := Lib.hid (And.intro (posC_before s.L (c : Int)) hlow)
  by_cases h0 : c = 0
  · rw [show b.val = .agg #[.slice b.sA b.f.length b.sc, .slice b.uA b.l.length b.uc] from rfl]
    have hn0 : b.l.length = 0 := cls_zero.1 (hc.trans h0)
    have HZ := Lib.hid hn0
    have t0 : ((c : Int) == 0) = true := by rw [h0]; rfl
    clear h hvb hvs hvo hc hno hpl hlow hfew hn0 h0
    go_enter Tryz.func22, Tryz.ntmps22
    go_upto_region 1 with fail
    rw [← hV]
    clear hV
    go_wp2_with fail
    refine y1.out.mono ?_
    rintro _ w1 ⟨rfl, b1⟩
    obtain ⟨V2, hV2, hs2, hb2, ho2⟩ := boxd w1 [.int .i64 (c : Int)] 3
    have b12 := belows b1 hb2
    have H2 := Lib.hid (And.intro (belows HB.out.1 b12) (And.intro (HB.out.2.past b12 HB.out.2.inside) (And.intro ho2 (show w.heap.size < w1.heap.size from Nat.lt_of_lt_of_le HB.out.2.inside b1.size))))
    have k0 : V2.cell? ⟨w1.heap.size, 0, none⟩ = some (.int .i64 (c : Int)) := ho2.at_ 0
    clear b1 hs2 hb2 ho2 y1 d0 d1 b12
    go_upto_region 2 with fail
    rw [← hV2]
    clear hV2
    go_wp2_with fail
    go_ret
    have hn : b.l = [] := List.eq_nil_of_length_eq_zero HZ.out
    exact ⟨rfl, KeptK.of_below H2.out.1 (Nat.le_refl _) _, s, ⟨H.out.wk.past H2.out.1, rfl, rfl, rfl, .inl rfl, by rw [hn]; exact PutTo.refl H.out.good 1 0, by rw [hn]; exact HasTo.refl _ _⟩, rfl⟩
  have hz : clsN b.l.length ≠ 0 := fun e => h0 (hc.symm.trans e)
  by_cases hq : posC s.L (clsN b.l.length : Int) = s.L.length
  · exact put_absent1 base g s b w h hno hz hq
  · exact put_absent2 base g s b w h hno hz hq
end Go.Proofs.YtenjlhlighkenaaGreat
namespace Go.Proofs.YtenjlhlighkenaaGreat
open Go Go.RowKit

theorem full_end {m m' : Mg} {c E : Int} (h : WorkOk m m' 9223372036854775807 c E) (hm : MOk m) (ok : ∀ u ∈ m.o, UOk u) (na : m.a.length ≤ 274877906944) (nb : m.b.length ≤ 274877906944) :
    E = 0 ∧ leftM m' = 0 ∧ EndOk m' ∨ E = 10 ∧ consE [advL m.f (partsM m)] = 10 := by
  obtain ⟨k, hk, mok, hsum, hE, _, _⟩ := work_gen h hm ok
  rcases hE with ⟨e, h1, _⟩ | e
  · refine .inl ⟨e, ?_⟩
    have hl : leftM m ≤ 549755813888 := by unfold leftM; omega
    have h0 : leftM m' = 0 := by
      rcases h1 with h1 | h1
      · exact h1
      · omega
    refine ⟨h0, mok, ?_, ?_⟩
    · have h2 := mok.da.lo
      have h3 := mok.da.hi
      unfold leftM at h0
      omega
    · have h2 := mok.db.lo
      have h3 := mok.db.hi
      unfold leftM at h0
      omega
  · exact .inr e
theorem put_both {base g p : Nat} {s s2 s3 : Sp} {b e : Bt} {w w5 w6 w7 : World} (hgood : SpGood s.f s.L) (ht : TookOut s.f s.L p e) (o2 : PutOut base g ⟨s.sA, s.sc, s.f, s.lA, s.lc, s.L.eraseIdx p⟩ b.l 1 b.l.length w5 w6 s2) (hw : w.heap.size ≤ w5.heap.size) (hw6 : w.heap.size ≤ w6.heap.size) (o3 : PutOut base g s2 e.l 1 e.l.length w6 w7 s3) (hbn : busyN s2.L = busyN (s.L.eraseIdx p)) : PutOut base g s b.l 1 b.l.length w w7 s3 := by
  refine ⟨o3.wk, o3.h1.trans o2.h1, o3.h2.trans o2.h2, o3.h3.trans o2.h3, ?_, ?_, ⟨fun hb hq => o3.has.old (by have := ht.busy; omega) _ (o2.has.new (by have := ht.busy; show busyN (s.L.eraseIdx p) ≤ 1; omega) hq), fun h0 => by have := ht.busy; omega, fun h => by
    have h3 := o3.has.fr
    rw [show s2.f = s.f from o2.h3] at h3
    exact h3 (o2.has.fr fun l hl hb => h l (List.mem_of_mem_eraseIdx hl) hb)⟩⟩
  · rcases o3.lA with h | ⟨q, h, hq⟩
    · rcases o2.lA with h' | ⟨q, h', hq⟩
      · exact .inl (h.trans h')
      · exact .inr ⟨q, h.trans h', by omega⟩
    · exact .inr ⟨q, h, by omega⟩
  · have e2 := o2.put
    have e3 := o3.put
    have hf : s2.f = s.f := o2.h3
    rw [hf] at e3
    have q1 : EqS s.f (partsS s3.L) (partsS s2.L ++ e.l) := e3.eq
    have q2 : EqS s.f (partsS s2.L) (partsS (s.L.eraseIdx p) ++ b.l) := e2.eq
    have q3 : EqS s.f (partsS (s.L.eraseIdx p) ++ e.l) (partsS s.L) := ht.eq
    have hb : chkUs b.l = 0 := (chkUs_parts q2.r).2
    have he : chkUs e.l = 0 := (chkUs_parts q1.r).2
    have q4 : EqS s.f (partsS s2.L ++ e.l) ((partsS (s.L.eraseIdx p) ++ b.l) ++ e.l) := q2.app (EqS.refl he)
    have q5 : EqS s.f ((partsS (s.L.eraseIdx p) ++ b.l) ++ e.l) ((partsS (s.L.eraseIdx p) ++ e.l) ++ b.l) := EqS.perm q4.r (by
      rw [List.append_assoc, List.append_assoc]
      exact List.Perm.append_left _ List.perm_append_comm)
    have q6 : EqS s.f ((partsS (s.L.eraseIdx p) ++ e.l) ++ b.l) (partsS s.L ++ b.l) := q3.app (EqS.refl hb)
    refine ⟨e3.good, ((q1.trans q4).trans q5).trans q6, ?_, ?_⟩
    · have c1 : cntS s3.L ≤ cntS s2.L + 1 := e3.cnt
      have c2 : cntS s2.L ≤ cntS (s.L.eraseIdx p) + 1 := e2.cnt
      have c3 := ht.cnt
      omega
    · have c1 : wtS s3.L ≤ wtS s2.L + e.l.length := e3.wt
      have c2 : wtS s2.L ≤ wtS (s.L.eraseIdx p) + b.l.length := e2.wt
      have c3 := ht.wt
      omega
theorem first_in {base g p : Nat} {s : Sp} {b e : Bt} {w w4 : World} (h : PutIn base g s b w) (ht : TookOut s.f s.L p e) (hk : KeptK w w4 (SpS g s.lA)) (hwk : Wk w4 base g ⟨s.sA, s.sc, s.f, s.lA, s.lc, s.L.eraseIdx p⟩) : PutIn base g ⟨s.sA, s.sc, s.f, s.lA, s.lc, s.L.eraseIdx p⟩ b w4 :=
  ⟨hwk, ht.good, bt_kept h.bin h.boff hk, h.bok, h.boff, h.blo, h.right, h.later, by have h1 := ht.wt; have h2 := h.wt; show wtS (s.L.eraseIdx p) + b.l.length ≤ _; omega⟩
theorem second_in {base g p : Nat} {s s2 : Sp} {b e : Bt} {w w5 w6 : World} (h : PutIn base g s b w) (ht : TookOut s.f s.L p e) (o2 : PutOut base g ⟨s.sA, s.sc, s.f, s.lA, s.lc, s.L.eraseIdx p⟩ b.l 1 b.l.length w5 w6 s2) (hk : KeptK w5 w6 (SpS g s.lA)) (he : BtIn w5 w5.heap.size e) (eo : BtOk e) (ef : OfB (SpS g s.lA) e) (elo : BtLo base e) : PutIn base g s2 e w6 := by
  have hf : s2.f = s.f := o2.h3
  refine ⟨o2.wk, ?_, bt_kept he ef hk, eo, ?_, elo, ht.ok, ?_, ?_⟩
  · have := o2.put.good
    rw [hf]; exact this
  · refine (ef.or (bt_in he)).less fun k hk => ?_
    rcases hk with hk | hk
    · exact .inl (.inl hk)
    · rcases o2.lA with h' | ⟨q, h', hq⟩
      · exact .inl (.inr (by rw [← h']; exact hk))
      · rw [h'] at hk
        injection hk with hk
        exact .inr (by omega)
  · rw [hf]; exact ht.later
  · have c2 : wtS s2.L ≤ wtS (s.L.eraseIdx p) + b.l.length := o2.put.wt
    have c3 := ht.wt
    have c4 := h.wt
    omega
theorem spS_trans {g : Nat} {A A' : Option Addr} {w : World} (h : blkS A' = blkS A ∨ ∃ q, blkS A' = some q ∧ w.heap.size ≤ q) : ∀ b, b < w.heap.size → SpS g A' b → SpS g A b := fun b hb hs => by
  rcases hs with hs | hs
  · exact .inl hs
  · rcases h with h | ⟨q, h, hq⟩
    · exact .inr (by rw [← h]; exact hs)
    · rw [h] at hs
      injection hs with hs
      omega
theorem busy_pos {L : List Lv} {l : Lv} (h : l ∈ L) (hb : l.busy = true) : 0 < busyN L := by
  unfold busyN
  exact List.length_pos_of_mem (List.mem_filter.2 ⟨h, hb⟩)
theorem put_there {base g : Nat} {s : Sp} {b : Bt} {w : World} (h : PutIn base g s b w) (hno : ¬ ∀ l ∈ s.L, l.cls ≠ (clsN b.l.length : Int)) : ∃ l, s.L[posC s.L (clsN b.l.length : Int)]? = some l ∧ l.cls = (clsN b.l.length : Int) := by
  obtain ⟨l, hl⟩ : ∃ l, l ∈ s.L ∧ l.cls = (clsN b.l.length : Int) := by
    by_cases hx : ∃ l, l ∈ s.L ∧ l.cls = (clsN b.l.length : Int)
    · exact hx
    · exact absurd (fun l hl e => hx ⟨l, hl, e⟩) hno
  obtain ⟨i, hi⟩ := List.getElem?_of_mem hl.1
  have e : posC s.L (clsN b.l.length : Int) = i := by
    refine posC_is (fun x hx => ?_) hi (by omega)
    have h1 := h.good.fall
    have h2 := split_at' hi
    rw [h2] at h1
    have h3 := (List.pairwise_append.1 h1).2.2 x hx l List.mem_cons_self
    omega
  exact ⟨l, by rw [e]; exact hi, hl.2⟩
end Go.Proofs.YtenjlhlighkenaaGreat
namespace Go.Proofs.YtenjlhlighkenaaGreat
open Go Go.RowKit

set_option maxRecDepth 100000 in
set_option maxHeartbeats 12800000 in
theorem put_busy (n base g : Nat) (s : Sp) (b : Bt) (l : Lv) (w : World) (h : PutIn base g s b w) (hl : s.L[posC s.L (clsN b.l.length : Int)]? = some l) (hcl : l.cls = (clsN b.l.length : Int)) (hbusy : l.busy = true) (hn : busyN s.L ≤ n + 1)
    (IH : ∀ (s : Sp) (b : Bt) (w : World), PutIn base g s b w → busyN s.L ≤ n → Calls Tryz.prog 22 #[.pointer (some ⟨g, 0, none⟩), b.val] w (PutSays base g s b w)) :
    Calls Tryz.prog 22 #[.pointer (some ⟨g, 0, none⟩), b.val] w (PutSays base g s b w) := by
  have HIH := Lib.hid IH
  have HBN := Lib.hid hn
  have HBU := Lib.hid hbusy
  obtain ⟨V, hV, hvb, hvs, hvo⟩ := btbox w b
  obtain ⟨c, hc⟩ : ∃ c : Nat, clsN b.l.length = c := ⟨_, rfl⟩
  have y1 := Lib.hid (class_any b.uA b.uc b.l.length V h.bok.l.n)
  rw [hc] at y1
  obtain ⟨d0, d1⟩ := own2 hvo
  have H := Lib.hid h
  have HB := Lib.hid (And.intro hvb hvo)
  have HC := Lib.hid hc
  have hcn : c ≤ 41 := by rw [← hc]; exact cls_pow (by have := h.bok.l.n; omega)
  have hpl := posC_le s.L (c : Int)
  have hfew := h.good.few h.wk.ok.each_
  obtain ⟨p, hp⟩ : ∃ p : Nat, posC s.L (c : Int) = p := ⟨_, rfl⟩
  rw [hc] at hl hcl
  rw [hp] at hl hpl
  have hplt : p < s.L.length := (List.getElem?_eq_some_iff.1 hl).1
  have hn0 : c ≠ 0 := by have := h.good.pos l (List.mem_of_getElem? hl); omega
  have t0 : ((c : Int) == 0) = false := beq_eq_false_iff_ne.2 (by omega)
  have hpi : posI s.L (c : Int) = (p : Int) := by unfold posI; rw [hp, if_neg (by omega)]
  have y2 := fun (V2 : World) (bx : Nat) (hb : Below w.heap.size w V2) (hk : Kin V2 bx (c : Int)) => Lib.hid (indexS_any s.lA s.lc s.L bx (c : Int) V2 (h.wk.past hb).lies.head h.wk.ok.n hk)
  rw [hpi] at y2
  have t1 : ((p : Int) == (s.L.length : Int)) = false := beq_eq_false_iff_ne.2 (by omega)
  have t2 : decide (l.cls < (c : Int)) = false := decide_eq_false (by omega)
  have q0 : ¬ ((p : Int) < 0) := by omega
  have q1 : (0 : Int) ≤ (p : Int) := by omega
  have q2 : (p : Int) < (s.L.length : Int) := by omega
  obtain ⟨G, hGA⟩ : ∃ G : Nat, s.lA = some ⟨G, 0, none⟩ := by
    rcases row_ownK h.wk.row with ⟨_, h9, _⟩ | ⟨G, cur, hA, _⟩
    · omega
    · exact ⟨G, hA⟩
  have hGi : G < w.heap.size := (h.wk.lt G (.inr (by rw [hGA]; rfl))).2
  have HLV := Lib.hid (show ∀ W, Below w.heap.size w W → (∀ (j : Nat) (u : Value), l.cells[j]? = some u → W.cell? ⟨G, p * 10 + j, none⟩ = some u) from fun W hb j u hj => by
    have hW := h.wk.past hb
    obtain ⟨b', o', e, _, hcell⟩ := hW.lies.head (by omega)
    rw [hGA] at e
    simp only [Option.some.injEq, Addr.mk.injEq, and_true] at e
    obtain ⟨rfl, rfl⟩ := e
    have := hcell p l hl j u hj
    rwa [Nat.zero_add] at this)
  have HGA := Lib.hid hGA
  have HIDX := Lib.hid (And.intro hl (And.intro hcl hplt))
  have hLn := h.wk.ok.n
  rw [hGA] at y2
  rw [show b.val = .agg #[.slice b.sA b.f.length b.sc, .slice b.uA b.l.length b.uc] from rfl]
  clear h hvb hvs hvo hc hp hpi hpl hl hcl hplt hfew hn0 hGA
  clear IH hn
  go_enter Tryz.func22, Tryz.ntmps22
  go_upto_region 1 with fail
  rw [← hV]
  clear hV
  go_wp2_with fail
  refine y1.out.mono ?_
  rintro _ w1 ⟨rfl, b1⟩
  obtain ⟨V2, hV2, hs2, hb2, ho2⟩ := boxd w1 [.int .i64 (c : Int)] 3
  have b12 := belows b1 hb2
  have H2 := Lib.hid (And.intro (belows HB.out.1 b12) (And.intro (HB.out.2.past b12 HB.out.2.inside) (And.intro ho2 (show w.heap.size < w1.heap.size from Nat.lt_of_lt_of_le HB.out.2.inside b1.size))))
  have k0 : V2.cell? ⟨w1.heap.size, 0, none⟩ = some (.int .i64 (c : Int)) := ho2.at_ 0
  clear b1 hs2 hb2 ho2 y1 d0 d1 b12
  go_upto_region 2 with fail
  rw [← hV2]
  clear hV2
  have g0 : V2.cell? ⟨g, 1, none⟩ = some (.slice (some ⟨G, 0, none⟩) s.L.length s.lc) := by rw [← HGA.out]; exact (H.out.wk.past H2.out.1).own.at_ 1
  have hgi : g < V2.heap.size := (H.out.wk.past H2.out.1).own.inside
  have z2 := y2 V2 w1.heap.size H2.out.1 ⟨k0, H2.out.2.2.1.inside⟩
  go_wp2_with fail
  refine z2.out.mono ?_
  rintro _ w3 ⟨rfl, b3⟩
  have H3 := Lib.hid (And.intro (belows H2.out.1 b3) (And.intro (H2.out.2.1.past b3 H2.out.2.1.inside) (And.intro (H2.out.2.2.1.past b3 H2.out.2.2.1.inside) (And.intro H2.out.2.2.2 (Nat.lt_of_lt_of_le H2.out.2.2.1.inside b3.size)))))
  have k1 : w3.cell? ⟨w1.heap.size, 0, none⟩ = some (.int .i64 (c : Int)) := (b3.cell (p := ⟨w1.heap.size, 0, none⟩) H2.out.2.2.1.inside).trans k0
  have g1 : w3.cell? ⟨g, 1, none⟩ = some (.slice (some ⟨G, 0, none⟩) s.L.length s.lc) := (b3.cell (p := ⟨g, 1, none⟩) hgi).trans g0
  have hgi3 : g < w3.heap.size := Nat.lt_of_lt_of_le hgi b3.size
  obtain ⟨e0, e1⟩ := own2 H3.out.2.1
  clear b3 z2 k0 g0 hgi
  have hGi3 : G < w3.heap.size := Nat.lt_of_lt_of_le hGi H3.out.1.size
  have x1 := fun q : Past w3 => (q.h.cell (p := ⟨w1.heap.size, 0, none⟩) H3.out.2.2.2.2).trans k1
  have x3 := fun q : Past w3 => HLV.out q.w (belows H3.out.1 q.h) 0 _ rfl
  simp only [Nat.add_zero] at x3
  have x2 := fun q : Past w3 => (q.h.cell (p := ⟨g, 1, none⟩) hgi3).trans g1
  go_upto_region 7 with fail
  refine wp_region_past w3 (by kernel_rfl) (by kernel_rfl) (Below.refl _ _) ?_
  repeat (first | go_big_quiet_step (fail) | quiet_step (fail))
  refine wpQuiet_nil ?_
  intro wz hw'
  obtain ⟨⟨wy, hbz⟩, hw''⟩ := hw'
  dsimp only at hw''
  subst hw''
  have HZ3 := Lib.hid (And.intro (belows H3.out.1 hbz) (And.intro (H3.out.2.1.past hbz H3.out.2.1.inside) (H3.out.2.2.1.past hbz H3.out.2.2.1.inside)))
  have HW1 := Lib.hid H3.out.2.2.2.1
  have g1 := x2 ⟨wz, hbz⟩
  have k1 := (hbz.cell (p := ⟨w1.heap.size, 0, none⟩) H3.out.2.2.2.2).trans k1
  have hgi3 : g < wz.heap.size := Nat.lt_of_lt_of_le hgi3 hbz.size
  obtain ⟨e0, e1⟩ := own2 (H3.out.2.1.past hbz H3.out.2.1.inside)
  dsimp only at g1
  clear x1 x2 x3 hbz hGi3
  go_upto_region 10 with fail
  obtain ⟨r0, r1, r2, r3, r4, r5, r6, r7, r8, r9⟩ := lv_ten (HLV.out wz HZ3.out.1)
  have hGz : G < wz.heap.size := Nat.lt_of_lt_of_le hGi HZ3.out.1.size
  obtain ⟨V5, hV5, hb5, hs5, ho5⟩ := lvbox wz l
  obtain ⟨f0, f1, f2, f3, f4, f5, f6, f7, f8, f9⟩ := own10 ho5
  have H5 := Lib.hid (And.intro (belows HZ3.out.1 hb5) (And.intro (HZ3.out.2.1.past hb5 HZ3.out.2.1.inside) (And.intro ho5 trivial)))
  rw [hbusy] at r1 f1 hV5
  go_upto_region 11 with fail
  rw [← hV5]
  clear hV5 r0 r1 r2 r3 r4 r5 r6 r7 r8 r9 e0 e1 g1 k1 hgi3
  have hwk5 := H.out.wk.past H5.out.1
  have hLl := List.mem_of_getElem? HIDX.out.1
  have hgd := (H.out.good.each l hLl).busy hbusy
  have hlv := hwk5.lev l hLl
  have hlo := hwk5.ok.each_ l hLl
  have hwt := H.out.wt
  have hwl := wt_le hLl
  have hwtl : wtL l = max (l.m.a.length + l.m.b.length) (partsM l.m).length := by unfold wtL; rw [if_pos hbusy]
  have hpo : l.m.o.length ≤ (partsM l.m).length := by unfold partsM; rw [List.length_append, List.length_append]; omega
  have na : l.m.a.length ≤ 274877906944 := by omega
  have nb : l.m.b.length ≤ 274877906944 := by omega
  have no : l.m.o.length ≤ 274877906944 := by omega
  have z := Lib.hid (work_any l.m 9223372036854775807 V5 hlv.m hlo.m na nb no)
  have HK5 := Lib.hid (And.intro hgd (And.intro hlo (And.intro na (And.intro nb no))))
  obtain ⟨r0, r1, r2, r3, r4, r5, r6, r7, r8, r9⟩ := lv_ten (HLV.out V5 H5.out.1)
  have g1 : V5.cell? ⟨g, 1, none⟩ = some (.slice (some ⟨G, 0, none⟩) s.L.length s.lc) := by rw [← HGA.out]; exact hwk5.own.at_ 1
  unfold Mg.val at z
  clear hwk5 hLl hgd hlv hlo hwt hwl hwtl hpo na nb no f0 f2 f3 f4 f5 f6 f7 f8 f9 hb5 ho5 hs5
  go_wp2_with fail
  refine z.out.mono ?_
  rintro _ w6 ⟨m', cc, E, rfl, hw, im, om, lm, b6⟩
  have hwork : WorkOk l.m m' 9223372036854775807 cc E := by
    rcases hw with ⟨h1, _⟩ | ⟨_, h1⟩
    · exact absurd HK5.out.1.2.2.1 h1
    · exact h1
  have hfe := full_end hwork HK5.out.1.2.2.1 HK5.out.2.1.m.o.ok HK5.out.2.2.1 HK5.out.2.2.2.1
  obtain ⟨V6, hV6, hb6, hs6, ho6⟩ := mgbox w6 m'
  have b66 := belows b6 hb6
  have H6 := Lib.hid (And.intro (belows H5.out.1 b66) (And.intro (H5.out.2.1.past b66 H5.out.2.1.inside) (And.intro ho6 (And.intro (im.keep hb6) (And.intro om (And.intro hwork (And.intro hs6 lm)))))))
  obtain ⟨d0, d1, d2, d3, d4, d5⟩ := own6 ho6
  unfold Mg.val
  clear hw im om lm b6 b66 hb6 hs6 ho6 hwork r0 r1 r2 r3 r4 r5 r6 r7 r8 r9 g1 z f1
  go_upto_region 16 with fail
  rw [← hV6]
  clear hV6
  by_cases hE : E = 0
  case neg =>
    have tE : (E != 0) = true := bne_iff_ne.2 hE
    have HE := Lib.hid (show E = 10 ∧ FailS s.L from by
      rcases hfe with ⟨h1, _⟩ | h1
      · exact absurd h1 hE
      · exact ⟨h1.1, by have := busy_pos (List.mem_of_getElem? HIDX.out.1) HBU.out; omega, fun _ => ⟨l, List.mem_of_getElem? HIDX.out.1, HBU.out, h1.2⟩⟩)
    clear hfe hE
    go_wp2_with fail
    go_ret
    exact ⟨E, rfl, KeptK.of_below H6.out.1 (Nat.le_refl _) _, .inr HE.out⟩
  subst hE
  have hfe2 : leftM m' = 0 ∧ EndOk m' := by
    rcases hfe with ⟨_, h1⟩ | h1
    · exact h1
    · exact absurd h1.1 (by decide)
  have hpo : m'.o.length ≤ 274877906944 := by
    obtain ⟨k, _, _, _, _, _, hlen⟩ := work_gen H6.out.2.2.2.2.2.1 HK5.out.1.2.2.1 HK5.out.2.1.m.o.ok
    have hwl := wt_le (List.mem_of_getElem? HIDX.out.1)
    have hwt := H.out.wt
    have hwtl : wtL l = max (l.m.a.length + l.m.b.length) (partsM l.m).length := by unfold wtL; rw [if_pos hbusy]
    have hp2 : m'.o.length ≤ (partsM m').length := by unfold partsM; rw [List.length_append, List.length_append]; omega
    omega
  have hof : OfM (SpS g s.lA) m' := H6.out.2.2.2.2.2.2.2.of fun k hk => ((H.out.wk.past H5.out.1).lt k hk).2
  have z := Lib.hid (ends_any base g p s m' V6 (H.out.wk.past H6.out.1) HIDX.out.2.2 H6.out.2.2.2.1 H6.out.2.2.2.2.1 hof hpo hfe2.2)
  have HF := Lib.hid hfe2
  unfold Mg.val at z
  clear hfe hfe2 hpo hof
  go_wp2_with fail
  refine z.out.mono ?_
  rintro _ w7 ⟨e, rfl, hwk7, hk7, hef, hel, ie, oe, le⟩
  have ht : TookOut s.f s.L p e := take_out H.out.good HIDX.out.1 HBU.out HK5.out.2.1.m.o.ok H6.out.2.2.2.2.2.1 rfl HF.out.1 hef hel
  have hkw : KeptK w w7 (SpS g s.lA) := (KeptK.of_below H6.out.1 (Nat.le_refl _) (SpS g s.lA)).trans hk7 (fun _ _ e => e)
  obtain ⟨V7, hV7, hb7, hs7, ho7⟩ := btbox w7 e
  have hin := (first_in (H.out) ht hkw hwk7).past hb7
  have hab : ∀ x ∈ s.L.eraseIdx p, x.cls ≠ (clsN b.l.length : Int) := fun x hx => by
    rw [HC.out]
    have h1 := H.out.good.fall
    have h2 := split_at' HIDX.out.1
    rw [h2] at h1
    have h3 := List.pairwise_append.1 h1
    rw [List.eraseIdx_eq_take_drop_succ] at hx
    have h4 := HIDX.out.2.1
    rcases List.mem_append.1 hx with hx | hx
    · have := h3.2.2 x hx l List.mem_cons_self; omega
    · have := (List.pairwise_cons.1 h3.2.1).1 x hx; omega
  have z2 := Lib.hid (put_absent base g _ b V7 hin hab)
  have ob7 := hk7.own H6.out.2.1 (fun hs => by have := ((H.out.wk).lt _ hs).2; omega)
  have ob8 := ob7.past hb7 ob7.inside
  obtain ⟨e0, e1⟩ := own2 ob8
  have H7 := Lib.hid (And.intro hkw (And.intro ht (And.intro (ie.keep hb7) (And.intro oe (And.intro (le.of (fun k hk => ((H.out.wk.past H6.out.1).lt k hk).2) : OfB (SpS g s.lA) e) (And.intro ho7 (And.intro hb7 (Nat.le_trans H6.out.1.size (hk7.size)))))))))
  have HLE := Lib.hid (le.mono (Nat.le_trans H.out.wk.base_ H6.out.1.size) : BtLo base e)
  unfold Bt.val at z2 ⊢
  clear hwk7 hk7 hef hel ie oe le ht hkw hb7 hs7 ho7 hin hab ob7 ob8 d0 d1 d2 d3 d4 d5 z
  go_upto_region 19 with fail
  rw [← hV7]
  clear hV7
  go_wp2_with fail
  refine z2.out.mono ?_
  rintro _ w8 ⟨rfl, hk8, s2, o2, hbn⟩
  have hin2 := second_in H.out H7.out.2.1 o2 hk8 H7.out.2.2.1 H7.out.2.2.2.1 H7.out.2.2.2.2.1 HLE.out
  have z3 := Lib.hid (HIH.out s2 e w8 hin2 (by have h1 := H7.out.2.1.busy; have h2 := HBN.out; rw [hbn]; show busyN (s.L.eraseIdx p) ≤ n; omega))
  have oe8 := hk8.own H7.out.2.2.2.2.2.1 (fun hs => by have := ((H.out.wk).lt _ hs).2; have := H7.out.2.2.2.2.2.2.2; omega)
  obtain ⟨d0, d1⟩ := own2 oe8
  have H8 := Lib.hid (And.intro o2 (And.intro hk8 hbn))
  unfold Bt.val at z3
  clear hk8 o2 hbn hin2 oe8 e0 e1 z2
  go_wp2_with fail
  refine z3.out.mono ?_
  rintro _ w9 ⟨E9, rfl, hk9, h9⟩
  have hw7 := H7.out.2.2.2.2.2.2.2
  have hw8 : w.heap.size ≤ w8.heap.size := Nat.le_trans (Nat.le_trans hw7 H7.out.2.2.2.2.2.2.1.size) H8.out.2.1.size
  have hk07 : KeptK w V7 (SpS g s.lA) := H7.out.1.trans (KeptK.of_below H7.out.2.2.2.2.2.2.1 (Nat.le_refl _) (SpS g s.lA)) (fun _ _ e => e)
  have hk08 : KeptK w w8 (SpS g s.lA) := hk07.trans H8.out.2.1 (fun _ _ e => e)
  have hlA : blkS s2.lA = blkS s.lA ∨ ∃ q, blkS s2.lA = some q ∧ w.heap.size ≤ q := by
    rcases H8.out.1.lA with h' | ⟨q, h', hq⟩
    · exact .inl h'
    · exact .inr ⟨q, h', Nat.le_trans (Nat.le_trans hw7 H7.out.2.2.2.2.2.2.1.size) hq⟩
  have hk09 : KeptK w w9 (SpS g s.lA) := hk08.trans hk9 (spS_trans hlA)
  have HZ := Lib.hid (show PutSays base g s b w (.returned (.int .i64 E9)) w9 from ⟨E9, rfl, hk09, by
    rcases h9 with ⟨h1, s3, o3⟩ | h1
    · exact .inl ⟨h1, s3, put_both H.out.good H7.out.2.1 H8.out.1 (Nat.le_trans hw7 H7.out.2.2.2.2.2.2.1.size) hw8 o3 H8.out.2.2⟩
    · exact .inr ⟨h1.1, by have := H7.out.2.1.busy; omega, fun hb1 => by have h2 := H7.out.2.1.busy; have h3 := H8.out.2.2; have h4 := h1.2.1; rw [h3] at h4; have h5 : busyN (s.L.eraseIdx p) ≠ 0 := h4; omega⟩⟩)
  clear hk9 h9 hw7 hw8 hk07 hk08 hlA hk09 d0 d1 z3
  go_wp2_with fail
  go_ret
  exact HZ.out
theorem put_any (base g : Nat) : ∀ (n : Nat) (s : Sp) (b : Bt) (w : World), PutIn base g s b w → busyN s.L ≤ n → Calls Tryz.prog 22 #[.pointer (some ⟨g, 0, none⟩), b.val] w (PutSays base g s b w) := by
  intro n
  induction n with
  | zero =>
    intro s b w h hn
    by_cases hno : ∀ l ∈ s.L, l.cls ≠ (clsN b.l.length : Int)
    · exact (put_absent base g s b w h hno).mono fun _ _ k => k.says
    · obtain ⟨l, hl, hcl⟩ := put_there h hno
      refine put_idle base g s b l w h hl hcl ?_
      cases hb : l.busy
      · rfl
      · have := busy_pos (List.mem_of_getElem? hl) hb; omega
  | succ n ih =>
    intro s b w h hn
    by_cases hno : ∀ l ∈ s.L, l.cls ≠ (clsN b.l.length : Int)
    · exact (put_absent base g s b w h hno).mono fun _ _ k => k.says
    · obtain ⟨l, hl, hcl⟩ := put_there h hno
      cases hb : l.busy
      · exact put_idle base g s b l w h hl hcl hb
      · exact put_busy n base g s b l w h hl hcl hb hn ih
end Go.Proofs.YtenjlhlighkenaaGreat
