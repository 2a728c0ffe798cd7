/- Part 11 of the texts on which BatchMerges rests: facts and contracts. -/
import Derived.Test.YtllpfngmnccejaaGreatBatchMergesM10
import Derived.Lib.Bytealg
import Derived.Laws.CopyRow
import Derived.Laws.CopyOwn
import Derived.OwnWalk
import Derived.Lib.AppendZerosOnto
import Derived.Lib.Overlaps
import Derived.Laws.Externs
namespace Go.Proofs.YtllpfngmnccejaaGreat
open Go Go.RowKit

/-- block P is as it was -/
def Hp (P : Nat) (V w : World) : Prop := w.heap[P]? = V.heap[P]?
theorem Hp.refl (P : Nat) (V : World) : Hp P V V := rfl
theorem Hp.set {P R : Nat} {V w : World} (h : Hp P V w) (hR : R ≠ P) (i : Nat) (v : Value) : Hp P V (w.setCell ⟨R, i, none⟩ v) := (Below.heap_setCell w ⟨R, i, none⟩ v P (Ne.symm hR)).trans h
theorem Hp.drew {P : Nat} {V w : World} (h : Hp P V w) : Hp P V w.drew := h
theorem Hp.cell {P i : Nat} {V w : World} {v : Value} (h : Hp P V w) (hc : V.cell? ⟨P, i, none⟩ = some v) : w.cell? ⟨P, i, none⟩ = some v := by
  rw [← hc]
  unfold World.cell?
  rw [show w.heap[P]? = V.heap[P]? from h]
theorem mok_sm {m : Mg} (h : MOk m) (na : m.a.length ≤ 274877906944) (nb : m.b.length ≤ 274877906944) (no : m.o.length ≤ 274877906944) : MgSm m := ⟨h.even.1.2.2, h.even.2.1.2.2, h.even.2.2.2.2, na, nb, no⟩
theorem out_fine {base P R i j k oc : Nat} {m : Mg} {oA : Option Addr} {o : List Up} {w X : World} (h : WSt base P m i j k (.slice oA o.length oc) o w) (hlo : MgLo base m) (hR : R < base) (hs : X.heap.size = w.heap.size) (hX : ∀ b, b ≠ R → X.heap[b]? = w.heap[b]?) : MgIn X X.heap.size (outM m i j oA oc o) ∧ MgLo base (outM m i j oA oc o) := by
  have hl : Lies 6 Up.cells w w.heap.size oA o := by
    obtain ⟨A, c, e, _, _, hh⟩ := lies_of_own (size := 6) (cells := Up.cells) (by decide) ucells_len rfl h.row
    simp only [Value.slice.injEq] at e
    rw [e.1]; exact hh
  have hob : ∀ b o', oA = some (⟨b, o', none⟩ : Addr) → base ≤ b := fun b o' e => by
    subst e
    exact (h.row.lt b rfl).1
  have hlo2 : Lo base oA o := ⟨hob, h.lo⟩
  exact ⟨⟨ups_other h.a (hlo.a.mono (by omega)) hs hX, ups_other h.b (hlo.b.mono (by omega)) hs hX, times_other h.f (hlo.f.mono (by omega)) hs hX, ups_other ⟨hl, h.o_⟩ (hlo2.mono (by omega)) hs hX⟩, ⟨hlo.a, hlo.b, hlo.f, hlo2⟩⟩
theorem wk_box (w : World) (m : Mg) : ∃ V, V = (w.alloc (.cells #[.slice m.aA m.a.length m.ac, .slice m.bA m.b.length m.bc, .int .i64 m.i, .int .i64 m.j, .slice m.sA m.f.length m.sc, .slice m.oA m.o.length m.oc] 25)).alloc (.cells #[.slice none 0 0, .slice none 0 0, .int .i64 0, .int .i64 0, .slice none 0 0, .slice none 0 0] 25) ∧ Below w.heap.size w V ∧ Own V w.heap.size 25 m.cells ∧ Own V (w.heap.size + 1) 25 Mg.nil.cells := mg_box2 w m
set_option maxRecDepth 100000 in
set_option maxHeartbeats 12800000 in
theorem work_any (m : Mg) (fuel : Int) (w : World) (hm : MgIn w w.heap.size m) (hok : MgOk m) (na : m.a.length ≤ 274877906944) (nb : m.b.length ≤ 274877906944) (no : m.o.length ≤ 274877906944) :
    Calls Tryz.prog 8 #[m.val, .int .i64 fuel] w (Worked m fuel w) := by
  obtain ⟨V, hV, hvb, hvo, hvz⟩ := wk_box w m
  have hin := hm.keep hvb
  have y1 := Lib.hid (checkM_any m V hin hok)
  have HB := Lib.hid (And.intro hvb (And.intro hvo hvz))
  have HK := Lib.hid (And.intro hin (And.intro hok (And.intro na (And.intro nb no))))
  have hmv : m.val = .agg #[.slice m.aA m.a.length m.ac, .slice m.bA m.b.length m.bc, .int .i64 m.i, .int .i64 m.j, .slice m.sA m.f.length m.sc, .slice m.oA m.o.length m.oc] := rfl
  rw [hmv] at y1 ⊢
  obtain ⟨d0, d1, d2, d3, d4, d5⟩ := own6 hvo
  clear hm hok hvb hvo hvz hin hmv na nb no
  go_enter Tryz.func8, Tryz.ntmps8
  go_upto_region 1 with fail
  rw [← hV]
  clear hV
  go_wp2_with fail
  refine y1.out.mono ?_
  rintro _ w1 ⟨n, rfl, hn, b1⟩
  have H1 := Lib.hid (And.intro hn (And.intro (HB.out.1.trans (b1.mono HB.out.1.size)) (And.intro (HB.out.2.1.past b1 HB.out.2.1.inside) (And.intro (HB.out.2.2.past b1 HB.out.2.2.inside) (HK.out.1.keep b1)))))
  clear d0 d1 d2 d3 d4 d5 b1 y1 hn
  by_cases h0 : n = 0
  case neg =>
    have t1 : (n != 0) = true := bne_iff_ne.2 h0
    obtain ⟨f0, f1, f2, f3, f4, f5⟩ := own_frozen6 H1.out.2.2.2.1
    obtain ⟨z0, z1, z2, z3, z4, z5⟩ := own6 H1.out.2.2.2.1
    obtain ⟨X, hX', hXo, hXb, hXs, hXh⟩ := own_six H1.out.2.2.2.1 (.slice none 0 0) (.slice none 0 0) (.int .i64 0) (.int .i64 0) (.slice none 0 0) (.slice none 0 0)
    have HX := Lib.hid (And.intro (hXb w.heap.size w H1.out.2.1 (by omega)) hXo)
    have HR := Lib.hid hX'
    have H0 := Lib.hid h0
    clear hXo hXb hXs hXh hX' h0
    go_wp2_with fail
    rw [← HR.out]
    obtain ⟨x0, x1, x2, x3, x4, x5⟩ := own6 HX.out.2
    exact bodyPost_ret (v := .tuple #[.agg #[.slice none 0 0, .slice none 0 0, .int .i64 0, .int .i64 0, .slice none 0 0, .slice none 0 0], .int .i64 0, .int .i64 n]) (by simp [results, Tryz.results8, go_sem, x0, x1, x2, x3, x4, x5]) rfl ⟨Mg.nil, 0, n, rfl, .inl (by
      rcases H1.out.1 with ⟨_, e⟩ | ⟨e, e2⟩
      · exact absurd e H0.out
      · exact ⟨e, rfl, rfl, e2⟩), mg_nil_in _ _, mg_nil_ok, mg_nil_lo _, HX.out.1⟩
  subst h0
  have hmok : MOk m := by
    rcases H1.out.1 with ⟨e, _⟩ | ⟨_, e⟩
    · exact e
    · omega
  have y2 := Lib.hid (copyM_any m w1 H1.out.2.2.2.2 HK.out.2.1 (mok_sm hmok HK.out.2.2.1 HK.out.2.2.2.1 HK.out.2.2.2.2))
  obtain ⟨d0, d1, d2, d3, d4, d5⟩ := own6 H1.out.2.2.1
  have HM := Lib.hid hmok
  rw [show m.val = .agg #[.slice m.aA m.a.length m.ac, .slice m.bA m.b.length m.bc, .int .i64 m.i, .int .i64 m.j, .slice m.sA m.f.length m.sc, .slice m.oA m.o.length m.oc] from rfl] at y2
  clear hmok
  go_wp2_with fail
  refine y2.out.mono ?_
  rintro _ w2 ⟨m1, rfl, hs1, hi1, ho1, hl1, b2, ha1⟩
  clear d0 d1 d2 d3 d4 d5 y2
  -- loop
  unfold Mg.val
  obtain ⟨i1, hi1'⟩ : ∃ i : Nat, m1.i = (i : Int) := ⟨m1.i.toNat, by have := HM.out.da.lo; rw [hs1.i]; omega⟩
  obtain ⟨j1, hj1'⟩ : ∃ j : Nat, m1.j = (j : Int) := ⟨m1.j.toNat, by have := HM.out.db.lo; rw [hs1.j]; omega⟩
  have hi1l : i1 ≤ m1.a.length := by have := HM.out.da.hi; have h3 := hs1.i; rw [len_p hs1.a]; omega
  have hj1l : j1 ≤ m1.b.length := by have := HM.out.db.hi; have h3 := hs1.j; rw [len_p hs1.b]; omega
  rw [hi1', hj1']
  obtain ⟨V2, hV2⟩ : ∃ V2, V2 = w2.alloc (.cells #[.slice m1.aA m1.a.length m1.ac, .slice m1.bA m1.b.length m1.bc, .int .i64 (i1 : Int), .int .i64 (j1 : Int), .slice m1.sA m1.f.length m1.sc, .slice m1.oA m1.o.length m1.oc, .int .i64 0] 72) := ⟨_, rfl⟩
  have hst0 := wst_start hi1 ho1 ha1 hi1' hj1' b2.size hl1 hV2
  have hbV2 : Below w1.heap.size w2 V2 := by rw [hV2]; exact (Below.refl _ _).alloc b2.size _
  have hla := len_p hs1.a
  have hlb := len_p hs1.b
  have hlo := len_p hs1.o
  have hnA : m1.a.length ≤ 274877906944 := by rw [hla]; exact HK.out.2.2.1
  have hnB : m1.b.length ≤ 274877906944 := by rw [hlb]; exact HK.out.2.2.2.1
  have hnO : m1.o.length ≤ 274877906944 := by rw [hlo]; exact HK.out.2.2.2.2
  have hRz := (H1.out.2.2.2.1.past b2 H1.out.2.2.2.1.inside).past hbV2 H1.out.2.2.2.1.inside
  have hNl : (m.a.length - m.i.toNat) + (m.b.length - m.j.toNat) = (m1.a.length - i1) + (m1.b.length - j1) := by have h3 := hs1.i; have h4 := hs1.j; rw [hla, hlb]; omega
  have hii : m.i.toNat = i1 := by have h3 := hs1.i; omega
  have hjj : m.j.toNat = j1 := by have h3 := hs1.j; omega
  have H2 := Lib.hid (And.intro (And.intro H1.out.2.1.size H1.out.2.2.2.1.inside) (And.intro (show Below w.heap.size w V2 from (H1.out.2.1.trans (b2.mono H1.out.2.1.size)).trans (hbV2.mono H1.out.2.1.size)) (And.intro hRz (And.intro ho1 (And.intro hs1 (And.intro hl1 (And.intro ha1 (And.intro (And.intro hNl (And.intro hii hjj)) hst0))))))))
  have hP2 : w2.heap.size < V2.heap.size := hst0.own.inside
  obtain ⟨P, hP⟩ : ∃ P, P = w2.heap.size := ⟨_, rfl⟩
  have HST := Lib.hid (show WSt w1.heap.size P m1 i1 j1 0 (.slice m1.oA m1.o.length m1.oc) m1.o V2 from hP ▸ hst0)
  clear hs1 hi1 ho1 hl1 b2 ha1 hi1' hj1' hst0 hbV2 hla hlb hlo hRz hNl hii hjj hP2
  go_wp2_with fail
  rw [← hV2, ← hP]
  clear hV2 hP
  go_loopw [9] (fun _ wr => ∃ (i j k : Nat) (v : Value) (o : List Up) (n : Nat), WSt w1.heap.size P m1 i j k v o wr ∧ Below w1.heap.size V2 wr ∧ i ≤ m1.a.length ∧ j ≤ m1.b.length ∧ k ≤ i + j ∧ o.length + (m1.a.length - i) + (m1.b.length - j) ≤ 824633720832 ∧
      workM m1.f fuel ((m1.a.length - i1) + (m1.b.length - j1)) (curM m1 i1 j1 0 m1.o) = workM m1.f fuel n (curM m1 i j k o) ∧ (m1.a.length - i) + (m1.b.length - j) ≤ n)
    (fun _ wr => m1.a.length + m1.b.length - ((intOf ((wr.cell? ⟨P, 2, none⟩).getD undef)).toNat + (intOf ((wr.cell? ⟨P, 3, none⟩).getD undef)).toNat))
  case atStart => exact ⟨i1, j1, 0, _, m1.o, _, HST.out, Below.refl _ _, hi1l, hj1l, by omega, by omega, rfl, Nat.le_refl _⟩
  case round =>
    obtain ⟨i, j, k, v, o, n, hws, hbv, hi, hj, hk, hsz, hw, hn⟩ := hrel
    obtain ⟨oA, oc, hv, _, _, _⟩ := lies_of_own (size := 6) (cells := Up.cells) (by decide) ucells_len rfl hws.row
    subst hv
    obtain ⟨wi, hwi⟩ : ∃ wi, wi = wr := ⟨_, rfl⟩
    subst hwi
    have y1 := Lib.hid (left_any P m1 i j k _ wi hws.own (by omega) (by omega) (by omega) (by omega))
    have HN := Lib.hid (And.intro hi (And.intro hj (And.intro hk (And.intro hsz (And.intro hw hn)))))
    have HW := Lib.hid (And.intro hws hbv)
    clear hws hbv hw
    have HC := Lib.hid (show WSt w1.heap.size P m1 i j k (.slice oA o.length oc) o wi ∧ Below w1.heap.size V2 wi from HW.out)
    obtain ⟨c0, c1, c2, c3, c4, c5, c6⟩ := own7 HC.out.1.own
    by_cases hlf : i < m1.a.length ∨ j < m1.b.length
    case neg =>
      have hD : decide (i < m1.a.length ∨ j < m1.b.length) = false := decide_eq_false hlf
      rw [hD] at y1
      have HE := Lib.hid (show workM m1.f fuel n (curM m1 i j k o) = { curM m1 i j k o with E := 0 } from work_none (cur_none (by omega) (by omega)) n)
      clear hD hlf c0 c1 c2 c3 c4 c5 c6
      go_wp2_with fail
      refine y1.out.mono ?_
      rintro _ wl ⟨rfl, q, hq⟩
      have h9 : WSt w1.heap.size P m1 i j k (.slice oA o.length oc) o wl := hq ▸ HC.out.1.past (below_draws (Below.refl _ _) q)
      have b9 : Below w1.heap.size V2 wl := hq ▸ below_draws HC.out.2 q
      have HQ := Lib.hid (And.intro h9 b9)
      have hC := fun p : Past wl => own7 ((h9.past p.h).own)
      clear hq h9 b9 y1
      have hwt := hC ⟨wl, Below.refl _ _⟩
      obtain ⟨c0, c1, c2, c3, c4, c5, c6⟩ := hwt
      dsimp only at c0 c1 c2 c3 c4 c5 c6
      have HS := Lib.hid (fun W (h : Hp P wl W) => (⟨h.cell c0, h.cell c1, h.cell c2, h.cell c3, h.cell c4, h.cell c5, h.cell c6⟩ : W.cell? ⟨P, 0, none⟩ = some (.slice m1.aA m1.a.length m1.ac) ∧ W.cell? ⟨P, 1, none⟩ = some (.slice m1.bA m1.b.length m1.bc) ∧ W.cell? ⟨P, 2, none⟩ = some (.int .i64 (i : Int)) ∧ W.cell? ⟨P, 3, none⟩ = some (.int .i64 (j : Int)) ∧ W.cell? ⟨P, 4, none⟩ = some (.slice m1.sA m1.f.length m1.sc) ∧ W.cell? ⟨P, 5, none⟩ = some (.slice oA o.length oc) ∧ W.cell? ⟨P, 6, none⟩ = some (.int .i64 (k : Int))))
      have hself := Hp.refl P wl
      have hRP : w.heap.size + 1 ≠ P := by have h1 := H2.out.1.2; have h2 := HST.out.base_; omega
      have hwz := (H2.out.2.2.1.past HQ.out.2 (by have := H2.out.1.2; omega))
      obtain ⟨f0, f1, f2, f3, f4, f5⟩ := own_frozen6 hwz
      obtain ⟨z0, z1, z2, z3, z4, z5⟩ := own6 hwz
      clear hwz
      go_upto_region 9 with fail
      have HDR := Lib.hid (Below.drew (Below.refl wl.heap.size wl))
      go_region_held3 (fun w' => Hp P wl w' ∧ (w'.cell? ⟨P, 0, none⟩ = some (.slice m1.aA m1.a.length m1.ac) ∧ w'.cell? ⟨P, 1, none⟩ = some (.slice m1.bA m1.b.length m1.bc) ∧ w'.cell? ⟨P, 2, none⟩ = some (.int .i64 (i : Int)) ∧ w'.cell? ⟨P, 3, none⟩ = some (.int .i64 (j : Int)) ∧ w'.cell? ⟨P, 4, none⟩ = some (.slice m1.sA m1.f.length m1.sc) ∧ w'.cell? ⟨P, 5, none⟩ = some (.slice oA o.length oc) ∧ w'.cell? ⟨P, 6, none⟩ = some (.int .i64 (k : Int))))
        ((refine (fun h => And.intro h (HS.out _ h)) ?_; repeat (first | with_reducible exact hself | with_reducible refine Hp.set ?_ hRP _ _ | with_reducible refine Hp.drew ?_)))
        (fail)
      clear c0 c1 c2 c3 c4 c5 c6 f0 f1 f2 f3 f4 f5 z0 z1 z2 z3 z4 z5 hself
      have hz := (H2.out.2.2.1.past HQ.out.2 (by have := H2.out.1.2; omega))
      have hst := HQ.out.1
      have hbb := HQ.out.2
      obtain ⟨X, hX', hXo, hXb, hXs, hXh⟩ := own_six hz (.slice m1.aA m1.a.length m1.ac) (.slice m1.bA m1.b.length m1.bc) (.int .i64 (i : Int)) (.int .i64 (j : Int)) (.slice m1.sA m1.f.length m1.sc) (.slice oA o.length oc)
      obtain ⟨r1, r2⟩ := out_fine (R := w.heap.size + 1) hst H2.out.2.2.2.2.2.1 H2.out.1.2 hXs hXh
      have HX := Lib.hid (And.intro (Below.drew (hXb w.heap.size w (H2.out.2.1.trans (hbb.mono H2.out.1.1)) (by omega))) (And.intro (own_drew' hXo) (And.intro (show MgIn X.drew X.drew.heap.size (outM m1 i j oA oc o) from r1.keep (Below.drew (Below.refl _ _))) (r2.mono H2.out.1.1))))
      have HR := Lib.hid hX'
      clear hst hbb hz hXo hXb hXs hXh hX' hC r1 r2 HS HDR
      go_wp2_with fail
      rw [← HR.out]
      obtain ⟨x0, x1, x2, x3, x4, x5⟩ := own6 HX.out.2.1
      exact bodyPost_ret (v := .tuple #[.agg #[.slice m1.aA m1.a.length m1.ac, .slice m1.bA m1.b.length m1.bc, .int .i64 (i : Int), .int .i64 (j : Int), .slice m1.sA m1.f.length m1.sc, .slice oA o.length oc], .int .i64 (k : Int), .int .i64 0]) (by simp [results, Tryz.results8, go_sem, x0, x1, x2, x3, x4, x5]) rfl ⟨outM m1 i j oA oc o, k, 0, rfl, .inr ⟨HM.out, ⟨H2.out.2.2.2.2.1.a, H2.out.2.2.2.2.1.b, H2.out.2.2.2.2.1.f, work_fin H2.out.2.2.2.2.1 HN.out.2.2.2.2.1 HN.out.1 HN.out.2.1 H2.out.2.2.2.2.2.2.2.1 HE.out⟩⟩, HX.out.2.2.1, ⟨H2.out.2.2.2.1.a, H2.out.2.2.2.1.b, H2.out.2.2.2.1.f, ⟨by have := HN.out.2.2.2.1; show o.length ≤ _; omega, HQ.out.1.ok⟩, ⟨by show -9223372036854775808 ≤ (i : Int); omega, by show (i : Int) ≤ 9223372036854775807; omega⟩, ⟨by show -9223372036854775808 ≤ (j : Int); omega, by show (j : Int) ≤ 9223372036854775807; omega⟩⟩, HX.out.2.2.2, HX.out.1⟩
    have hD : decide (i < m1.a.length ∨ j < m1.b.length) = true := decide_eq_true hlf
    rw [hD] at y1
    by_cases hf : (k : Int) < fuel
    case neg =>
      have t1 : decide ((k : Int) < fuel) = false := decide_eq_false hf
      have HE := Lib.hid (show workM m1.f fuel n (curM m1 i j k o) = { curM m1 i j k o with E := 0 } from work_full hf n)
      clear hD hlf hf c0 c1 c2 c3 c4 c5 c6
      go_wp2_with fail
      refine y1.out.mono ?_
      rintro _ wl ⟨rfl, q, hq⟩
      have h9 : WSt w1.heap.size P m1 i j k (.slice oA o.length oc) o wl := hq ▸ HC.out.1.past (below_draws (Below.refl _ _) q)
      have b9 : Below w1.heap.size V2 wl := hq ▸ below_draws HC.out.2 q
      have HQ := Lib.hid (And.intro h9 b9)
      have hC := fun p : Past wl => own7 ((h9.past p.h).own)
      obtain ⟨c0, c1, c2, c3, c4, c5, c6⟩ := own7 h9.own
      clear hq h9 b9 y1
      have hwt := hC ⟨wl, Below.refl _ _⟩
      obtain ⟨c0, c1, c2, c3, c4, c5, c6⟩ := hwt
      dsimp only at c0 c1 c2 c3 c4 c5 c6
      have HS := Lib.hid (fun W (h : Hp P wl W) => (⟨h.cell c0, h.cell c1, h.cell c2, h.cell c3, h.cell c4, h.cell c5, h.cell c6⟩ : W.cell? ⟨P, 0, none⟩ = some (.slice m1.aA m1.a.length m1.ac) ∧ W.cell? ⟨P, 1, none⟩ = some (.slice m1.bA m1.b.length m1.bc) ∧ W.cell? ⟨P, 2, none⟩ = some (.int .i64 (i : Int)) ∧ W.cell? ⟨P, 3, none⟩ = some (.int .i64 (j : Int)) ∧ W.cell? ⟨P, 4, none⟩ = some (.slice m1.sA m1.f.length m1.sc) ∧ W.cell? ⟨P, 5, none⟩ = some (.slice oA o.length oc) ∧ W.cell? ⟨P, 6, none⟩ = some (.int .i64 (k : Int))))
      have hself := Hp.refl P wl
      have hRP : w.heap.size + 1 ≠ P := by have h1 := H2.out.1.2; have h2 := HST.out.base_; omega
      have hwz := (H2.out.2.2.1.past HQ.out.2 (by have := H2.out.1.2; omega))
      obtain ⟨f0, f1, f2, f3, f4, f5⟩ := own_frozen6 hwz
      obtain ⟨z0, z1, z2, z3, z4, z5⟩ := own6 hwz
      clear hwz
      go_upto_region 9 with fail
      have HDR := Lib.hid (Below.drew (Below.refl wl.heap.size wl))
      go_region_held3 (fun w' => Hp P wl w' ∧ (w'.cell? ⟨P, 0, none⟩ = some (.slice m1.aA m1.a.length m1.ac) ∧ w'.cell? ⟨P, 1, none⟩ = some (.slice m1.bA m1.b.length m1.bc) ∧ w'.cell? ⟨P, 2, none⟩ = some (.int .i64 (i : Int)) ∧ w'.cell? ⟨P, 3, none⟩ = some (.int .i64 (j : Int)) ∧ w'.cell? ⟨P, 4, none⟩ = some (.slice m1.sA m1.f.length m1.sc) ∧ w'.cell? ⟨P, 5, none⟩ = some (.slice oA o.length oc) ∧ w'.cell? ⟨P, 6, none⟩ = some (.int .i64 (k : Int))))
        ((refine (fun h => And.intro h (HS.out _ h)) ?_; repeat (first | with_reducible exact hself | with_reducible refine Hp.set ?_ hRP _ _ | with_reducible refine Hp.drew ?_)))
        (fail)
      clear c0 c1 c2 c3 c4 c5 c6 f0 f1 f2 f3 f4 f5 z0 z1 z2 z3 z4 z5 hself
      have hz := (H2.out.2.2.1.past HQ.out.2 (by have := H2.out.1.2; omega))
      have hst := HQ.out.1
      have hbb := HQ.out.2
      obtain ⟨X, hX', hXo, hXb, hXs, hXh⟩ := own_six hz (.slice m1.aA m1.a.length m1.ac) (.slice m1.bA m1.b.length m1.bc) (.int .i64 (i : Int)) (.int .i64 (j : Int)) (.slice m1.sA m1.f.length m1.sc) (.slice oA o.length oc)
      obtain ⟨r1, r2⟩ := out_fine (R := w.heap.size + 1) hst H2.out.2.2.2.2.2.1 H2.out.1.2 hXs hXh
      have HX := Lib.hid (And.intro (Below.drew (hXb w.heap.size w (H2.out.2.1.trans (hbb.mono H2.out.1.1)) (by omega))) (And.intro (own_drew' hXo) (And.intro (show MgIn X.drew X.drew.heap.size (outM m1 i j oA oc o) from r1.keep (Below.drew (Below.refl _ _))) (r2.mono H2.out.1.1))))
      have HR := Lib.hid hX'
      clear hst hbb hz hXo hXb hXs hXh hX' hC r1 r2 HS HDR
      go_wp2_with fail
      rw [← HR.out]
      obtain ⟨x0, x1, x2, x3, x4, x5⟩ := own6 HX.out.2.1
      exact bodyPost_ret (v := .tuple #[.agg #[.slice m1.aA m1.a.length m1.ac, .slice m1.bA m1.b.length m1.bc, .int .i64 (i : Int), .int .i64 (j : Int), .slice m1.sA m1.f.length m1.sc, .slice oA o.length oc], .int .i64 (k : Int), .int .i64 0]) (by simp [results, Tryz.results8, go_sem, x0, x1, x2, x3, x4, x5]) rfl ⟨outM m1 i j oA oc o, k, 0, rfl, .inr ⟨HM.out, ⟨H2.out.2.2.2.2.1.a, H2.out.2.2.2.2.1.b, H2.out.2.2.2.2.1.f, work_fin H2.out.2.2.2.2.1 HN.out.2.2.2.2.1 HN.out.1 HN.out.2.1 H2.out.2.2.2.2.2.2.2.1 HE.out⟩⟩, HX.out.2.2.1, ⟨H2.out.2.2.2.1.a, H2.out.2.2.2.1.b, H2.out.2.2.2.1.f, ⟨by have := HN.out.2.2.2.1; show o.length ≤ _; omega, HQ.out.1.ok⟩, ⟨by show -9223372036854775808 ≤ (i : Int); omega, by show (i : Int) ≤ 9223372036854775807; omega⟩, ⟨by show -9223372036854775808 ≤ (j : Int); omega, by show (j : Int) ≤ 9223372036854775807; omega⟩⟩, HX.out.2.2.2, HX.out.1⟩
    have t1 : decide ((k : Int) < fuel) = true := decide_eq_true hf
    have hA9 := H2.out.2.2.2.2.2.2.1
    have HT := Lib.hid (And.intro hf hlf)
    clear hD hf c0 c1 c2 c3 c4 c5 c6
    go_wp2_with fail
    refine y1.out.mono ?_
    rintro _ wl ⟨rfl, q, hq⟩
    have h9 : WSt w1.heap.size P m1 i j k (.slice oA o.length oc) o wl := hq ▸ HC.out.1.past (below_draws (Below.refl _ _) q)
    have b9 : Below w1.heap.size V2 wl := hq ▸ below_draws HC.out.2 q
    have y3 := Lib.hid (step_anyB w1.heap.size P m1 i j k (.slice oA o.length oc) o wl h9 hA9.na hA9.nb H2.out.2.2.2.1.a H2.out.2.2.2.1.b H2.out.2.2.2.1.f hA9.ac hA9.bc HN.out.1 HN.out.2.1 HT.out.2 (by omega) HN.out.2.2.2.1)
    obtain ⟨c0, c1, c2, c3, c4, c5, c6⟩ := own7 h9.own
    have HZ := Lib.hid b9
    clear hq h9 b9 y1 hA9 hlf
    go_wp2_with fail
    refine y3.out.mono ?_
    rintro _ w5 ⟨u, E, hnx, hE, rfl, b5, hor⟩
    clear c0 c1 c2 c3 c4 c5 c6 y3
    by_cases h0 : E = 0
    case neg =>
      have t2 : (E != 0) = true := bne_iff_ne.2 h0
      have h5 : WSt w1.heap.size P m1 i j k (.slice oA o.length oc) o w5 := by
        rcases hor with ⟨_, h⟩ | ⟨e, _⟩
        · exact h
        · exact absurd e h0
      have hn0 : 0 < n := by have := HT.out.2; omega
      have HE := Lib.hid (show workM m1.f fuel n (curM m1 i j k o) = { curM m1 i j k o with E := E } from by
        obtain ⟨n', rfl⟩ : ∃ n', n = n' + 1 := ⟨n - 1, by omega⟩
        have hc : consE [advL m1.f (grp u (curM m1 i j k o).ra ++ grp u (curM m1 i j k o).rb)] ≠ 0 := fun h => h0 (hE.trans h)
        rw [work_err HT.out.1 hnx hc, hE]
        rfl)
      have HQ := Lib.hid (And.intro h5 (HZ.out.trans b5))
      have hC := fun p : Past w5 => own7 ((h5.past p.h).own)
      clear hor h0 hE hnx b5 h5 hn0
      have hwt := hC ⟨w5, Below.refl _ _⟩
      obtain ⟨c0, c1, c2, c3, c4, c5, c6⟩ := hwt
      dsimp only at c0 c1 c2 c3 c4 c5 c6
      have HS := Lib.hid (fun W (h : Hp P w5 W) => (⟨h.cell c0, h.cell c1, h.cell c2, h.cell c3, h.cell c4, h.cell c5, h.cell c6⟩ : W.cell? ⟨P, 0, none⟩ = some (.slice m1.aA m1.a.length m1.ac) ∧ W.cell? ⟨P, 1, none⟩ = some (.slice m1.bA m1.b.length m1.bc) ∧ W.cell? ⟨P, 2, none⟩ = some (.int .i64 (i : Int)) ∧ W.cell? ⟨P, 3, none⟩ = some (.int .i64 (j : Int)) ∧ W.cell? ⟨P, 4, none⟩ = some (.slice m1.sA m1.f.length m1.sc) ∧ W.cell? ⟨P, 5, none⟩ = some (.slice oA o.length oc) ∧ W.cell? ⟨P, 6, none⟩ = some (.int .i64 (k : Int))))
      have hself := Hp.refl P w5
      have hRP : w.heap.size + 1 ≠ P := by have h1 := H2.out.1.2; have h2 := HST.out.base_; omega
      have hwz := (H2.out.2.2.1.past HQ.out.2 (by have := H2.out.1.2; omega))
      obtain ⟨f0, f1, f2, f3, f4, f5⟩ := own_frozen6 hwz
      obtain ⟨z0, z1, z2, z3, z4, z5⟩ := own6 hwz
      clear hwz
      go_upto_region 8 with fail
      have HDR := Lib.hid (Below.drew (Below.refl w5.heap.size w5))
      go_region_held3 (fun w' => Hp P w5 w' ∧ (w'.cell? ⟨P, 0, none⟩ = some (.slice m1.aA m1.a.length m1.ac) ∧ w'.cell? ⟨P, 1, none⟩ = some (.slice m1.bA m1.b.length m1.bc) ∧ w'.cell? ⟨P, 2, none⟩ = some (.int .i64 (i : Int)) ∧ w'.cell? ⟨P, 3, none⟩ = some (.int .i64 (j : Int)) ∧ w'.cell? ⟨P, 4, none⟩ = some (.slice m1.sA m1.f.length m1.sc) ∧ w'.cell? ⟨P, 5, none⟩ = some (.slice oA o.length oc) ∧ w'.cell? ⟨P, 6, none⟩ = some (.int .i64 (k : Int))))
        ((refine (fun h => And.intro h (HS.out _ h)) ?_; repeat (first | with_reducible exact hself | with_reducible refine Hp.set ?_ hRP _ _ | with_reducible refine Hp.drew ?_)))
        (fail)
      clear c0 c1 c2 c3 c4 c5 c6 f0 f1 f2 f3 f4 f5 z0 z1 z2 z3 z4 z5 hself
      have hz := (H2.out.2.2.1.past HQ.out.2 (by have := H2.out.1.2; omega))
      have hst := HQ.out.1
      have hbb := HQ.out.2
      obtain ⟨X, hX', hXo, hXb, hXs, hXh⟩ := own_six hz (.slice m1.aA m1.a.length m1.ac) (.slice m1.bA m1.b.length m1.bc) (.int .i64 (i : Int)) (.int .i64 (j : Int)) (.slice m1.sA m1.f.length m1.sc) (.slice oA o.length oc)
      obtain ⟨r1, r2⟩ := out_fine (R := w.heap.size + 1) hst H2.out.2.2.2.2.2.1 H2.out.1.2 hXs hXh
      have HX := Lib.hid (And.intro (Below.drew (hXb w.heap.size w (H2.out.2.1.trans (hbb.mono H2.out.1.1)) (by omega))) (And.intro (own_drew' hXo) (And.intro (show MgIn X.drew X.drew.heap.size (outM m1 i j oA oc o) from r1.keep (Below.drew (Below.refl _ _))) (r2.mono H2.out.1.1))))
      have HR := Lib.hid hX'
      clear hst hbb hz hXo hXb hXs hXh hX' hC r1 r2 HS HDR
      go_wp2_with fail
      rw [← HR.out]
      obtain ⟨x0, x1, x2, x3, x4, x5⟩ := own6 HX.out.2.1
      exact bodyPost_ret (v := .tuple #[.agg #[.slice m1.aA m1.a.length m1.ac, .slice m1.bA m1.b.length m1.bc, .int .i64 (i : Int), .int .i64 (j : Int), .slice m1.sA m1.f.length m1.sc, .slice oA o.length oc], .int .i64 (k : Int), .int .i64 E]) (by simp [results, Tryz.results8, go_sem, x0, x1, x2, x3, x4, x5]) rfl ⟨outM m1 i j oA oc o, k, E, rfl, .inr ⟨HM.out, ⟨H2.out.2.2.2.2.1.a, H2.out.2.2.2.2.1.b, H2.out.2.2.2.2.1.f, work_fin H2.out.2.2.2.2.1 HN.out.2.2.2.2.1 HN.out.1 HN.out.2.1 H2.out.2.2.2.2.2.2.2.1 HE.out⟩⟩, HX.out.2.2.1, ⟨H2.out.2.2.2.1.a, H2.out.2.2.2.1.b, H2.out.2.2.2.1.f, ⟨by have := HN.out.2.2.2.1; show o.length ≤ _; omega, HQ.out.1.ok⟩, ⟨by show -9223372036854775808 ≤ (i : Int); omega, by show (i : Int) ≤ 9223372036854775807; omega⟩, ⟨by show -9223372036854775808 ≤ (j : Int); omega, by show (j : Int) ≤ 9223372036854775807; omega⟩⟩, HX.out.2.2.2, HX.out.1⟩
    subst h0
    obtain ⟨v', e, he, h5⟩ : ∃ (v' : Value) (e : List Up), e.map Up.p = consL [advL m1.f (grp u (m1.a.drop i) ++ grp u (m1.b.drop j))] ∧ WSt w1.heap.size P m1 (i + (grp u (m1.a.drop i)).length) (j + (grp u (m1.b.drop j)).length) (k + ((grp u (m1.a.drop i)).length + (grp u (m1.b.drop j)).length)) v' (o ++ e) w5 := by
      rcases hor with ⟨h, _⟩ | ⟨_, h⟩
      · exact absurd rfl h
      · exact h
    have hpos := grp_pos hnx
    have hg1 := grp_lens u m1.a i
    have hg2 := grp_lens u m1.b j
    have hel : e.length ≤ (grp u (m1.a.drop i)).length + (grp u (m1.b.drop j)).length := by
      have := consL_len [advL m1.f (grp u (m1.a.drop i) ++ grp u (m1.b.drop j))]
      rw [← he, List.length_map] at this
      simp only [List.flatten_cons, List.flatten_nil, List.append_nil, advL_len, List.length_append] at this
      exact this
    have hwk : workM m1.f fuel n (curM m1 i j k o) = workM m1.f fuel (n - 1) (curM m1 (i + (grp u (m1.a.drop i)).length) (j + (grp u (m1.b.drop j)).length) (k + ((grp u (m1.a.drop i)).length + (grp u (m1.b.drop j)).length)) (o ++ e)) := by
      obtain ⟨n', rfl⟩ : ∃ n', n = n' + 1 := ⟨n - 1, by have := HT.out.2; omega⟩
      rw [work_more HT.out.1 hnx hE.symm, cur_step m1 i j k o e u he]
      rfl
    have H5 := Lib.hid (And.intro h5 (And.intro (HZ.out.trans b5) (And.intro hpos (And.intro hg1 (And.intro hg2 (And.intro hel hwk))))))
    obtain ⟨c0, c1, c2, c3, c4, c5, c6⟩ := own7 h5.own
    have HM2 := Lib.hid (And.intro c2 c3)
    have HM0 := Lib.hid (own7 HC.out.1.own)
    clear hor hE hnx b5 h5 he hpos hg1 hg2 hel hwk c0 c1 c2 c3 c4 c5 c6
    go_wp2_with fail
    go_roundw
    case rel =>
      have q1 := H5.out.2.2.1
      have q2 := H5.out.2.2.2.1
      have q3 := H5.out.2.2.2.2.1
      have q4 := H5.out.2.2.2.2.2.1
      exact ⟨_, _, _, v', o ++ e, n - 1, H5.out.1, H5.out.2.1, by omega, by omega, by omega, by rw [List.length_append]; omega, HN.out.2.2.2.2.1.trans H5.out.2.2.2.2.2.2, by omega⟩
    case measure =>
      have q1 := H5.out.2.2.1
      have q2 := H5.out.2.2.2.1
      have q3 := H5.out.2.2.2.2.1
      rw [HM2.out.1, HM2.out.2, HM0.out.2.2.1, HM0.out.2.2.2.1]
      simp only [Option.getD_some, intOf]
      omega
end Go.Proofs.YtllpfngmnccejaaGreat
namespace Go.Proofs.YtllpfngmnccejaaGreat
open Go Go.RowKit

/-- a slice of copies of updates, in no block below B, a row of its own -/
def KpU (B : Nat) (l : List Up) (v : Value) (W : World) : Prop := ∃ A c, ∃ outL : List Up, v = .slice A outL.length c ∧ outL.map Up.p = l.map Up.p ∧ Ups W W.heap.size A outL ∧ UsOk outL ∧ Lo B A outL ∧ W.ownsRow B 48 6 v outL.length (outL.flatMap Up.cells) ∧ ∀ u ∈ outL, Far B v W u
/-- the same, all of it below block D -/
def KpD (B D : Nat) (l : List Up) (v : Value) (W : World) : Prop := ∃ A c, ∃ outL : List Up, v = .slice A outL.length c ∧ outL.map Up.p = l.map Up.p ∧ Ups W D A outL ∧ UsOk outL ∧ Lo B A outL
theorem KpU.keep {B : Nat} {l : List Up} {v : Value} {W W' : World} (h : KpU B l v W) (b : Below W.heap.size W W') : KpU B l v W' := by
  obtain ⟨A, c, outL, e, hp, hu, ok, lo, ro, fa⟩ := h
  exact ⟨A, c, outL, e, hp, hu.keep b, ok, lo, own_below ro b, fun u hu => (fa u hu).next b.size⟩
theorem KpU.bound {B : Nat} {l : List Up} {v : Value} {W W' : World} (h : KpU B l v W) (b : Below W.heap.size W W') : KpD B W.heap.size l v W' := by
  obtain ⟨A, c, outL, e, hp, hu, ok, lo, _, _⟩ := h
  exact ⟨A, c, outL, e, hp, hu.past b (Nat.le_refl _), ok, lo⟩
theorem KpU.lower {B B' : Nat} {l : List Up} {v : Value} {W : World} (h : KpU B l v W) (hB : B' ≤ B) : KpU B' l v W := by
  obtain ⟨A, c, outL, e, hp, hu, ok, lo, ro, fa⟩ := h
  exact ⟨A, c, outL, e, hp, hu, ok, lo.mono hB, ⟨ro.1, ro.2.imp id fun ⟨g, cap, cur, h1, h2, h3⟩ => ⟨g, cap, cur, h1, Nat.le_trans hB h2, h3⟩⟩, fun u hu b o e => ⟨(fa u hu b o e).1, (fa u hu b o e).2.1, Nat.le_trans hB (fa u hu b o e).2.2⟩⟩
theorem KpD.lower {B B' D : Nat} {l : List Up} {v : Value} {W : World} (h : KpD B D l v W) (hB : B' ≤ B) : KpD B' D l v W := by
  obtain ⟨A, c, outL, e, hp, hu, ok, lo⟩ := h
  exact ⟨A, c, outL, e, hp, hu, ok, lo.mono hB⟩
theorem copyU_kp0 (A : Option Addr) (c : Nat) (l : List Up) (w : World) (hl : Ups w w.heap.size A l) (hok : UsOk l) (h8 : ∀ u ∈ l, u.key.length ≤ 1099511627776 ∧ u.row.length ≤ 1099511627776) :
    Calls Tryz.prog 26 #[.slice A l.length c] w fun x w' => ∃ v, x = .returned v ∧ KpU w.heap.size l v w' ∧ Below w.heap.size w w' := by
  refine (copyU_own A c l w hl hok.ok h8 hok.n).mono ?_
  rintro x w' ⟨v, outL, rfl, hm, hown, hout, hb⟩
  have hlt := hown.lt
  obtain ⟨A', c', rfl, _, _, hl'⟩ := lies_of_own (size := 6) (cells := Up.cells) (by decide) ucells_len rfl hown
  have hn : outL.length = l.length := by have := congrArg List.length hm; simpa using this
  exact ⟨_, rfl, ⟨A', c', outL, rfl, hm, ⟨hl', fun u hu => (hout u hu).1⟩, ⟨by have := hok.n; omega, fun u hu => (hout u hu).2.1⟩, ⟨fun b o e => by subst e; exact (hlt b rfl).1, fun u hu b o e => ((hout u hu).2.2 b o e).2.2⟩, hown, fun u hu => (hout u hu).2.2⟩, hb⟩
theorem copyU_kp (A : Option Addr) (c : Nat) (l : List Up) (w : World) (hl : Ups w w.heap.size A l) (hok : UsOk l) (h8 : ∀ u ∈ l, u.key.length ≤ 1099511627776 ∧ u.row.length ≤ 1099511627776) :
    Calls Tryz.prog 26 #[.slice A l.length c] w fun x w' => ∃ (A' : Option Addr) (c' n' : Nat), x = .returned (.slice A' n' c') ∧ KpU w.heap.size l (.slice A' n' c') w' ∧ Below w.heap.size w w' := by
  refine (copyU_kp0 A c l w hl hok h8).mono ?_
  rintro x w' ⟨v, rfl, h, hb⟩
  have h' := h
  obtain ⟨A', c', outL, rfl, _⟩ := h'
  exact ⟨A', c', outL.length, rfl, h, hb⟩
/-- behind the three copies: the merger's box holds them -/
def CpMid (P : Nat) (m : Mg) (V wx : World) : Prop := ∃ D va vb vo, V.heap.size ≤ D ∧ D ≤ wx.heap.size ∧ Own wx P 25 [va, vb, .int .i64 m.i, .int .i64 m.j, .slice m.sA m.f.length m.sc, vo] ∧ KpD V.heap.size D m.a va wx ∧ KpD V.heap.size D m.b vb wx ∧ KpU D m.o vo wx ∧ Below P V wx ∧ (∀ b, b < V.heap.size → b ≠ P → wx.heap[b]? = V.heap[b]?)
/-- the world with three of a box's cells stored, in one of the orders -/
structure Put3 (P : Nat) (a b c : Value) (W X : World) : Prop where
  own : ∀ t z0 z1 z2 z3 z4 z5, Own W P t [z0, z1, z2, z3, z4, z5] → Own X P t [a, b, z2, z3, z4, c]
  size : X.heap.size = W.heap.size
  other : ∀ k, k ≠ P → X.heap[k]? = W.heap[k]?
  below : ∀ B u, Below B u W → B ≤ P → Below B u X
theorem put3_a (P : Nat) (a b c : Value) (W : World) : Put3 P a b c W (((W.setCell ⟨P, 0, none⟩ a).setCell ⟨P, 1, none⟩ b).setCell ⟨P, 5, none⟩ c) :=
  ⟨fun t z0 z1 z2 z3 z4 z5 h => ((h.set_ 0 a).set_ 1 b).set_ 5 c, by simp [World.setCell], fun k hk => by
    have q := fun (W : World) (i : Nat) (v : Value) => Below.heap_setCell W ⟨P, i, none⟩ v k hk
    rw [q, q, q], fun B u hb hB => ((hb.setCell (p := ⟨P, 0, none⟩) hB _).setCell (p := ⟨P, 1, none⟩) hB _).setCell (p := ⟨P, 5, none⟩) hB _⟩
theorem KpD.put {P B D : Nat} {l : List Up} {v x y z : Value} {W X : World} (h : KpD B D l v W) (hP : P < B) (k : Put3 P x y z W X) (hD : D ≤ W.heap.size) : KpD B D l v X := by
  obtain ⟨A, c, outL, e, hp, hu, ok, lo⟩ := h
  have hb : ∀ b o j, b ≠ P → X.cell? ⟨b, o + j, none⟩ = W.cell? ⟨b, o + j, none⟩ := fun b o j hb => by unfold World.cell?; rw [k.other b hb]
  have hv : ∀ {A : Option Addr} {l : List Vl}, Vals W D A l → (∀ b o, A = some ⟨b, o, none⟩ → b ≠ P) → Vals X D A l := fun {A l} h hA hp => by
    obtain ⟨b, o, e, hB, hc⟩ := h hp
    have hk : ∀ j, X.cell? ⟨b, j, none⟩ = W.cell? ⟨b, j, none⟩ := fun j => by unfold World.cell?; rw [k.other b (hA b o e)]
    refine ⟨b, o, e, hB, fun i v hi => ?_⟩
    obtain ⟨a0, a1, a2⟩ := hc i v hi
    exact ⟨(hk _).trans a0, (hk _).trans a1, (hk _).trans a2⟩
  refine ⟨A, c, outL, e, hp, ⟨fun hp => ?_, fun u hu' => ⟨hv (hu.each_ u hu').key fun b o e => by have := lo.2 u hu' b o (.inl e); omega, hv (hu.each_ u hu').row fun b o e => by have := lo.2 u hu' b o (.inr e); omega⟩⟩, ok, lo⟩
  obtain ⟨b, o, e, hB, hc⟩ := hu.head hp
  have hne : b ≠ P := by have := lo.1 b o e; omega
  exact ⟨b, o, e, hB, fun i x hi j u hj => by
    rw [← hc i x hi j u hj]
    unfold World.cell?
    rw [k.other b hne]⟩
theorem KpU.put {P B : Nat} {l : List Up} {v x y z : Value} {W X : World} (h : KpU B l v W) (hP : P < B) (k : Put3 P x y z W X) : KpU B l v X := by
  obtain ⟨A, c, outL, e, hp, hu, ok, lo, ro, fa⟩ := h
  refine ⟨A, c, outL, e, hp, ups_other hu (lo.mono hP) k.size k.other, ok, lo, ⟨ro.1, ?_⟩, fun u hu => (fa u hu).next (by rw [k.size]; exact Nat.le_refl _)⟩
  rcases ro.2 with h0 | ⟨g, cap, cur, h1, h2, h3, rest⟩
  · exact .inl h0
  · exact .inr ⟨g, cap, cur, h1, h2, (k.other g (by omega)).trans h3, rest⟩
theorem cpmid_of {P D : Nat} {m : Mg} {V W X : World} {va vb vo : Value} (hP : P < V.heap.size) (ho : Own W P 25 m.cells) (hb : Below V.heap.size V W) (hD : V.heap.size ≤ D) (hW : D ≤ W.heap.size) (ka : KpD V.heap.size D m.a va W) (kb : KpD V.heap.size D m.b vb W) (ko : KpU D m.o vo W) (hx : Put3 P va vb vo W X) : CpMid P m V X :=
  ⟨D, va, vb, vo, hD, by rw [hx.size]; exact hW, hx.own _ _ _ _ _ _ _ ho, ka.put hP hx hW, kb.put hP hx hW, ko.put (by omega) hx, hx.below P V (hb.mono (Nat.le_of_lt hP)) (Nat.le_refl _), fun b hb' hne => (hx.other b hne).trans (hb.block b hb')⟩
/-- blocks from B on are as they were -/
structure Nb (B : Nat) (W X : World) : Prop where
  size : X.heap.size = W.heap.size
  other : ∀ b, B ≤ b → X.heap[b]? = W.heap[b]?
theorem Nb.cell {B b j : Nat} {W X : World} (k : Nb B W X) (hb : B ≤ b) : X.cell? ⟨b, j, none⟩ = W.cell? ⟨b, j, none⟩ := by unfold World.cell?; rw [k.other b hb]
theorem Nb.vals {B : Nat} {W X : World} {A : Option Addr} {l : List Vl} (k : Nb B W X) (h : Vals W W.heap.size A l) (hA : ∀ b o, A = some ⟨b, o, none⟩ → B ≤ b) : Vals X X.heap.size A l := fun hp => by
  obtain ⟨b, o, e, hB, hc⟩ := h hp
  have hk := fun j => k.cell (j := j) (hA b o e)
  refine ⟨b, o, e, by rw [k.size]; exact hB, fun i v hi => ?_⟩
  obtain ⟨a0, a1, a2⟩ := hc i v hi
  exact ⟨(hk _).trans a0, (hk _).trans a1, (hk _).trans a2⟩
theorem Nb.ups {B : Nat} {W X : World} {A : Option Addr} {l : List Up} (k : Nb B W X) (h : Ups W W.heap.size A l) (lo : Lo B A l) : Ups X X.heap.size A l := by
  refine ⟨fun hp => ?_, fun u hu => ⟨k.vals (h.each_ u hu).key fun b o e => lo.2 u hu b o (.inl e), k.vals (h.each_ u hu).row fun b o e => lo.2 u hu b o (.inr e)⟩⟩
  obtain ⟨b, o, e, hB, hc⟩ := h.head hp
  exact ⟨b, o, e, by rw [k.size]; exact hB, fun i x hi j u hj => (k.cell (lo.1 b o e)).trans (hc i x hi j u hj)⟩
theorem Nb.times {B : Nat} {W X : World} {A : Option Addr} {l : List Tm} (k : Nb B W X) (h : Times W W.heap.size A l) (lo : LoT B A) : Times X X.heap.size A l := fun hp => by
  obtain ⟨b, o, e, hB, hc⟩ := h hp
  have hk := fun j => k.cell (j := j) (lo b o e)
  refine ⟨b, o, e, by rw [k.size]; exact hB, fun i v hi => ?_⟩
  obtain ⟨a0, a1, a2⟩ := hc i v hi
  exact ⟨(hk _).trans a0, (hk _).trans a1, (hk _).trans a2⟩
theorem Nb.row {B base n size : Nat} {e : TypeId} {v : Value} {xs : List Value} {W X : World} (k : Nb B W X) (h : W.ownsRow base e size v n xs) (hB : B ≤ base) : X.ownsRow base e size v n xs := by
  refine ⟨h.1, ?_⟩
  rcases h.2 with h0 | ⟨g, cap, cur, h1, h2, h3, rest⟩
  · exact .inl h0
  · exact .inr ⟨g, cap, cur, h1, h2, (k.other g (by omega)).trans h3, rest⟩
/-- what came of the merger lies in a row of its own, apart from all else -/
structure MgRow (w : World) (base : Nat) (m : Mg) : Prop where
  row : w.ownsRow base 48 6 (.slice m.oA m.o.length m.oc) m.o.length (m.o.flatMap Up.cells)
  a : Off w.heap.size (.slice m.oA m.o.length m.oc) m.aA m.a
  b : Off w.heap.size (.slice m.oA m.o.length m.oc) m.bA m.b
  f : OffR w.heap.size (.slice m.oA m.o.length m.oc) m.sA m.f.length
  o : ∀ u ∈ m.o, OffU w.heap.size (.slice m.oA m.o.length m.oc) u
theorem off_bound {D P : Nat} {v : Value} {W : World} {A : Option Addr} {l : List Up} (h : Ups W D A l) (hP : D ≤ P) (hv : ∀ j, v.ownBlock = some j → D ≤ j) : Off P v A l := by
  have key : ∀ {A : Option Addr} {n : Nat}, (0 < n → ∀ b o, A = some (⟨b, o, none⟩ : Addr) → b < D) → OffR P v A n := fun h hp b o e => by
    have := h hp b o e
    exact ⟨by omega, fun e' => by have := hv b e'; omega⟩
  refine ⟨key fun hp b o e => ?_, fun u hu => ⟨key fun hp b o e => ?_, key fun hp b o e => ?_⟩⟩
  · obtain ⟨b', o', e', hB, _⟩ := h.head hp
    rw [e] at e'; injection e' with e'; injection e' with e1 _; omega
  · obtain ⟨b', o', e', hB, _⟩ := (h.each_ u hu).key hp
    rw [e] at e'; injection e' with e'; injection e' with e1 _; omega
  · obtain ⟨b', o', e', hB, _⟩ := (h.each_ u hu).row hp
    rw [e] at e'; injection e' with e'; injection e' with e1 _; omega
theorem nb_one {B P i : Nat} {W : World} {x : Value} (hP : P < B) : Nb B W (W.setCell ⟨P, i, none⟩ x) := ⟨by simp [World.setCell], fun b hb => Below.heap_setCell W ⟨P, i, none⟩ x b (by intro e; dsimp only at e; omega)⟩
/-- what the reference's copy tells -/
def CopiedM (m : Mg) (w : World) (x : Ending) (w' : World) : Prop := ∃ m' : Mg, x = .returned m'.val ∧ SameM m' m ∧ MgIn w' w'.heap.size m' ∧ MgOk m' ∧ MgLo w.heap.size m' ∧ Below w.heap.size w w' ∧ MgRow w' w.heap.size m'
set_option maxRecDepth 100000 in
set_option maxHeartbeats 25600000 in
theorem rcopyM_any (m : Mg) (w : World) (hm : MgIn w w.heap.size m) (hok : MgOk m) (h8 : ∀ u, u ∈ m.a ∨ u ∈ m.b ∨ u ∈ m.o → u.key.length ≤ 1099511627776 ∧ u.row.length ≤ 1099511627776) :
    Calls Tryz.prog 7 #[m.val] w (CopiedM m w) := by
  obtain ⟨V, hV, hvb, hvo, hvz⟩ := wk_box w m
  have hin := hm.keep hvb
  have za := fun W (h : Below V.heap.size V W) => Lib.hid (copyU_kp m.aA m.ac m.a W (hin.keep h).a hok.a fun u hu => h8 u (.inl hu))
  have zb := fun W (h : Below V.heap.size V W) => Lib.hid (copyU_kp m.bA m.bc m.b W (hin.keep h).b hok.b fun u hu => h8 u (.inr (.inl hu)))
  have zo := fun W (h : Below V.heap.size V W) => Lib.hid (copyU_kp m.oA m.oc m.o W (hin.keep h).o hok.o fun u hu => h8 u (.inr (.inr hu)))
  have HV := Lib.hid (And.intro hvb (And.intro hvo (And.intro hvz (And.intro hin hok))))
  have HF := Lib.hid (And.intro hm.f (show m.f.length ≤ 1099511627776 from hok.f.n))
  have hmv : m.val = .agg #[.slice m.aA m.a.length m.ac, .slice m.bA m.b.length m.bc, .int .i64 m.i, .int .i64 m.j, .slice m.sA m.f.length m.sc, .slice m.oA m.o.length m.oc] := rfl
  rw [hmv]
  have HO := Lib.hid (show Own V.drew w.heap.size 25 m.cells from hvo)
  have HB := Lib.hid (Below.refl V.heap.size V).drew
  obtain ⟨a0, a1, a2, a3, a4, a5⟩ := own6 HO.out
  obtain ⟨f0, f1, f2, f3, f4, f5⟩ := own_frozen6 HO.out
  clear hm hok hvb hvo hvz hin hmv h8
  go_enter Tryz.func7, Tryz.ntmps7
  go_upto_region 1 with fail
  rw [← hV]
  clear hV
  go_cut [5] (fun s5 wx => CpMid w.heap.size m V wx)
  case first =>
    go_region_with (first
      | (go_at_call 26; with_reducible refine (za _ HB.out).out.mono ?_; rintro _ _ ⟨Ava, cva, nva, rfl, ha, b⟩; have HA := Lib.hid (ha.lower HB.out.size); have HO := Lib.hid (HO.out.past b HO.out.inside); clear a0 a1 a2 a3 a4 a5 f0 f1 f2 f3 f4 f5; obtain ⟨a0, a1, a2, a3, a4, a5⟩ := own6 HO.out; obtain ⟨f0, f1, f2, f3, f4, f5⟩ := own_frozen6 HO.out; have HB := Lib.hid (belows HB.out b); clear b ha)
      | (go_at_call 26; with_reducible refine (zb _ HB.out).out.mono ?_; rintro _ _ ⟨Avb, cvb, nvb, rfl, ha, b⟩; have HA := Lib.hid (HA.out.keep b); have HBB := Lib.hid (ha.lower HB.out.size); have HO := Lib.hid (HO.out.past b HO.out.inside); clear a0 a1 a2 a3 a4 a5 f0 f1 f2 f3 f4 f5; obtain ⟨a0, a1, a2, a3, a4, a5⟩ := own6 HO.out; obtain ⟨f0, f1, f2, f3, f4, f5⟩ := own_frozen6 HO.out; have HB := Lib.hid (belows HB.out b); clear b ha)
      | (go_at_call 26; with_reducible refine (zo _ HB.out).out.mono ?_; rintro _ _ ⟨Avo, cvo, nvo, rfl, ha, b⟩; have HD := Lib.hid (And.intro (HA.out.bound b) (And.intro (HBB.out.bound b) (And.intro HB.out.size b.size))); have HOO := Lib.hid ha; have HO := Lib.hid (HO.out.past b HO.out.inside); clear a0 a1 a2 a3 a4 a5 f0 f1 f2 f3 f4 f5; obtain ⟨a0, a1, a2, a3, a4, a5⟩ := own6 HO.out; obtain ⟨f0, f1, f2, f3, f4, f5⟩ := own_frozen6 HO.out; have HB := Lib.hid (belows HB.out b); clear b ha))
    all_goals
      go_wp2_with fail
      go_meet
      exact cpmid_of HV.out.2.1.inside HO.out HB.out HD.out.2.2.1 HD.out.2.2.2 HD.out.1 HD.out.2.1 HOO.out (put3_a _ _ _ _ _)
  case rest =>
    obtain ⟨D, va, vb, vo, hD, hDw, ho, ka, kb, ko, hbP, hoth⟩ := hcut
    obtain ⟨Aa, ca, la, rfl, pa, ua, oka, loa⟩ := ka
    obtain ⟨Ab, cb, lb, rfl, pb, ub, okb, lob⟩ := kb
    obtain ⟨Ao, co, lo_, rfl, po, uo, oko, loo, ro, fa⟩ := ko
    have hPV : w.heap.size + 1 < V.heap.size := HV.out.2.2.1.inside
    have hnil : Own wc (w.heap.size + 1) 25 Mg.nil.cells := (hoth _ hPV (by omega)).trans HV.out.2.2.1
    have hbw : Below w.heap.size w wc := HV.out.1.trans hbP
    have hfx : Times wc w.heap.size m.sA m.f := HF.out.1.past hbw (Nat.le_refl _)
    have hr0 := Lib.hid (show (wc.alloc (.cells #[] 46)).ownsRow wc.heap.size 46 3 (.slice (some ⟨wc.heap.size, 0, none⟩) 0 0) 0 [] from World.ownsRow_made wc #[] 0 (Nat.le_refl _) (Nat.zero_le _) rfl)
    have hal : Below wc.heap.size wc (wc.alloc (.cells #[] 46)) := (Below.refl _ _).alloc (Nat.le_refl _) _
    have hft := Lib.hid (hfx.past hal (Nat.le_trans hbw.size (Nat.le_refl _)))
    have hfn := HF.out.2
    have HAL := Lib.hid hal
    have HC := Lib.hid (And.intro hD (And.intro hDw (And.intro ho (And.intro hnil (And.intro hbw hPV)))))
    have HAA := Lib.hid (And.intro pa (And.intro ua (And.intro oka loa)))
    have HBB := Lib.hid (And.intro pb (And.intro ub (And.intro okb lob)))
    have HOO := Lib.hid (And.intro po (And.intro uo (And.intro oko (And.intro loo (And.intro ro fa)))))
    obtain ⟨c0, c1, c2, c3, c4, c5⟩ := own6 (ho.past hal ho.inside)
    clear ho hnil hbw hfx hal pa ua oka loa pb ub okb lob po uo oko loo ro fa hbP hoth hD hDw za zb zo a0 a1 a2 a3 a4 a5 f0 f1 f2 f3 f4 f5
    go_wp2_with (at_builtin; refine wpList_append_tm _ rfl _ _ rfl wc.heap.size _ _ _ rfl hr0.out w.heap.size m.sA m.sc m.f rfl hft.out ?m1 ?m2 ?m3)
    case m1 => omega
    case m2 => simp
    intro v4 w4 ho4 hb4
    have hlt4 := ho4.lt
    obtain ⟨As, cs, rfl, hcs, hms, h4⟩ := times_of_own (l := m.f) (n := 0 + m.f.length) (by omega) (by simpa using ho4)
    have hb04 : Below wc.heap.size wc w4 := HAL.out.trans hb4
    have o4 := HC.out.2.2.1.past hb04 HC.out.2.2.1.inside
    have n4 := HC.out.2.2.2.1.past hb04 HC.out.2.2.2.1.inside
    obtain ⟨X, hX⟩ : ∃ X, X = w4.setCell ⟨w.heap.size, 4, none⟩ (.slice As m.f.length cs) := ⟨_, rfl⟩
    have oX := o4.set_ 4 (.slice As m.f.length cs)
    have nX := n4.other (p := ⟨w.heap.size, 4, none⟩) (by intro e; dsimp only at e; omega) (.slice As m.f.length cs)
    have nbX : Nb V.heap.size w4 X := hX ▸ nb_one (by omega)
    have bX : Below w.heap.size w X := by
      rw [hX]
      exact ((HC.out.2.2.2.2.1.trans (hb04.mono HC.out.2.2.2.2.1.size)).setCell (p := ⟨w.heap.size, 4, none⟩) (Nat.le_refl _) _)
    rw [← hX] at oX nX
    obtain ⟨Y, hY, hYo, hYb, hYs, hYh⟩ := own_six nX (.slice Aa la.length ca) (.slice Ab lb.length cb) (.int .i64 m.i) (.int .i64 m.j) (.slice As m.f.length cs) (.slice Ao lo_.length co)
    have nbY : Nb V.heap.size X Y := ⟨hYs, fun b hb => hYh b (by omega)⟩
    have k0 := o4.open_ 4
    obtain ⟨c0, c1, c2, c3, c4, c5⟩ := own6 o4
    obtain ⟨x0, x1, x2, x3, x4, x5⟩ := own6 oX
    obtain ⟨g0, g1, g2, g3, g4, g5⟩ := own_frozen6 nX
    obtain ⟨z0, z1, z2, z3, z4, z5⟩ := own6 nX
    have HX := Lib.hid hX
    have HY := Lib.hid (And.intro hY (And.intro hYo (hYb w.heap.size w bX (Nat.le_succ _))))
    have hKU := Lib.hid (show MgIn Y Y.heap.size ⟨Aa, ca, la, Ab, cb, lb, m.i, m.j, As, cs, m.f, Ao, co, lo_⟩ ∧ MgLo w.heap.size ⟨Aa, ca, la, Ab, cb, lb, m.i, m.j, As, cs, m.f, Ao, co, lo_⟩ ∧ MgRow Y w.heap.size ⟨Aa, ca, la, Ab, cb, lb, m.i, m.j, As, cs, m.f, Ao, co, lo_⟩ from by
      obtain ⟨pa, ua, oka, loa⟩ := HAA.out
      obtain ⟨pb, ub, okb, lob⟩ := HBB.out
      obtain ⟨po, uo, oko, loo, ro, fa⟩ := HOO.out
      have hDx := HC.out.2.1
      have hVD := HC.out.1
      have hsz : Y.heap.size = w4.heap.size := hYs.trans nbX.size
      have s4 := hb04.size
      have hVw : w.heap.size ≤ V.heap.size := by omega
      have hro4 := own_below ro hb04
      have hroY := nbY.row (nbX.row hro4 hVD) hVD
      have hlo : ∀ j, (Value.slice Ao lo_.length co).ownBlock = some j → D ≤ j ∧ j < wc.heap.size := fun j hj => ro.lt j hj
      have hsT : LoT V.heap.size As := fun b o e => by have := hlt4 b (by rw [e]; rfl); omega
      refine ⟨⟨nbY.ups (nbX.ups ((ua.past hb04 hDx).wide (by omega)) loa) loa, nbY.ups (nbX.ups ((ub.past hb04 hDx).wide (by omega)) lob) lob, nbY.times (nbX.times h4 hsT) hsT, nbY.ups (nbX.ups (uo.keep hb04) (loo.mono hVD)) (loo.mono hVD)⟩, ⟨loa.mono hVw, lob.mono hVw, fun b o e => Nat.le_trans hVw (hsT b o e), loo.mono (Nat.le_trans hVw hVD)⟩, ⟨⟨hroY.1, hroY.2.imp id fun ⟨g, cap, cur, h1, h2, h3⟩ => ⟨g, cap, cur, h1, by omega, h3⟩⟩, off_bound ua (by omega) (fun j hj => (hlo j hj).1), off_bound ub (by omega) (fun j hj => (hlo j hj).1), fun _ b o e => ?_, fun u hu => ⟨fun _ b o e => ?_, fun _ b o e => ?_⟩⟩⟩
      · have e : As = some ⟨b, o, none⟩ := e
        have h1 := hlt4 b (by rw [e]; rfl)
        exact ⟨by omega, fun e' => by have := (hlo b e').2; omega⟩
      · have h1 := fa u hu b o (.inl e)
        exact ⟨by omega, h1.2.1⟩
      · have h1 := fa u hu b o (.inr e)
        exact ⟨by omega, h1.2.1⟩)
    have HOK := Lib.hid (show SameM ⟨Aa, ca, la, Ab, cb, lb, m.i, m.j, As, cs, m.f, Ao, co, lo_⟩ m ∧ MgOk ⟨Aa, ca, la, Ab, cb, lb, m.i, m.j, As, cs, m.f, Ao, co, lo_⟩ from ⟨⟨HAA.out.1, HBB.out.1, rfl, rfl, rfl, HOO.out.1⟩, ⟨HAA.out.2.2.1, HBB.out.2.2.1, ⟨HV.out.2.2.2.2.f.n, hcs, hms⟩, HOO.out.2.2.1, HV.out.2.2.2.2.i, HV.out.2.2.2.2.j⟩⟩)
    clear o4 n4 oX nX nbX nbY bX hX hY hYo hYb hYs hYh h4 hlt4 ho4 hb4 hb04 hcs hms hr0 hft
    go_upto_region 3 with fail
    rw [← HX.out]
    clear c0 c1 c2 c3 c4 c5 k0
    go_wp2_with fail
    rw [← HY.out.1]
    obtain ⟨y0, y1, y2, y3, y4, y5⟩ := own6 HY.out.2.1
    exact bodyPost_ret (v := .agg #[.slice Aa la.length ca, .slice Ab lb.length cb, .int .i64 m.i, .int .i64 m.j, .slice As m.f.length cs, .slice Ao lo_.length co]) (by simp [results, Tryz.results7, go_sem, y0, y1, y2, y3, y4, y5]) rfl ⟨⟨Aa, ca, la, Ab, cb, lb, m.i, m.j, As, cs, m.f, Ao, co, lo_⟩, rfl, HOK.out.1, hKU.out.1, HOK.out.2, hKU.out.2.1, HY.out.2.2, hKU.out.2.2⟩
end Go.Proofs.YtllpfngmnccejaaGreat
namespace Go.Proofs.YtllpfngmnccejaaGreat
open Go Go.RowKit

structure SameS (s s' : MS) : Prop where
  ta : s.ta.map Up.p = s'.ta.map Up.p
  ra : s.ra.map Up.p = s'.ra.map Up.p
  tb : s.tb.map Up.p = s'.tb.map Up.p
  rb : s.rb.map Up.p = s'.rb.map Up.p
  out : s.out = s'.out
  cost : s.cost = s'.cost
  E : s.E = s'.E
theorem grp_p {u u' : Up} (hu : u.p = u'.p) : ∀ {r r' : List Up}, r.map Up.p = r'.map Up.p → (grp u r).map Up.p = (grp u' r').map Up.p
  | [], [], _ => rfl
  | [], y :: _, h => by cases h
  | x :: _, [], h => by cases h
  | x :: r, y :: r', h => by
    rw [List.map_cons, List.map_cons] at h
    injection h with h1 h2
    have ih := grp_p hu h2
    have e := plc_p h1 hu
    unfold grp at ih ⊢
    rw [List.takeWhile_cons, List.takeWhile_cons, e]
    split
    · rw [List.map_cons, List.map_cons, h1, ih]
    · rfl
theorem next_p {ra ra' rb rb' : List Up} (h : ra.map Up.p = ra'.map Up.p) (k : rb.map Up.p = rb'.map Up.p) : (nextM ra rb).map Up.p = (nextM ra' rb').map Up.p := by
  cases ra with
  | nil =>
    cases ra' with
    | cons y t => cases h
    | nil =>
      cases rb with
      | nil => cases rb' with | nil => rfl | cons y t => cases k
      | cons x s =>
        cases rb' with
        | nil => cases k
        | cons y t =>
          rw [List.map_cons, List.map_cons] at k
          injection k with k1 _
          simp only [nextM, Option.map_some, k1]
  | cons x s =>
    cases ra' with
    | nil => cases h
    | cons x' s' =>
      rw [List.map_cons, List.map_cons] at h
      injection h with h1 _
      cases rb with
      | nil => cases rb' with
        | nil => simp only [nextM, Option.map_some, h1]
        | cons y t => cases k
      | cons y t =>
        cases rb' with
        | nil => cases k
        | cons y' t' =>
          rw [List.map_cons, List.map_cons] at k
          injection k with k1 _
          simp only [nextM]
          rw [plc_p h1 k1]
          split
          · simp only [Option.map_some, h1]
          · simp only [Option.map_some, k1]
theorem step_p {f : List Tm} {s s' : MS} {u u' : Up} (h : SameS s s') (hu : u.p = u'.p) : SameS (s.step f u) (s'.step f u') := by
  have ga := grp_p hu h.ra
  have gb := grp_p hu h.rb
  have la := len_p ga
  have lb := len_p gb
  have hc := (consL_p (advL_p f (app_p ga gb))).1
  refine ⟨app_p h.ta ga, ?_, app_p h.tb gb, ?_, ?_, ?_, rfl⟩
  · show (s.ra.drop _).map Up.p = (s'.ra.drop _).map Up.p
    rw [la]; exact drop_p h.ra _
  · show (s.rb.drop _).map Up.p = (s'.rb.drop _).map Up.p
    rw [lb]; exact drop_p h.rb _
  · show s.out ++ _ = s'.out ++ _
    rw [h.out, hc]
  · show s.cost + _ = s'.cost + _
    rw [h.cost, la, lb]
theorem workM_p {f : List Tm} {fuel : Int} : ∀ (n : Nat) {s s' : MS}, SameS s s' → SameS (workM f fuel n s) (workM f fuel n s')
  | 0, _, _, h => h
  | n + 1, s, s', h => by
    by_cases hc : (s.cost : Int) < fuel
    case neg =>
      have hc' : ¬ (s'.cost : Int) < fuel := by rw [← h.cost]; exact hc
      rw [workM, workM, if_neg hc, if_neg hc']
      exact h
    have hc' : (s'.cost : Int) < fuel := by rw [← h.cost]; exact hc
    have hn := next_p h.ra h.rb
    cases hu : nextM s.ra s.rb with
    | none =>
      rw [hu] at hn
      have hu' : nextM s'.ra s'.rb = none := by
        cases e : nextM s'.ra s'.rb with
        | none => rfl
        | some y => rw [e] at hn; cases hn
      rw [work_none hu, work_none hu']
      exact h
    | some u =>
      rw [hu] at hn
      obtain ⟨u', hu'⟩ : ∃ u', nextM s'.ra s'.rb = some u' := by
        cases e : nextM s'.ra s'.rb with
        | none => rw [e] at hn; cases hn
        | some y => exact ⟨y, rfl⟩
      rw [hu'] at hn
      simp only [Option.map_some, Option.some.injEq] at hn
      have hE := (consL_p (advL_p f (app_p (grp_p hn h.ra) (grp_p hn h.rb)))).2
      by_cases h0 : consE [advL f (grp u s.ra ++ grp u s.rb)] = 0
      · rw [work_more hc hu h0, work_more hc' hu' (hE ▸ h0)]
        exact workM_p n (step_p h hn)
      · rw [work_err hc hu h0, work_err hc' hu' (hE ▸ h0)]
        exact ⟨h.ta, h.ra, h.tb, h.rb, h.out, h.cost, hE⟩
theorem start_p {a a' b b' : List Up} (i j : Nat) (o : List (Uk × Int)) (ha : a.map Up.p = a'.map Up.p) (hb : b.map Up.p = b'.map Up.p) : SameS (startM a i b j o) (startM a' i b' j o) :=
  ⟨take_p ha i, drop_p ha i, take_p hb j, drop_p hb j, rfl, rfl, rfl⟩
/-- two that work on of one merger -/
theorem workok_same {m x y : Mg} {fuel c c' E E' : Int} (h : WorkOk m x fuel c E) (k : WorkOk m y fuel c' E') : SameM x y ∧ c = c' ∧ E = E' := by
  obtain ⟨n, s, hn, hs, hc, hE, hi, hj, ho⟩ := h.s
  obtain ⟨n', s', hn', hs', hc', hE', hi', hj', ho'⟩ := k.s
  have hss : SameS s s' := by
    rw [hs, hs', ← hn, ← hn']
    exact workM_p _ (start_p _ _ _ (h.a.trans k.a.symm) (h.b.trans k.b.symm))
  refine ⟨⟨h.a.trans k.a.symm, h.b.trans k.b.symm, ?_, ?_, h.f.trans k.f.symm, ?_⟩, ?_, ?_⟩
  · rw [hi, hi', len_p hss.ta]
  · rw [hj, hj', len_p hss.tb]
  · rw [ho, ho', hss.out]
  · rw [hc, hc', hss.cost]
  · rw [hE, hE', hss.E]
end Go.Proofs.YtllpfngmnccejaaGreat
namespace Go.Proofs.YtllpfngmnccejaaGreat
open Go Go.RowKit

theorem mg_ubox (w : World) (m : Mg) : ∃ V, V = (w.alloc (.cells #[.slice m.aA m.a.length m.ac, .slice m.bA m.b.length m.bc, .int .i64 m.i, .int .i64 m.j, .slice m.sA m.f.length m.sc, .slice m.oA m.o.length m.oc] 25)).alloc (.cells #[.slice none 0 0, .slice none 0 0, .int .u64 0, .int .u64 0, .int .u64 0, .int .i64 0] 48) ∧ Below w.heap.size w V ∧ V.heap.size = w.heap.size + 2 ∧ Own V w.heap.size 25 m.cells ∧ Own V (w.heap.size + 1) 48 [.slice none 0 0, .slice none 0 0, .int .u64 0, .int .u64 0, .int .u64 0, .int .i64 0] := by
  obtain ⟨W1, e1, s1, b1, o1⟩ := boxd w m.cells 25
  obtain ⟨W2, e2, s2, b2, o2⟩ := boxd W1 [.slice none 0 0, .slice none 0 0, .int .u64 0, .int .u64 0, .int .u64 0, .int .i64 0] 48
  rw [s1] at o2
  exact ⟨W2, by rw [e2, e1]; rfl, belows b1 b2, by omega, o1.past b2 o1.inside, o2⟩
set_option maxRecDepth 100000 in
set_option maxHeartbeats 12800000 in
theorem rnext_any (m : Mg) (i j : Nat) (w : World) (ei : m.i = (i : Int)) (ej : m.j = (j : Int)) (ha : Ups w w.heap.size m.aA m.a) (oa : UsOk m.a) (hb : Ups w w.heap.size m.bA m.b) (ob : UsOk m.b) (hi : i ≤ m.a.length) (hj : j ≤ m.b.length) (hl : i < m.a.length ∨ j < m.b.length) :
    Calls Tryz.prog 30 #[m.val] w (Nexts m i j w) := by
  obtain ⟨V, hV, hvb, hvs, hvo, hvz⟩ := mg_ubox w m
  have hC := fun p : Past V => own6 (hvo.past p.h hvo.inside)
  have hZ := Lib.hid (fun (W : World) (h : Below V.heap.size V W) => hvz.past h hvz.inside)
  have hia := (ha.past hvb (Nat.le_refl _)).wide hvb.size
  have hib := (hb.past hvb (Nat.le_refl _)).wide hvb.size
  have HB := Lib.hid (And.intro hvb hvs)
  have na := oa.n
  have nb := ob.n
  rw [show m.val = .agg #[.slice m.aA m.a.length m.ac, .slice m.bA m.b.length m.bc, .int .i64 m.i, .int .i64 m.j, .slice m.sA m.f.length m.sc, .slice m.oA m.o.length m.oc] from rfl]
  rw [ei, ej] at hV hC ⊢
  by_cases h1 : i < m.a.length
  case neg =>
    have t1 : ((i : Int) == (m.a.length : Int)) = true := by simp; omega
    have hy1 : j < m.b.length := by omega
    have hyx : m.b[j]? = some m.b[j] := List.getElem?_eq_getElem hy1
    have hym := List.mem_of_getElem? hyx
    generalize m.b[j] = y at *
    have hyo := ob.ok y hym
    have hyn := hib.each_ y hym
    obtain ⟨qy, oy_, hyA, hyB, hys⟩ := lies_up hib.head (by omega)
    have hyX := fun p : Past V => ((hys j y hyx).past_ p.h hyB).six
    have hyi := fun p : Past V => (hyn.past p.h (Nat.le_refl _)).wide p.h.size
    have hyq0 : (0 : Int) ≤ (j : Int) := by omega
    have hyq1 : (j : Int) < (m.b.length : Int) := by omega
    rw [hyA] at hC
    have HD := Lib.hid (And.intro (next_b (a := m.a) (i := i) hyx (by omega)) (show y ∈ m.a ∨ y ∈ m.b from .inr hym))
    clear ha oa hb ob hi hj hl hvb hvs hvo hvz hia hib na nb h1 hy1 hyx hym hyo hyn hyA hys hyB hyi
    go_enter Tryz.func30, Tryz.ntmps30
    go_upto_region 1 with fail
    rw [← hV]
    clear hV
    have hz := hZ.out (⟨V, Below.refl _ _⟩ : Past V).w (⟨V, Below.refl _ _⟩ : Past V).h
    obtain ⟨f0, f1, f2, f3, f4, f5⟩ := own_frozen6 hz
    obtain ⟨z0, z1, z2, z3, z4, z5⟩ := own6 hz
    obtain ⟨c0, c1, c2, c3, c4, c5⟩ := hC (⟨V, Below.refl _ _⟩ : Past V)
    obtain ⟨e0, e1, e2, e3, e4, e5⟩ := hyX (⟨V, Below.refl _ _⟩ : Past V)
    obtain ⟨X, hX', hXo, hXb, hXs, hXh⟩ := own_six hz (.slice y.kA y.key.length y.kc) (.slice y.rA y.row.length y.rc) (.int .u64 (y.t.e : Int)) (.int .u64 (y.t.a : Int)) (.int .u64 (y.t.b : Int)) (.int .i64 y.d)
    have HX := Lib.hid (And.intro (hXb w.heap.size w (HB.out.1.trans (((⟨V, Below.refl _ _⟩ : Past V).h).mono HB.out.1.size)) (Nat.le_succ _)) hXo)
    have HR := Lib.hid hX'
    clear hz hXo hXb hXs hXh hX' hC hyX
    try dsimp only at c0 c1 c2 c3 c4 c5 e0 e1 e2 e3 e4 e5 z0 z1 z2 z3 z4 z5 f0 f1 f2 f3 f4 f5
    go_wp2_with fail
    rw [← HR.out]
    obtain ⟨x0, x1, x2, x3, x4, x5⟩ := own6 HX.out.2
    exact bodyPost_ret (v := .agg #[.slice y.kA y.key.length y.kc, .slice y.rA y.row.length y.rc, .int .u64 (y.t.e : Int), .int .u64 (y.t.a : Int), .int .u64 (y.t.b : Int), .int .i64 y.d]) (by simp [results, Tryz.results30, go_sem, x0, x1, x2, x3, x4, x5]) rfl ⟨y, HD.out.1, HD.out.2, rfl, HX.out.1⟩
  have t1 : ((i : Int) == (m.a.length : Int)) = false := by simp; omega
  have hx1 : i < m.a.length := by omega
  have hxx : m.a[i]? = some m.a[i] := List.getElem?_eq_getElem hx1
  have hxm := List.mem_of_getElem? hxx
  generalize m.a[i] = x at *
  have hxo := oa.ok x hxm
  have hxn := hia.each_ x hxm
  obtain ⟨qx, ox_, hxA, hxB, hxs⟩ := lies_up hia.head (by omega)
  have hxX := fun p : Past V => ((hxs i x hxx).past_ p.h hxB).six
  have hxi := fun p : Past V => (hxn.past p.h (Nat.le_refl _)).wide p.h.size
  have hxq0 : (0 : Int) ≤ (i : Int) := by omega
  have hxq1 : (i : Int) < (m.a.length : Int) := by omega
  rw [hxA] at hC
  by_cases h2 : j < m.b.length
  case neg =>
    have t2 : ((j : Int) == (m.b.length : Int)) = true := by simp; omega
    have HD := Lib.hid (And.intro (next_a (b := m.b) (j := j) hxx (by omega)) (show x ∈ m.a ∨ x ∈ m.b from .inl hxm))
    clear ha oa hb ob hi hj hl hvb hvs hvo hvz hia hib na nb h1 h2 hx1 hxx hxm hxo hxn hxA hxs hxB hxi
    go_enter Tryz.func30, Tryz.ntmps30
    go_upto_region 1 with fail
    rw [← hV]
    clear hV
    obtain ⟨d0, d1, d2, d3, d4, d5⟩ := hC ⟨V, Below.refl _ _⟩
    dsimp only at d0 d1 d2 d3 d4 d5
    go_upto_region 3 with fail
    clear d0 d1 d2 d3 d4 d5
    refine wp_region_past V (by kernel_rfl) (by kernel_rfl) (Below.refl _ _) ?_
    repeat (first | go_big_quiet_step (fail) | quiet_step (fail))
    refine wpQuiet_nil ?_
    intro wz hw'
    obtain ⟨p, hw''⟩ := hw'
    subst hw''
    have hz := hZ.out p.w p.h
    obtain ⟨f0, f1, f2, f3, f4, f5⟩ := own_frozen6 hz
    obtain ⟨z0, z1, z2, z3, z4, z5⟩ := own6 hz
    obtain ⟨c0, c1, c2, c3, c4, c5⟩ := hC p
    obtain ⟨e0, e1, e2, e3, e4, e5⟩ := hxX p
    obtain ⟨X, hX', hXo, hXb, hXs, hXh⟩ := own_six hz (.slice x.kA x.key.length x.kc) (.slice x.rA x.row.length x.rc) (.int .u64 (x.t.e : Int)) (.int .u64 (x.t.a : Int)) (.int .u64 (x.t.b : Int)) (.int .i64 x.d)
    have HX := Lib.hid (And.intro (hXb w.heap.size w (HB.out.1.trans ((p.h).mono HB.out.1.size)) (Nat.le_succ _)) hXo)
    have HR := Lib.hid hX'
    clear hz hXo hXb hXs hXh hX' hC hxX
    try dsimp only at c0 c1 c2 c3 c4 c5 e0 e1 e2 e3 e4 e5 z0 z1 z2 z3 z4 z5 f0 f1 f2 f3 f4 f5
    go_wp2_with fail
    rw [← HR.out]
    obtain ⟨x0, x1, x2, x3, x4, x5⟩ := own6 HX.out.2
    exact bodyPost_ret (v := .agg #[.slice x.kA x.key.length x.kc, .slice x.rA x.row.length x.rc, .int .u64 (x.t.e : Int), .int .u64 (x.t.a : Int), .int .u64 (x.t.b : Int), .int .i64 x.d]) (by simp [results, Tryz.results30, go_sem, x0, x1, x2, x3, x4, x5]) rfl ⟨x, HD.out.1, HD.out.2, rfl, HX.out.1⟩
  have t2 : ((j : Int) == (m.b.length : Int)) = false := by simp; omega
  have hy1 : j < m.b.length := by omega
  have hyx : m.b[j]? = some m.b[j] := List.getElem?_eq_getElem hy1
  have hym := List.mem_of_getElem? hyx
  generalize m.b[j] = y at *
  have hyo := ob.ok y hym
  have hyn := hib.each_ y hym
  obtain ⟨qy, oy_, hyA, hyB, hys⟩ := lies_up hib.head (by omega)
  have hyX := fun p : Past V => ((hys j y hyx).past_ p.h hyB).six
  have hyi := fun p : Past V => (hyn.past p.h (Nat.le_refl _)).wide p.h.size
  have hyq0 : (0 : Int) ≤ (j : Int) := by omega
  have hyq1 : (j : Int) < (m.b.length : Int) := by omega
  rw [hyA] at hC
  have u1 := fun p : Past V => calls_past (rplace_any x y p.w (hxi p) (hyi p) hxo hyo)
  unfold Up.val at u1
  by_cases hp : plc x y ≤ 0
  · have HD := Lib.hid (And.intro ((next_ab hxx hyx).trans (if_pos hp)) (show x ∈ m.a ∨ x ∈ m.b from .inl hxm))
    have t3 : decide (plc x y ≤ 0) = true := decide_eq_true hp
    generalize plc x y = pxy at *
    clear ha oa hb ob hi hj hl hvb hvs hvo hvz hia hib na nb h1 h2 hp hx1 hxx hxm hxo hxn hxA hxs hxB hxi hy1 hyx hym hyo hyn hyA hys hyB hyi
    go_enter Tryz.func30, Tryz.ntmps30
    go_upto_region 1 with fail
    rw [← hV]
    clear hV
    obtain ⟨d0, d1, d2, d3, d4, d5⟩ := hC ⟨V, Below.refl _ _⟩
    dsimp only at d0 d1 d2 d3 d4 d5
    go_upto_region 3 with fail
    clear d0 d1 d2 d3 d4 d5
    refine wp_region_past V (by kernel_rfl) (by kernel_rfl) (Below.refl _ _) ?_
    repeat (first | go_big_quiet_step (fail) | quiet_step (fail))
    quiet_step ((go_at_call 31; exact u1 _))
    repeat (first | go_big_quiet_step (fail) | quiet_step (fail))
    clear u1
    refine wpQuiet_nil ?_
    intro wz hw'
    obtain ⟨p, hw''⟩ := hw'
    subst hw''
    have hz := hZ.out p.w p.h
    obtain ⟨f0, f1, f2, f3, f4, f5⟩ := own_frozen6 hz
    obtain ⟨z0, z1, z2, z3, z4, z5⟩ := own6 hz
    obtain ⟨c0, c1, c2, c3, c4, c5⟩ := hC p
    obtain ⟨e0, e1, e2, e3, e4, e5⟩ := hxX p
    obtain ⟨X, hX', hXo, hXb, hXs, hXh⟩ := own_six hz (.slice x.kA x.key.length x.kc) (.slice x.rA x.row.length x.rc) (.int .u64 (x.t.e : Int)) (.int .u64 (x.t.a : Int)) (.int .u64 (x.t.b : Int)) (.int .i64 x.d)
    have HX := Lib.hid (And.intro (hXb w.heap.size w (HB.out.1.trans ((p.h).mono HB.out.1.size)) (Nat.le_succ _)) hXo)
    have HR := Lib.hid hX'
    clear hz hXo hXb hXs hXh hX' hC hxX
    try dsimp only at c0 c1 c2 c3 c4 c5 e0 e1 e2 e3 e4 e5 z0 z1 z2 z3 z4 z5 f0 f1 f2 f3 f4 f5
    go_wp2_with fail
    rw [← HR.out]
    obtain ⟨x0, x1, x2, x3, x4, x5⟩ := own6 HX.out.2
    exact bodyPost_ret (v := .agg #[.slice x.kA x.key.length x.kc, .slice x.rA x.row.length x.rc, .int .u64 (x.t.e : Int), .int .u64 (x.t.a : Int), .int .u64 (x.t.b : Int), .int .i64 x.d]) (by simp [results, Tryz.results30, go_sem, x0, x1, x2, x3, x4, x5]) rfl ⟨x, HD.out.1, HD.out.2, rfl, HX.out.1⟩
  · have HD := Lib.hid (And.intro ((next_ab hxx hyx).trans (if_neg hp)) (show y ∈ m.a ∨ y ∈ m.b from .inr hym))
    have t3 : decide (plc x y ≤ 0) = false := decide_eq_false hp
    generalize plc x y = pxy at *
    clear ha oa hb ob hi hj hl hvb hvs hvo hvz hia hib na nb h1 h2 hp hx1 hxx hxm hxo hxn hxA hxs hxB hxi hy1 hyx hym hyo hyn hyA hys hyB hyi
    go_enter Tryz.func30, Tryz.ntmps30
    go_upto_region 1 with fail
    rw [← hV]
    clear hV
    obtain ⟨d0, d1, d2, d3, d4, d5⟩ := hC ⟨V, Below.refl _ _⟩
    dsimp only at d0 d1 d2 d3 d4 d5
    go_upto_region 3 with fail
    clear d0 d1 d2 d3 d4 d5
    refine wp_region_past V (by kernel_rfl) (by kernel_rfl) (Below.refl _ _) ?_
    repeat (first | go_big_quiet_step (fail) | quiet_step (fail))
    quiet_step ((go_at_call 31; exact u1 _))
    repeat (first | go_big_quiet_step (fail) | quiet_step (fail))
    clear u1
    refine wpQuiet_nil ?_
    intro wz hw'
    obtain ⟨p, hw''⟩ := hw'
    subst hw''
    have hz := hZ.out p.w p.h
    obtain ⟨f0, f1, f2, f3, f4, f5⟩ := own_frozen6 hz
    obtain ⟨z0, z1, z2, z3, z4, z5⟩ := own6 hz
    obtain ⟨c0, c1, c2, c3, c4, c5⟩ := hC p
    obtain ⟨e0, e1, e2, e3, e4, e5⟩ := hyX p
    obtain ⟨X, hX', hXo, hXb, hXs, hXh⟩ := own_six hz (.slice y.kA y.key.length y.kc) (.slice y.rA y.row.length y.rc) (.int .u64 (y.t.e : Int)) (.int .u64 (y.t.a : Int)) (.int .u64 (y.t.b : Int)) (.int .i64 y.d)
    have HX := Lib.hid (And.intro (hXb w.heap.size w (HB.out.1.trans ((p.h).mono HB.out.1.size)) (Nat.le_succ _)) hXo)
    have HR := Lib.hid hX'
    clear hz hXo hXb hXs hXh hX' hC hyX
    try dsimp only at c0 c1 c2 c3 c4 c5 e0 e1 e2 e3 e4 e5 z0 z1 z2 z3 z4 z5 f0 f1 f2 f3 f4 f5
    go_wp2_with fail
    rw [← HR.out]
    obtain ⟨x0, x1, x2, x3, x4, x5⟩ := own6 HX.out.2
    exact bodyPost_ret (v := .agg #[.slice y.kA y.key.length y.kc, .slice y.rA y.row.length y.rc, .int .u64 (y.t.e : Int), .int .u64 (y.t.a : Int), .int .u64 (y.t.b : Int), .int .i64 y.d]) (by simp [results, Tryz.results30, go_sem, x0, x1, x2, x3, x4, x5]) rfl ⟨y, HD.out.1, HD.out.2, rfl, HX.out.1⟩
end Go.Proofs.YtllpfngmnccejaaGreat
namespace Go.Proofs.YtllpfngmnccejaaGreat
open Go Go.RowKit

section
variable {α : Type} {size : Nat} {cells : α → List Value}
/-- 'append(v, s...)' onto a row of the call's own: and what else is as it was -/
theorem wpList_append_liesK {P : Program} (w : World) {ops : Array Oper} {rest : List Oper} {o : Oper} {a : Act} {Q : Exit → Act → World → Prop} {B : Nat} {A : Option Addr} {l : List α} (hgd : o.guard = none) (s x : Operand) (t e : TypeId)
    (ho : o.op = .call { callee := .builtin .append, args := #[s, x], argTypes := #[t, t] })
    (i0 : TypeInfo) (z : Value) (bytes : Nat) (ht : P.underlying t = some (.slice e)) (hi : P.info? e = some i0) (hz0 : i0.zero = some z) (hz1 : i0.size = size) (hz2 : i0.bytes = bytes) (hzs : z.cells.size = size) (hpos : 0 < size) (hcl : ∀ x, (cells x).length = size) (hone : ∀ x, ∀ u ∈ cells x, u.oneCell' = true)
    (base : Nat) (v : Value) (n : Nat) (xs : List Value) (hs : a.eval s = v) (hown : w.ownsRow base e size v n xs)
    (c : Nat) (hx : a.eval x = .slice A l.length c) (hl : Lies size cells w B A l) (h63 : n + l.length ≤ maxLen) (hn : (n + l.length) * bytes ≤ 140737488355328) (hbase : base ≤ w.heap.size)
    (h : ∀ v' w', w'.ownsRow base e size v' (n + l.length) (xs ++ l.flatMap cells) → w.grownBy w' v.ownBlock → (v'.ownBlock = v.ownBlock ∨ v'.ownBlock = some w.heap.size) → wpList P ops Q rest (a.put o.dst v') w') :
    wpList P ops Q (o :: rest) a w := by
  refine wpList_plain hgd fun K hK => ?_
  obtain ⟨v', w', hrun, ho', hg, hb⟩ : ∃ v' w', (Builtin.append_ #[t, t] o.type #[v, .slice A l.length c]).run P w = .ok v' w' ∧ w'.ownsRow base e size v' (n + l.length) (xs ++ l.flatMap cells) ∧ w.grownBy w' v.ownBlock ∧ (v'.ownBlock = v.ownBlock ∨ v'.ownBlock = some w.heap.size) := by
    cases A with
    | none =>
      have h0 : l = [] := by
        cases l with
        | nil => rfl
        | cons x l => obtain ⟨_, _, e, _⟩ := hl (by simp); cases e
      subst h0
      exact ⟨v, w, run_append_none w base _ _ _ i0 size ht hi v n xs hown c, by simpa using hown, ⟨rfl, rfl, rfl, Nat.le_refl _, fun _ _ _ => rfl⟩, .inl rfl⟩
    | some ad =>
      have hnews : ∀ j u, (l.flatMap cells)[j]? = some u → w.cell? (ad.add j) = some u := by
        intro j u hu
        obtain ⟨i, r, y, rfl, hi, hr⟩ := flat_back hpos hcl l j u hu
        have hp : 0 < l.length := by have := (List.getElem?_eq_some_iff.1 hi).1; omega
        obtain ⟨b, o, e, _, hc⟩ := hl hp
        obtain rfl : ad = ⟨b, o, none⟩ := by injection e
        have ea : (⟨b, o, none⟩ : Addr).add (i * size + r) = ⟨b, o + i * size + r, none⟩ := by unfold Addr.add; split <;> simp_all <;> omega
        rw [ea]
        exact hc i y hi r u hr
      obtain ⟨v', w', hr, h2, h3, _, h5⟩ := run_append_own_at (P := P) w base t o.type e i0 _ size bytes ht hi hz0 hz1 hz2 hzs hpos v n xs hown ad l.length c (l.flatMap cells) (flat_size hcl l) hnews
        (fun u hu => by obtain ⟨y, _, hy⟩ := List.mem_flatMap.1 hu; exact hone y u hy) h63 hn hbase
      exact ⟨v', w', hr, h2, h3, h5⟩
  unfold Oper.wp execOp
  simp only [ho, resolve, invoke, builtin, Sem.run_bind, Sem.run_pure, Result.andThen_ok, List.map_toArray, List.map_cons, List.map_nil, hs, hx, hrun]
  exact hK _ _ (h v' w' ho' hg hb)
end
end Go.Proofs.YtllpfngmnccejaaGreat
namespace Go.Proofs.YtllpfngmnccejaaGreat
open Go Go.RowKit

theorem u8_eqK {a b : UInt8} (h1 : ¬ a < b) (h2 : ¬ b < a) : a = b := by
  rw [UInt8.lt_iff_toNat_lt] at h1 h2
  exact UInt8.toNat_inj.1 (by omega)
theorem cmpB_casesK : ∀ a b : List UInt8, (Lib.compareBytes a b = -1 ∧ Op.bytesLess a b = true) ∨ (Lib.compareBytes a b = 0 ∧ Op.bytesLess a b = false ∧ a = b) ∨ (Lib.compareBytes a b = 1 ∧ Op.bytesLess a b = false ∧ a ≠ b)
  | [], [] => .inr (.inl ⟨rfl, rfl, rfl⟩)
  | [], _ :: _ => .inl ⟨rfl, rfl⟩
  | _ :: _, [] => .inr (.inr ⟨rfl, rfl, by simp⟩)
  | x :: a, y :: b => by
    have ih := cmpB_casesK a b
    unfold Lib.compareBytes Op.bytesLess
    by_cases h1 : x < y
    · left; simp [h1]
    · by_cases h2 : y < x
      · have hne : x ≠ y := fun e => by subst e; exact h1 h2
        right; right; simp [h1, h2, hne]
      · have he := u8_eqK h1 h2
        subst he
        simpa [h1] using ih


theorem cmpB_swapK : ∀ a b : List UInt8, Lib.compareBytes b a = - Lib.compareBytes a b
  | [], [] => rfl
  | [], _ :: _ => rfl
  | _ :: _, [] => rfl
  | x :: a, y :: b => by
    have ih := cmpB_swapK a b
    unfold Lib.compareBytes
    by_cases h1 : x < y
    · have h2 : ¬ y < x := by rw [UInt8.lt_iff_toNat_lt] at *; omega
      simp [h1, h2]
    · by_cases h2 : y < x
      · simp [h1, h2]
      · simp [h1, h2, ih]
theorem cmpB_zeroK {a b : List UInt8} : Lib.compareBytes a b = 0 ↔ a = b := by
  rcases cmpB_casesK a b with ⟨h, _⟩ | ⟨h, _, rfl⟩ | ⟨h, _, hn⟩
  · rw [h]; refine ⟨fun h => by omega, fun e => ?_⟩
    subst e
    have := cmpB_swapK a a
    omega
  · simp [h]
  · rw [h]; exact ⟨fun h => by omega, fun e => absurd e hn⟩
theorem cmpB_leK : ∀ a b c : List UInt8, Lib.compareBytes a b ≤ 0 → Lib.compareBytes b c ≤ 0 → Lib.compareBytes a c ≤ 0 ∧ (Lib.compareBytes a b < 0 ∨ Lib.compareBytes b c < 0 → Lib.compareBytes a c < 0)
  | [], _, [], _, h => by
    rename_i b _
    cases b with
    | nil => exact ⟨by decide, by decide⟩
    | cons x b => simp [Lib.compareBytes] at h
  | [], [], _ :: _, _, _ => ⟨by simp [Lib.compareBytes], fun _ => by simp [Lib.compareBytes]⟩
  | [], _ :: _, _ :: _, _, _ => ⟨by simp [Lib.compareBytes], fun _ => by simp [Lib.compareBytes]⟩
  | _ :: _, [], _, h, _ => by simp [Lib.compareBytes] at h
  | _ :: _, _ :: _, [], _, h => by simp [Lib.compareBytes] at h
  | x :: a, y :: b, z :: c, h, k => by
    have ih := cmpB_leK a b c
    unfold Lib.compareBytes at h k ⊢
    simp only [UInt8.lt_iff_toNat_lt] at *
    by_cases h1 : x.toNat < y.toNat
    · by_cases h2 : y.toNat < z.toNat
      · have h3 : x.toNat < z.toNat := by omega
        simp [h1, h2, h3]
      · by_cases h4 : z.toNat < y.toNat
        · simp [h2, h4] at k
        · have h3 : x.toNat < z.toNat := by omega
          simp [h1, h2, h4, h3]
    · by_cases h5 : y.toNat < x.toNat
      · simp [h1, h5] at h
      · by_cases h2 : y.toNat < z.toNat
        · have h3 : x.toNat < z.toNat := by omega
          simp [h1, h5, h2, h3]
        · by_cases h4 : z.toNat < y.toNat
          · simp [h2, h4] at k
          · have h3 : ¬ x.toNat < z.toNat := by omega
            have h6 : ¬ z.toNat < x.toNat := by omega
            simp only [h1, h5, h2, h4, h3, h6, if_false] at h k ⊢
            exact ih h k

/-- a file: its name, and what it contains -/
structure Fl where
  n : ByteArray
  d : ByteArray
instance : Inhabited Fl := ⟨⟨⟨#[]⟩, ⟨#[]⟩⟩⟩
def cmpN (a b : ByteArray) : Int := Lib.compareBytes a.data.toList b.data.toList
theorem bytes_eq {a b : ByteArray} : a.data.toList = b.data.toList ↔ a = b := ⟨str_ext, fun h => by rw [h]⟩
theorem cmpN_zero {a b : ByteArray} : cmpN a b = 0 ↔ a = b := by unfold cmpN; rw [cmpB_zeroK, bytes_eq]
theorem cmpN_swap (a b : ByteArray) : cmpN b a = - cmpN a b := cmpB_swapK _ _
theorem cmpN_lt {a b c : ByteArray} (h : cmpN a b < 0) (k : cmpN b c < 0) : cmpN a c < 0 := (cmpB_leK _ _ _ (by unfold cmpN at h; omega) (by unfold cmpN at k; omega)).2 (.inl h)
theorem cmpN_le {a b c : ByteArray} (h : cmpN a b ≤ 0) (k : cmpN b c < 0) : cmpN a c < 0 := (cmpB_leK _ _ _ h (by unfold cmpN at k; omega)).2 (.inr k)
theorem cmpN_le' {a b c : ByteArray} (h : cmpN a b < 0) (k : cmpN b c ≤ 0) : cmpN a c < 0 := (cmpB_leK _ _ _ (by unfold cmpN at h; omega) k).2 (.inl h)
theorem cmpN_self (a : ByteArray) : cmpN a a = 0 := cmpN_zero.2 rfl
/-- names that ascend -/
def SortedN (ns : List ByteArray) : Prop := ns.Pairwise (fun a b => cmpN a b < 0)
def posN (ns : List ByteArray) (n : ByteArray) : Nat := ns.countP (fun x => decide (cmpN x n < 0))
def hasN (ns : List ByteArray) (n : ByteArray) : Bool := ns.any (fun x => decide (x = n))
theorem hasN_mem {ns : List ByteArray} {n : ByteArray} : hasN ns n = true ↔ n ∈ ns := by
  unfold hasN; rw [List.any_eq_true]
  exact ⟨fun ⟨x, hx, e⟩ => by have := of_decide_eq_true e; rwa [← this], fun h => ⟨n, h, by simp⟩⟩
theorem hasN_not {ns : List ByteArray} {n : ByteArray} : hasN ns n = false ↔ n ∉ ns := by rw [← hasN_mem]; simp
theorem posN_le (ns : List ByteArray) (n : ByteArray) : posN ns n ≤ ns.length := List.countP_le_length
theorem posN_zero {ns : List ByteArray} {n : ByteArray} (h : ∀ x ∈ ns, 0 ≤ cmpN x n) : posN ns n = 0 := by
  unfold posN; rw [List.countP_eq_zero]; intro x hx; have := h x hx; simp; omega
theorem posN_at {ns : List ByteArray} {n : ByteArray} (hs : SortedN ns) : ∀ i x, ns[i]? = some x → (i < posN ns n ↔ cmpN x n < 0) := by
  induction ns with
  | nil => simp
  | cons y r ih =>
    obtain ⟨h1, h2⟩ := List.pairwise_cons.1 hs
    intro i x hx
    by_cases hy : cmpN y n < 0
    · have e : posN (y :: r) n = posN r n + 1 := by unfold posN; rw [List.countP_cons]; simp [hy]
      rw [e]
      cases i with
      | zero => obtain rfl : y = x := by simpa using hx
                exact ⟨fun _ => hy, fun _ => by omega⟩
      | succ i =>
        have := ih h2 i x (by simpa using hx)
        rw [← this]; omega
    · have e : posN (y :: r) n = 0 := posN_zero fun x hx => by
        rcases List.mem_cons.1 hx with rfl | hx
        · omega
        · have hyx := h1 x hx
          by_cases hc : 0 ≤ cmpN x n
          · exact hc
          · have := cmpN_lt hyx (show cmpN x n < 0 by omega); omega
      rw [e]
      refine ⟨fun h => by omega, fun h => ?_⟩
      exfalso
      cases i with
      | zero => obtain rfl : y = x := by simpa using hx
                exact hy h
      | succ i =>
        have hm : x ∈ r := List.mem_of_getElem? (show r[i]? = some x by simpa using hx)
        exact hy (cmpN_lt (h1 x hm) h)
/-- where a name stands that is there -/
theorem posN_has {ns : List ByteArray} {n : ByteArray} (hs : SortedN ns) (h : hasN ns n = true) : ns[posN ns n]? = some n := by
  have hm : n ∈ ns := hasN_mem.1 h
  obtain ⟨i, hi⟩ := List.getElem?_of_mem hm
  have h0 := (posN_at (n := n) hs i n hi)
  rw [cmpN_self] at h0
  have hle : posN ns n ≤ i := by omega
  rcases Nat.lt_or_ge (posN ns n) i with hlt | hge
  · have hin : i < ns.length := (List.getElem?_eq_some_iff.1 hi).1
    have hx : ns[posN ns n]? = some (ns[posN ns n]'(by omega)) := List.getElem?_eq_getElem (by omega)
    have h1 := posN_at (n := n) hs _ _ hx
    have h2 : cmpN (ns[posN ns n]'(by omega)) n < 0 := by
      have := List.pairwise_iff_getElem.1 hs (posN ns n) i (by omega) hin hlt
      rwa [(List.getElem?_eq_some_iff.1 hi).2] at this
    omega
  · have : posN ns n = i := by omega
    rw [this]; exact hi
theorem posN_not {ns : List ByteArray} {n : ByteArray} (h : hasN ns n = false) : ns[posN ns n]? ≠ some n := by
  intro hx
  exact hasN_not.1 h (List.mem_of_getElem? hx)
def namesF (l : List Fl) : List ByteArray := l.map Fl.n
def SortedF (l : List Fl) : Prop := SortedN (namesF l)
def posF (l : List Fl) (n : ByteArray) : Nat := posN (namesF l) n
def hasF (l : List Fl) (n : ByteArray) : Bool := hasN (namesF l) n
theorem posF_le (l : List Fl) (n : ByteArray) : posF l n ≤ l.length := by have := posN_le (namesF l) n; simpa [namesF, posF] using this
/-- one put in, one taken away, one made longer, one called otherwise -/
def putF (l : List Fl) (f : Fl) : List Fl := l.take (posF l f.n) ++ f :: l.drop (posF l f.n)
def takeF (l : List Fl) (n : ByteArray) : List Fl := if hasF l n then l.take (posF l n) ++ l.drop (posF l n + 1) else l
def oldF (l : List Fl) (n : ByteArray) : Fl := (l[posF l n]?).getD ⟨n, ⟨#[]⟩⟩
def extF (l : List Fl) (n d : ByteArray) : List Fl := if hasF l n then l.set (posF l n) ⟨n, (oldF l n).d ++ d⟩ else putF l ⟨n, ⟨#[]⟩ ++ d⟩
def renF (l : List Fl) (n t : ByteArray) : List Fl := if hasF l n then putF (takeF (takeF l n) t) ⟨t, (oldF l n).d⟩ else l
def getF (l : List Fl) (n : ByteArray) : Option ByteArray := (l.find? (fun f => decide (f.n = n))).map Fl.d
theorem hasF_at {l : List Fl} {n : ByteArray} (hs : SortedF l) (h : hasF l n = true) : ∃ d, l[posF l n]? = some ⟨n, d⟩ := by
  have := posN_has hs h
  unfold namesF at this
  rw [List.getElem?_map] at this
  obtain ⟨f, hf, e⟩ := Option.map_eq_some_iff.1 this
  refine ⟨f.d, ?_⟩
  unfold posF namesF
  rw [hf, ← e]
/-- a list that has a name, parted there -/
theorem parted {l : List Fl} {n : ByteArray} (hs : SortedF l) (h : hasF l n = true) : ∃ A d B, l = A ++ ⟨n, d⟩ :: B ∧ A.length = posF l n ∧ (∀ f ∈ A, cmpN f.n n < 0) ∧ (∀ f ∈ B, cmpN n f.n < 0) ∧ oldF l n = ⟨n, d⟩ := by
  obtain ⟨d, hd⟩ := hasF_at hs h
  have hlt := (List.getElem?_eq_some_iff.1 hd).1
  have e : l = l.take (posF l n) ++ ⟨n, d⟩ :: l.drop (posF l n + 1) := by
    have h1 := (List.getElem?_eq_some_iff.1 hd).2
    rw [← h1, ← List.drop_eq_getElem_cons hlt, List.take_append_drop]
  refine ⟨_, d, _, e, by rw [List.length_take]; omega, ?_, ?_, by unfold oldF; rw [hd]; rfl⟩
  · intro f hf
    unfold SortedF SortedN namesF at hs
    rw [e, List.map_append, List.pairwise_append] at hs
    exact hs.2.2 f.n (List.mem_map_of_mem hf) n (by simp)
  · intro f hf
    unfold SortedF SortedN namesF at hs
    rw [e, List.map_append, List.pairwise_append, List.map_cons, List.pairwise_cons] at hs
    exact hs.2.1.1 f.n (List.mem_map_of_mem hf)
/-- .. that has not -/
theorem parted_not {l : List Fl} {n : ByteArray} (hs : SortedF l) (h : hasF l n = false) : (∀ f ∈ l.take (posF l n), cmpN f.n n < 0) ∧ (∀ f ∈ l.drop (posF l n), cmpN n f.n < 0) := by
  have hat := posN_at (n := n) hs
  have hne : ∀ f ∈ l, f.n ≠ n := by
    intro f hf e
    have : n ∈ namesF l := by rw [← e]; exact List.mem_map_of_mem hf
    exact hasN_not.1 h this
  constructor
  · intro f hf
    obtain ⟨i, hi⟩ := List.getElem?_of_mem hf
    rw [List.getElem?_take] at hi
    split at hi
    · rename_i hlt
      exact (hat i f.n (by simp [namesF, hi])).1 hlt
    · cases hi
  · intro f hf
    obtain ⟨i, hi⟩ := List.getElem?_of_mem hf
    rw [List.getElem?_drop] at hi
    have h1 := (hat (posF l n + i) f.n (by simp [namesF, hi]))
    unfold posF at h1
    have h2 : ¬ cmpN f.n n < 0 := fun hc => by have := h1.2 hc; omega
    have h3 : cmpN f.n n ≠ 0 := fun hc => hne f (List.mem_of_mem_drop hf) (cmpN_zero.1 hc)
    rw [cmpN_swap]; omega
theorem take_of_parts {l A B : List Fl} {x : Fl} {p : Nat} (e : l = A ++ x :: B) (hp : A.length = p) : l.take p = A ∧ l.drop p = x :: B ∧ l.drop (p + 1) = B ∧ l[p]? = some x := by
  subst e hp
  refine ⟨by simp, by simp, by rw [← List.drop_drop]; simp, by simp⟩
theorem sorted_parts {A B : List Fl} {f : Fl} (ha : SortedF A) (hb : SortedF B) (h1 : ∀ x ∈ A, cmpN x.n f.n < 0) (h2 : ∀ x ∈ B, cmpN f.n x.n < 0) : SortedF (A ++ f :: B) := by
  unfold SortedF SortedN namesF at *
  rw [List.map_append, List.pairwise_append, List.map_cons, List.pairwise_cons]
  refine ⟨ha, ⟨?_, hb⟩, ?_⟩
  · intro n hn
    obtain ⟨x, hx, rfl⟩ := List.mem_map.1 hn
    exact h2 x hx
  · intro n hn m hm
    obtain ⟨x, hx, rfl⟩ := List.mem_map.1 hn
    rcases List.mem_cons.1 hm with rfl | hm
    · exact h1 x hx
    · obtain ⟨y, hy, rfl⟩ := List.mem_map.1 hm
      exact cmpN_lt (h1 x hx) (h2 y hy)
theorem sorted_sub {l m : List Fl} (h : SortedF l) (hs : m.Sublist l) : SortedF m := List.Pairwise.sublist (hs.map _) h
theorem sorted_put {l : List Fl} {f : Fl} (hs : SortedF l) (h : hasF l f.n = false) : SortedF (putF l f) := by
  obtain ⟨h1, h2⟩ := parted_not hs h
  exact sorted_parts (sorted_sub hs (List.take_sublist _ _)) (sorted_sub hs (List.drop_sublist _ _)) h1 h2
theorem sorted_take {l : List Fl} {n : ByteArray} (hs : SortedF l) : SortedF (takeF l n) := by
  unfold takeF
  split
  · rename_i h
    obtain ⟨A, d, B, e, hp, _, _, _⟩ := parted hs h
    obtain ⟨e1, _, e3, _⟩ := take_of_parts e hp
    rw [e1, e3]
    refine sorted_sub hs ?_
    rw [e]
    exact List.Sublist.append_left (List.sublist_cons_self _ _) _
  · exact hs
theorem names_set {l : List Fl} {n : ByteArray} (hs : SortedF l) (h : hasF l n = true) (d : ByteArray) : namesF (l.set (posF l n) ⟨n, d⟩) = namesF l := by
  obtain ⟨x, hx⟩ := hasF_at hs h
  unfold namesF
  rw [List.map_set]
  apply List.ext_getElem?
  intro i
  rw [List.getElem?_set]
  split
  · rename_i hi
    subst hi
    rw [List.getElem?_map, hx]
    have := (List.getElem?_eq_some_iff.1 hx).1
    simp [this]
  · rfl
theorem sorted_ext {l : List Fl} {n d : ByteArray} (hs : SortedF l) : SortedF (extF l n d) := by
  unfold extF
  split
  · rename_i h; unfold SortedF; rw [names_set hs h]; exact hs
  · rename_i h; exact sorted_put hs (by simpa using h)
theorem has_take {l : List Fl} {n : ByteArray} (hs : SortedF l) : hasF (takeF l n) n = false := by
  by_cases h : hasF l n = true
  · obtain ⟨A, d, B, e, hp, ha, hb, _⟩ := parted hs h
    obtain ⟨e1, _, e3, _⟩ := take_of_parts e hp
    unfold takeF
    rw [if_pos h, e1, e3]
    unfold hasF namesF
    rw [hasN_not]
    intro hm
    obtain ⟨f, hf, rfl⟩ := List.mem_map.1 hm
    rcases List.mem_append.1 hf with hf | hf
    · have := ha f hf; rw [cmpN_self] at this; omega
    · have := hb f hf; rw [cmpN_self] at this; omega
  · unfold takeF; rw [if_neg h]; simpa using h
theorem sorted_ren {l : List Fl} {n t : ByteArray} (hs : SortedF l) : SortedF (renF l n t) := by
  unfold renF
  split
  · exact sorted_put (sorted_take (sorted_take hs)) (has_take (sorted_take hs))
  · exact hs
theorem get_app (A B : List Fl) (m : ByteArray) : getF (A ++ B) m = (getF A m).or (getF B m) := by
  unfold getF; rw [List.find?_append]; cases List.find? (fun f => decide (f.n = m)) A <;> simp
theorem get_cons (f : Fl) (B : List Fl) (m : ByteArray) : getF (f :: B) m = if m = f.n then some f.d else getF B m := by
  unfold getF; rw [List.find?_cons]
  by_cases h : m = f.n
  · subst h; simp
  · have : decide (f.n = m) = false := by simpa using fun e => h e.symm
    simp [this, h]
theorem get_none {l : List Fl} {m : ByteArray} : getF l m = none ↔ hasF l m = false := by
  unfold getF hasF namesF
  rw [Option.map_eq_none_iff, List.find?_eq_none, hasN_not]
  simp
theorem get_lt {l : List Fl} {m : ByteArray} (h : ∀ f ∈ l, cmpN f.n m < 0) : getF l m = none := by
  rw [get_none]; unfold hasF namesF; rw [hasN_not]
  intro hm; obtain ⟨f, hf, rfl⟩ := List.mem_map.1 hm; have := h f hf; rw [cmpN_self] at this; omega
theorem get_gt {l : List Fl} {m : ByteArray} (h : ∀ f ∈ l, cmpN m f.n < 0) : getF l m = none := by
  rw [get_none]; unfold hasF namesF; rw [hasN_not]
  intro hm; obtain ⟨f, hf, rfl⟩ := List.mem_map.1 hm; have := h f hf; rw [cmpN_self] at this; omega
theorem get_put {l : List Fl} {f : Fl} (h : hasF l f.n = false) (m : ByteArray) : getF (putF l f) m = if m = f.n then some f.d else getF l m := by
  unfold putF
  rw [get_app, get_cons]
  have e : getF l m = (getF (l.take (posF l f.n)) m).or (getF (l.drop (posF l f.n)) m) := by rw [← get_app, List.take_append_drop]
  split
  · rename_i hm
    have h0 := get_none.2 h
    rw [← hm, e] at h0
    cases hx : getF (List.take (posF l f.n) l) m
    · rfl
    · rw [hx] at h0; simp at h0
  · rw [e]
theorem get_take {l : List Fl} {n : ByteArray} (hs : SortedF l) (m : ByteArray) : getF (takeF l n) m = if m = n then none else getF l m := by
  by_cases h : hasF l n = true
  · by_cases hm : m = n
    · subst hm; rw [if_pos rfl, get_none]; exact has_take hs
    · obtain ⟨A, d, B, e, hp, ha, hb, _⟩ := parted hs h
      obtain ⟨e1, _, e3, _⟩ := take_of_parts e hp
      unfold takeF
      rw [if_pos h, e1, e3, if_neg hm, get_app, e, get_app, get_cons, if_neg hm]
  · have h0 : hasF l n = false := by simpa using h
    unfold takeF
    rw [if_neg h]
    split
    · rename_i hm; rw [hm]; exact get_none.2 h0
    · rfl
theorem get_old {l : List Fl} {n : ByteArray} (hs : SortedF l) (h : hasF l n = true) : getF l n = some (oldF l n).d := by
  obtain ⟨A, d, B, e, hp, ha, hb, ho⟩ := parted hs h
  rw [ho, e, get_app, get_lt ha, get_cons, if_pos rfl]; rfl
theorem empty_app (d : ByteArray) : (⟨#[]⟩ : ByteArray) ++ d = d := by apply str_ext; simp
theorem get_ext {l : List Fl} {n d : ByteArray} (hs : SortedF l) (m : ByteArray) : getF (extF l n d) m = if m = n then some ((getF l n).getD ⟨#[]⟩ ++ d) else getF l m := by
  unfold extF
  by_cases h : hasF l n = true
  · obtain ⟨A, x, B, e, hp, ha, hb, ho⟩ := parted hs h
    rw [if_pos h, get_old hs h, ho]
    have : l.set (posF l n) ⟨n, x ++ d⟩ = A ++ ⟨n, x ++ d⟩ :: B := by
      rw [← hp, e]; simp
    dsimp only
    rw [this, get_app, get_cons]
    by_cases hm : m = n
    · subst hm; rw [if_pos rfl, if_pos rfl, get_lt ha]; simp
    · rw [if_neg hm, if_neg hm, e, get_app, get_cons, if_neg hm]
  · have h0 : hasF l n = false := by simpa using h
    rw [if_neg h, get_put h0, get_none.2 h0]; rfl
theorem get_ren {l : List Fl} {n t : ByteArray} (hs : SortedF l) (h : hasF l n = true) (m : ByteArray) : getF (renF l n t) m = if m = t then getF l n else if m = n then none else getF l m := by
  unfold renF
  have h1 := has_take (n := t) (sorted_take (n := n) hs)
  rw [if_pos h, get_put (f := ⟨t, (oldF l n).d⟩) h1, get_take (sorted_take hs), get_take hs, get_old hs h]
  dsimp only
  split
  · rfl
  · rfl
/-- files that ascend are what is there of each name -/
theorem files_ext : ∀ {l k : List Fl}, SortedF l → SortedF k → (∀ m, getF l m = getF k m) → l = k
  | [], [], _, _, _ => rfl
  | [], f :: k, _, _, h => by have := h f.n; rw [get_cons, if_pos rfl] at this; simp [getF] at this
  | f :: l, [], _, _, h => by have := h f.n; rw [get_cons, if_pos rfl] at this; simp [getF] at this
  | f :: l, g :: k, hl, hk, h => by
    obtain ⟨a1, a2⟩ := List.pairwise_cons.1 (show List.Pairwise _ (f.n :: l.map Fl.n) from hl)
    obtain ⟨b1, b2⟩ := List.pairwise_cons.1 (show List.Pairwise _ (g.n :: k.map Fl.n) from hk)
    have al : ∀ x ∈ l, cmpN f.n x.n < 0 := fun x hx => a1 x.n (List.mem_map_of_mem hx)
    have bl : ∀ x ∈ k, cmpN g.n x.n < 0 := fun x hx => b1 x.n (List.mem_map_of_mem hx)
    have hfg : f.n = g.n := by
      by_cases h0 : f.n = g.n
      · exact h0
      · exfalso
        have h1 := h f.n
        rw [get_cons, if_pos rfl, get_cons, if_neg h0] at h1
        have h2 := h g.n
        rw [get_cons, if_neg (fun e => h0 e.symm), get_cons, if_pos rfl] at h2
        by_cases hc : cmpN f.n g.n < 0
        · have : getF k f.n = none := get_gt fun x hx => cmpN_lt hc (bl x hx)
          rw [this] at h1; cases h1
        · have hc2 : cmpN g.n f.n < 0 := by
            have := cmpN_swap f.n g.n
            have h3 : cmpN f.n g.n ≠ 0 := fun e => h0 (cmpN_zero.1 e)
            omega
          have : getF l g.n = none := get_gt fun x hx => cmpN_lt hc2 (al x hx)
          rw [this] at h2; cases h2
    have hd : f.d = g.d := by
      have h1 := h f.n
      rw [get_cons, if_pos rfl, get_cons, if_pos hfg] at h1
      exact Option.some.inj h1
    have hfe : f = g := by cases f; cases g; simp_all
    subst hfe
    have : l = k := files_ext a2 b2 fun m => by
      have h1 := h m
      rw [get_cons, get_cons] at h1
      by_cases hm : m = f.n
      · rw [hm, get_gt al, get_gt bl]
      · rwa [if_neg hm, if_neg hm] at h1
    rw [this]
/-- how much they contain -/
def szF (l : List Fl) : Nat := (l.map (fun f => f.d.size)).sum
theorem szF_app (A B : List Fl) : szF (A ++ B) = szF A + szF B := by unfold szF; simp
theorem szF_cons (f : Fl) (B : List Fl) : szF (f :: B) = f.d.size + szF B := by unfold szF; simp
theorem szF_put (l : List Fl) (f : Fl) : szF (putF l f) = szF l + f.d.size := by
  unfold putF
  have : szF l = szF (l.take (posF l f.n)) + szF (l.drop (posF l f.n)) := by rw [← szF_app, List.take_append_drop]
  rw [szF_app, szF_cons, this]; omega
theorem szF_take {l : List Fl} {n : ByteArray} (hs : SortedF l) (h : hasF l n = true) : szF (takeF l n) + (oldF l n).d.size = szF l := by
  obtain ⟨A, d, B, e, hp, _, _, ho⟩ := parted hs h
  obtain ⟨e1, _, e3, _⟩ := take_of_parts e hp
  unfold takeF
  rw [if_pos h, e1, e3, ho, e, szF_app, szF_app, szF_cons]
  dsimp only; omega
theorem bsize_app (a b : ByteArray) : (a ++ b).size = a.size + b.size := ByteArray.size_append ..
theorem szF_ext {l : List Fl} {n d : ByteArray} (hs : SortedF l) : szF (extF l n d) = szF l + d.size := by
  unfold extF
  by_cases h : hasF l n = true
  · obtain ⟨A, x, B, e, hp, _, _, ho⟩ := parted hs h
    rw [if_pos h, ho]
    have : l.set (posF l n) ⟨n, x ++ d⟩ = A ++ ⟨n, x ++ d⟩ :: B := by rw [← hp, e]; simp
    dsimp only
    rw [this, e, szF_app, szF_app, szF_cons, szF_cons]
    dsimp only
    rw [bsize_app]; omega
  · rw [if_neg h, szF_put]
    dsimp only
    rw [empty_app]
theorem len_put (l : List Fl) (f : Fl) : (putF l f).length = l.length + 1 := by
  unfold putF; have := posF_le l f.n; simp; omega
theorem len_take {l : List Fl} {n : ByteArray} : (takeF l n).length ≤ l.length := by
  unfold takeF; split
  · simp; omega
  · omega
theorem len_take_has {l : List Fl} {n : ByteArray} (hs : SortedF l) (h : hasF l n = true) : (takeF l n).length + 1 = l.length := by
  obtain ⟨A, d, B, e, hp, _, _, _⟩ := parted hs h
  obtain ⟨e1, _, e3, _⟩ := take_of_parts e hp
  unfold takeF
  rw [if_pos h, e1, e3, e]; simp; omega
/-- what writes do -/
structure Wr where
  k : Int
  n : ByteArray
  t : ByteArray
  d : ByteArray
instance : Inhabited Wr := ⟨⟨0, ⟨#[]⟩, ⟨#[]⟩, ⟨#[]⟩⟩⟩
def appF (l : List Fl) (w : Wr) : List Fl := if w.k = 1 then extF l w.n w.d else if w.k = 2 then renF l w.n w.t else if w.k = 3 then takeF l w.n else l
def baseF (fs : List Fl) : List Fl := fs.foldl (fun l f => extF l f.n f.d) []
def lookF (fs : List Fl) (ws : List Wr) : List Fl := ws.foldl appF (baseF fs)
theorem sorted_app {l : List Fl} {w : Wr} (hs : SortedF l) : SortedF (appF l w) := by
  unfold appF
  split
  · exact sorted_ext hs
  · split
    · exact sorted_ren hs
    · split
      · exact sorted_take hs
      · exact hs
theorem ext_end {A : List Fl} {f : Fl} (h : ∀ x ∈ A, cmpN x.n f.n < 0) : extF A f.n f.d = A ++ [f] := by
  have h0 : hasF A f.n = false := get_none.1 (get_lt h)
  unfold extF
  rw [if_neg (by simp [h0])]
  have hp : posF A f.n = A.length := by
    unfold posF posN
    rw [List.countP_eq_length.2]
    · simp [namesF]
    · intro x hx
      obtain ⟨y, hy, rfl⟩ := List.mem_map.1 hx
      simpa using h y hy
  unfold putF
  dsimp only
  rw [hp, empty_app]; simp
theorem base_from : ∀ (fs A : List Fl), SortedF (A ++ fs) → fs.foldl (fun l f => extF l f.n f.d) A = A ++ fs
  | [], A, _ => by simp
  | f :: fs, A, h => by
    have h1 : ∀ x ∈ A, cmpN x.n f.n < 0 := by
      unfold SortedF SortedN namesF at h
      rw [List.map_append, List.pairwise_append] at h
      exact fun x hx => h.2.2 x.n (List.mem_map_of_mem hx) f.n (by simp)
    rw [List.foldl_cons, ext_end h1, base_from fs (A ++ [f]) (by simpa using h)]
    simp
theorem base_sorted {fs : List Fl} (h : SortedF fs) : baseF fs = fs := base_from fs [] (by simpa using h)
theorem sorted_look : ∀ (ws : List Wr) {l : List Fl}, SortedF l → SortedF (ws.foldl appF l)
  | [], _, h => h
  | w :: ws, _, h => sorted_look ws (sorted_app h)
end Go.Proofs.YtllpfngmnccejaaGreat
namespace Go.Proofs.YtllpfngmnccejaaGreat
open Go Go.RowKit

/-- l with vs from place o on -/
def splice (l : List Value) (o : Nat) (vs : List Value) : List Value := l.take o ++ vs ++ l.drop (o + vs.length)
theorem splice_len {l : List Value} {o : Nat} {vs : List Value} (h : o + vs.length ≤ l.length) : (splice l o vs).length = l.length := by
  unfold splice; simp; omega
theorem own_rowK {w : World} {g : Nat} {t : TypeId} {cur cs : List Value} (h : Own w g t cur) : Own (w.setRow g cs.toArray) g t cs := by
  unfold Own at *
  simp [World.setRow, Array.getElem?_modify, h]
theorem row_other {w : World} {g k : Nat} {cs : Array Value} (h : k ≠ g) : (w.setRow g cs).heap[k]? = w.heap[k]? := setRow_other w g k cs h
/-- only the blocks of S have turned, of those that were there -/
structure KeptK (w w' : World) (S : Nat → Prop) : Prop where
  os : w'.os = w.os
  tape : w'.tape = w.tape
  output : w'.output = w.output
  size : w.heap.size ≤ w'.heap.size
  block : ∀ k, k < w.heap.size → ¬ S k → w'.heap[k]? = w.heap[k]?
section
variable {w w' w'' : World} {S T : Nat → Prop}
theorem KeptK.refl (w : World) (S : Nat → Prop) : KeptK w w S := ⟨rfl, rfl, rfl, Nat.le_refl _, fun _ _ _ => rfl⟩
theorem KeptK.trans (h : KeptK w w' S) (k : KeptK w' w'' T) (hs : ∀ b, b < w.heap.size → T b → S b) : KeptK w w'' S :=
  ⟨k.os.trans h.os, k.tape.trans h.tape, k.output.trans h.output, Nat.le_trans h.size k.size,
    fun b hb hn => (k.block b (Nat.lt_of_lt_of_le hb h.size) (fun ht => hn (hs b hb ht))).trans (h.block b hb hn)⟩
theorem KeptK.more (h : KeptK w w' S) (hs : ∀ b, S b → T b) : KeptK w w' T := ⟨h.os, h.tape, h.output, h.size, fun b hb hn => h.block b hb (fun x => hn (hs b x))⟩
theorem KeptK.of_below {B : Nat} (h : Below B w w') (hB : w.heap.size ≤ B) (S : Nat → Prop) : KeptK w w' S := ⟨h.os, h.tape, h.output, h.size, fun b hb _ => h.block b (by omega)⟩
theorem KeptK.of_grown {o : Option Nat} (h : w.grownBy w' o) (hs : ∀ b, o = some b → S b) : KeptK w w' S :=
  ⟨h.os, h.tape, h.output, h.size, fun b hb hn => h.block b hb (fun e => hn (hs b e.symm))⟩
theorem KeptK.below {B : Nat} (h : KeptK w w' S) (hB : ∀ b, S b → B ≤ b) (hs : B ≤ w.heap.size) : Below B w w' := ⟨h.os, h.tape, h.output, h.size, fun b hb => h.block b (by omega) (fun x => by have := hB b x; omega)⟩
theorem KeptK.row {base : Nat} {e : TypeId} {size : Nat} {v : Value} {n : Nat} {xs : List Value} (h : KeptK w w' S) (ho : w.ownsRow base e size v n xs) (hn : ∀ k, v.ownBlock = some k → ¬ S k) : w'.ownsRow base e size v n xs := by
  refine ⟨ho.1, ?_⟩
  rcases ho.2 with h0 | ⟨g, cap, cur, rfl, hb, hg, rest⟩
  · exact .inl h0
  · refine .inr ⟨g, cap, cur, rfl, hb, ?_, rest⟩
    rw [h.block g (Array.getElem?_eq_some_iff.1 hg).1 (hn g rfl)]
    exact hg
theorem KeptK.own {g : Nat} {t : TypeId} {l : List Value} (h : KeptK w w' S) (ho : Own w g t l) (hn : ¬ S g) : Own w' g t l := (h.block g ho.inside hn).trans ho
theorem KeptK.set_ (h : KeptK w w' S) {g o : Nat} (hg : S g ∨ w.heap.size ≤ g) (u : Value) : KeptK w (w'.setCell ⟨g, o, none⟩ u) S :=
  ⟨h.os, h.tape, h.output, by simpa using h.size, fun b hb hn => (Below.heap_setCell w' ⟨g, o, none⟩ u b (by intro e; dsimp only at e; subst e; rcases hg with h1 | h1; exact hn h1; omega)).trans (h.block b hb hn)⟩
theorem KeptK.alloc (h : KeptK w w' S) (o : Obj) : KeptK w (w'.alloc o) S := ⟨h.os, h.tape, h.output, Nat.le_trans h.size (by simp), fun b hb hn => (Below.heap_alloc w' o b (Nat.lt_of_lt_of_le hb h.size)).trans (h.block b hb hn)⟩
theorem KeptK.drew (h : KeptK w w' S) : KeptK w w'.drew S := ⟨h.os, h.tape, h.output, h.size, h.block⟩
end
/-- a row by the block in which it lies -/
theorem row_ownK {w : World} {base c n size : Nat} {e : TypeId} {A : Option Addr} {xs : List Value} (h : w.ownsRow base e size (.slice A n c) n xs) :
    (A = none ∧ n = 0 ∧ c = 0 ∧ xs = []) ∨ ∃ g cur, A = some ⟨g, 0, none⟩ ∧ base ≤ g ∧ Own w g e cur ∧ n ≤ c ∧ c ≤ maxLen ∧ cur.length = c * size ∧ cur.take (n * size) = xs := by
  rcases h.2 with ⟨h0, h1⟩ | ⟨g, cap, cur, hv, hb, hg, h1, h2, h3, h4⟩
  · simp only [Value.slice.injEq] at h0
    refine .inl ⟨h0.1, h1, h0.2.2, ?_⟩
    have := h.1
    rw [h1] at this
    exact List.length_eq_zero_iff.1 (by omega)
  · simp only [Value.slice.injEq] at hv
    obtain ⟨rfl, _, rfl⟩ := hv
    exact .inr ⟨g, cur.toList, rfl, hb, by unfold Own; simpa using hg, h1, h2, by simpa using h3, h4⟩
theorem own_to_row {w : World} {base g c n size : Nat} {e : TypeId} {cur : List Value} (h : Own w g e cur) (hb : base ≤ g) (hn : n ≤ c) (hm : c ≤ maxLen) (hl : cur.length = c * size) :
    w.ownsRow base e size (.slice (some ⟨g, 0, none⟩) n c) n (cur.take (n * size)) :=
  ⟨by rw [List.length_take, hl]; exact Nat.min_eq_left (Nat.mul_le_mul_right _ hn), .inr ⟨g, c, cur.toArray, rfl, hb, h, hn, hm, by simpa using hl, by simp⟩⟩
/-- 'copy' into a block of the call's own -/
theorem run_copy_into {P : Program} (w : World) (dT sT ty elem : TypeId) (g o dLen dCap : Nat) (a : Addr) (sLen sCap k : Nat) (cur cs : List Value) (t : TypeId) (hu : P.underlying dT = some (.slice elem)) (hs : (P.info? elem).map (·.size) = some k)
    (hg : Own w g t cur) (hn : cs.length = Nat.min sLen dLen * k) (hsrc : ∀ j v, cs[j]? = some v → w.cell? (a.add j) = some v) (hfit : o + cs.length ≤ cur.length) (h1 : ∀ v ∈ cs, v.oneCell' = true) :
    (Builtin.copy_ #[dT, sT] ty #[.slice (some ⟨g, o, none⟩) dLen dCap, .slice (some a) sLen sCap]).run P w = .ok (goInt (Nat.min sLen dLen)) (w.setRow g (splice cur o cs).toArray) := by
  have hl := run_loadCells_list (P := P) w a cs hsrc
  have hst := run_storeCells_at P g o t cs 0 cur.toArray w hg (by simpa using hfit) h1
  simp only [Nat.add_zero] at hst
  cases hq : P.info? elem with
  | none => simp [hq] at hs
  | some i =>
    have hi : i.size = k := by simpa [hq] using hs
    simp [Builtin.copy_, run_underlying hu, Builtin.lenOf, Builtin.firstCells, sizeOf, typeInfo, hq, hi, ← hn, hl, hst, splice]
/-- 'clear' of one element in a block of the call's own -/
theorem run_clear_one {P : Program} (w : World) (t e ty tt : TypeId) (z : Value) (ht : P.underlying t = some (.slice e)) (hv : ∀ w, (zeroValue e).run P w = .ok z w) (h1 : ∀ u ∈ z.cells.toList, u.oneCell' = true) (g o c : Nat) (cur : List Value) (hg : Own w g tt cur)
    (hfit : o + z.cells.size ≤ cur.length) :
    (Builtin.clear_ #[t] ty #[.slice (some ⟨g, o, none⟩) 1 c]).run P w = .ok (.tuple #[]) (w.setRow g (splice cur o z.cells.toList).toArray) := by
  have hz : (Builtin.zeroCells z.cells 1).toList = z.cells.toList := by
    unfold Builtin.zeroCells
    apply List.ext_getElem
    · simp
    · intro i h1 h2
      simp at h1 h2 ⊢
      rw [getElem!_pos z.cells (i % z.cells.size) (by rw [Nat.mod_eq_of_lt h1]; exact h1)]
      simp [Nat.mod_eq_of_lt h1]
  have hst := run_storeCells_at P g o tt z.cells.toList 0 cur.toArray w hg (by simpa using hfit) h1
  simp only [Nat.add_zero] at hst
  simp [Builtin.clear_, run_underlying ht, hv, hz, hst, splice]
/-- a builtin of two arguments whose run is known, as a step of a region that draws its order -/
theorem step_append_known {P : Program} {ops : Array Oper} {o : Oper} {a : Act} {w : World} {K : Act → World → Prop} {Q : Exit → Act → World → Prop} {E : Prop}
    (hg : o.guard = none) (d x : Operand) (dT sT : TypeId) (hop : o.op = Op.call { callee := Callee.builtin Builtin.append, args := #[d, x], argTypes := #[dT, sT] })
    (v u : Value) (hd : a.eval d = v) (hx : a.eval x = u) {v' : Value} {w' : World} (hr : (Builtin.append_ #[dT, sT] o.type #[v, u]).run P w = .ok v' w') (hK : K (a.put o.dst v') w') :
    if Region.wanted o (yielded ops a.tmps) = true then Oper.wp P o a w K Q else E := by
  have hw : Region.wanted o (yielded ops a.tmps) = true := by simp [Region.wanted, hg]
  rw [if_pos hw]
  unfold Oper.wp
  simp [execOp, hop, resolve, invoke, builtin, hd, hx, hr, Result.andThen]
  exact hK
theorem step_copy_known {P : Program} {ops : Array Oper} {o : Oper} {a : Act} {w : World} {K : Act → World → Prop} {Q : Exit → Act → World → Prop} {E : Prop}
    (hg : o.guard = none) (d x : Operand) (dT sT : TypeId) (hop : o.op = Op.call { callee := Callee.builtin Builtin.copy, args := #[d, x], argTypes := #[dT, sT] })
    (v u : Value) (hd : a.eval d = v) (hx : a.eval x = u) {v' : Value} {w' : World} (hr : (Builtin.copy_ #[dT, sT] o.type #[v, u]).run P w = .ok v' w') (hK : K (a.put o.dst v') w') :
    if Region.wanted o (yielded ops a.tmps) = true then Oper.wp P o a w K Q else E := by
  have hw : Region.wanted o (yielded ops a.tmps) = true := by simp [Region.wanted, hg]
  rw [if_pos hw]
  unfold Oper.wp
  simp [execOp, hop, resolve, invoke, builtin, hd, hx, hr, Result.andThen]
  exact hK
theorem list_append_known {P : Program} (w : World) {ops : Array Oper} {rest : List Oper} {o : Oper} {a : Act} {Q : Exit → Act → World → Prop} (hgd : o.guard = none) (d s : Operand) (t t' : TypeId)
    (ho : o.op = .call { callee := .builtin .append, args := #[d, s], argTypes := #[t, t'] }) (v u : Value) (hd : a.eval d = v) (hs : a.eval s = u) {v' : Value} {w' : World}
    (hr : (Builtin.append_ #[t, t'] o.type #[v, u]).run P w = .ok v' w') (h : wpList P ops Q rest (a.put o.dst v') w') : wpList P ops Q (o :: rest) a w := by
  refine wpList_plain hgd fun K hK => ?_
  unfold Oper.wp execOp
  simp only [ho, resolve, invoke, builtin, Sem.run_bind, Sem.run_pure, Result.andThen_ok, List.map_toArray, List.map_cons, List.map_nil, hd, hs, hr]
  exact hK _ _ h
theorem list_copy_known {P : Program} (w : World) {ops : Array Oper} {rest : List Oper} {o : Oper} {a : Act} {Q : Exit → Act → World → Prop} (hgd : o.guard = none) (d s : Operand) (t t' : TypeId)
    (ho : o.op = .call { callee := .builtin .copy, args := #[d, s], argTypes := #[t, t'] }) (v u : Value) (hd : a.eval d = v) (hs : a.eval s = u) {v' : Value} {w' : World}
    (hr : (Builtin.copy_ #[t, t'] o.type #[v, u]).run P w = .ok v' w') (h : wpList P ops Q rest (a.put o.dst v') w') : wpList P ops Q (o :: rest) a w := by
  refine wpList_plain hgd fun K hK => ?_
  unfold Oper.wp execOp
  simp only [ho, resolve, invoke, builtin, Sem.run_bind, Sem.run_pure, Result.andThen_ok, List.map_toArray, List.map_cons, List.map_nil, hd, hs, hr]
  exact hK _ _ h
theorem list_clear_known {P : Program} (w : World) {ops : Array Oper} {rest : List Oper} {o : Oper} {a : Act} {Q : Exit → Act → World → Prop} (hgd : o.guard = none) (d : Operand) (t : TypeId)
    (ho : o.op = .call { callee := .builtin .clear, args := #[d], argTypes := #[t] }) (v : Value) (hd : a.eval d = v) {v' : Value} {w' : World}
    (hr : (Builtin.clear_ #[t] o.type #[v]).run P w = .ok v' w') (h : wpList P ops Q rest (a.put o.dst v') w') : wpList P ops Q (o :: rest) a w := by
  refine wpList_plain hgd fun K hK => ?_
  unfold Oper.wp execOp
  simp only [ho, resolve, invoke, builtin, Sem.run_bind, Sem.run_pure, Result.andThen_ok, List.map_toArray, List.map_cons, List.map_nil, hd, hr]
  exact hK _ _ h
end Go.Proofs.YtllpfngmnccejaaGreat
