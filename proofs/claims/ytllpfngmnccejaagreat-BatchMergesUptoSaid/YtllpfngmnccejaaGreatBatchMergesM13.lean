/- Part 13 of the texts on which BatchMerges rests: facts and contracts. -/
import Derived.Test.YtllpfngmnccejaaGreatBatchMergesM12
import Derived.Deep.MidRow
import Derived.Test.YtllpfngmnccejaaGreatRows
import Derived.WalkKit
import Derived.ProofKit
import Derived.OpenShut
import Derived.JoinedCond
import Derived.Carry
import Derived.ChangeArms
import Derived.Deep.Slices
import Derived.SizedLaws
namespace Go.Proofs.YtllpfngmnccejaaGreat
open Go Go.RowKit

/-- which code, where none is begun -/
def codeSt (f : List Tm) (a b : Bt) (E : Int) : Prop := E = 4 ∧ ¬ (BatchOk a.f a.l ∧ BatchOk b.f b.l ∧ FrontOk f) ∨ E = 1 ∧ (BatchOk a.f a.l ∧ BatchOk b.f b.l ∧ FrontOk f)
theorem codeSt_ne {f : List Tm} {a b : Bt} {E : Int} (h : codeSt f a b E) : E ≠ 0 := by
  rcases h with ⟨e, _⟩ | ⟨e, _⟩ <;> omega
/-- the same, with the code -/
def Started2 (f : List Tm) (a b : Bt) (w : World) (x : Ending) (w' : World) : Prop :=
  ∃ (m : Mg) (E : Int), x = .returned (.tuple #[m.val, .int .i64 E]) ∧ (E = 0 ∧ StartOk f a b ∧ m.a.map Up.p = a.l.map Up.p ∧ m.b.map Up.p = b.l.map Up.p ∧ m.i = 0 ∧ m.j = 0 ∧ m.f = f ∧ m.o = [] ∨ codeSt f a b E ∧ m = Mg.nil ∧ ¬ StartOk f a b) ∧
    MgIn w' w'.heap.size m ∧ MgOk m ∧ MgLo w.heap.size m ∧ Below w.heap.size w w'
set_option maxRecDepth 100000 in
set_option maxHeartbeats 12800000 in
theorem start_any2 (A : Option Addr) (c : Nat) (f : List Tm) (a b : Bt) (w : World) (hf : Times w w.heap.size A f) (hfo : TsOk f c) (ha : BtIn w w.heap.size a) (oa : BtOk a) (na : a.l.length ≤ 274877906944) (hb : BtIn w w.heap.size b) (ob : BtOk b) (nb : b.l.length ≤ 274877906944) :
    Calls Tryz.prog 12 #[.slice A f.length c, a.val, b.val] w (Started2 f a b w) := by
  obtain ⟨V, hV, hvb, hv1, hv2, hv3⟩ := st_box w a b
  have hX := fun p : Past V => own2 (hv1.past p.h hv1.inside)
  have hY := fun p : Past V => own2 (hv2.past p.h hv2.inside)
  have hZ := fun p : Past V => hv3.past p.h hv3.inside
  have hia := ha.keep hvb
  have hib := hb.keep hvb
  have hif := (hf.past hvb (Nat.le_refl _)).wide hvb.size
  have hfV := fun p : Past V => (hif.past p.h (Nat.le_refl _)).wide p.h.size
  obtain ⟨ca, hca⟩ := code_of (BatchOk a.f a.l) 4
  obtain ⟨cb, hcb⟩ := code_of (BatchOk b.f b.l) 4
  obtain ⟨bf, hbf⟩ := bool_of (FrontOk f)
  obtain ⟨la, hla⟩ := bool_of (LaterF f a.f)
  obtain ⟨lb, hlb⟩ := bool_of (LaterF f b.f)
  have n1 := hfo.n
  have m1 : f.length ≤ maxLen := Nat.le_trans hfo.le hfo.c_
  have m2 : a.f.length ≤ maxLen := Nat.le_trans oa.f.le oa.f.c_
  have m3 : b.f.length ≤ maxLen := Nat.le_trans ob.f.le ob.f.c_
  have u1 := fun p : Past V => calls_past ((bcheck_any a p.w (hia.keep p.h) oa).mono fun x w' h => codes_is hca h)
  have u2 := fun p : Past V => calls_past ((bcheck_any b p.w (hib.keep p.h) ob).mono fun x w' h => codes_is hcb h)
  have u3 := fun p : Past V => calls_past ((bfrontier_any A c f p.w (hfV p) (by omega)).mono fun x w' h => tells_is hbf h)
  have u4 := fun p : Past V => calls_past ((later_any A c f a.sA a.sc a.f p.w (hfV p) m1 (hia.keep p.h).since m2).mono fun x w' h => tells_is hla h)
  have u5 := fun p : Past V => calls_past ((later_any A c f b.sA b.sc b.f p.w (hfV p) m1 (hib.keep p.h).since m3).mono fun x w' h => tells_is hlb h)
  have HB := Lib.hid hvb
  have HI := Lib.hid (And.intro hia (And.intro hib hif))
  have HZ := Lib.hid hZ
  have HC := Lib.hid (And.intro hca (And.intro hcb (And.intro hbf (And.intro hla hlb))))
  have HOK := Lib.hid (And.intro hfo (And.intro oa (And.intro na (And.intro ob nb))))
  have HG := Lib.hid hv3.inside
  have hA : a.val = .agg #[.slice a.sA a.f.length a.sc, .slice a.uA a.l.length a.uc] := rfl
  have hB : b.val = .agg #[.slice b.sA b.f.length b.sc, .slice b.uA b.l.length b.uc] := rfl
  rw [hA, hB]
  rw [hA] at u1
  rw [hB] at u2
  have HF := Lib.hid (show ∀ (E : Int) (x : Ending) (w' : World), codeSt f a b E → ¬ StartOk f a b → x = .returned (.tuple #[Mg.nil.val, .int .i64 E]) → Below w.heap.size w w' → Started2 f a b w x w' from fun E x w' h1 h2 h3 h4 => ⟨Mg.nil, E, h3, .inr ⟨h1, rfl, h2⟩, mg_nil_in _ _, mg_nil_ok, mg_nil_lo _, h4⟩)
  have HP := Lib.hid (show ∀ (m : Mg) (x : Ending) (w' : World), StartOk f a b → x = .returned (.tuple #[m.val, .int .i64 0]) → m.a.map Up.p = a.l.map Up.p ∧ m.b.map Up.p = b.l.map Up.p ∧ m.i = 0 ∧ m.j = 0 ∧ m.f = f ∧ m.o = [] → MgIn w' w'.heap.size m → MgOk m → MgLo w.heap.size m → Below w.heap.size w w' → Started2 f a b w x w' from fun m x w' h1 h2 h3 h4 h5 h6 h7 => ⟨m, 0, h2, .inl ⟨rfl, h1, h3⟩, h4, h5, h6, h7⟩)
  clear hf hfo ha oa hb ob hvb hv1 hv2 hv3 hia hib hif hfV hca hcb hbf hla hlb n1 m1 m2 m3 hZ hA hB na nb
  go_enter Tryz.func12, Tryz.ntmps12
  go_upto_region 1 with fail
  rw [← hV]
  clear hV
  obtain ⟨a0, a1⟩ := hX ⟨V, Below.refl _ _⟩
  obtain ⟨b0, b1⟩ := hY ⟨V, Below.refl _ _⟩
  dsimp only at a0 a1 b0 b1
  go_wp2_with fail
  refine (u1 ⟨V, Below.refl _ _⟩).mono ?_
  rintro _ _ ⟨rfl, ⟨p1, rfl⟩⟩
  clear a0 a1 b0 b1 u1
  obtain ⟨a0, a1⟩ := hX p1
  obtain ⟨b0, b1⟩ := hY p1
  by_cases h1 : ca = 0
  case neg =>
    have t1 : (ca != 0) = true := bne_iff_ne.2 h1
    have hz := HZ.out p1
    obtain ⟨f0, f1, f2, f3, f4, f5⟩ := own_frozen6 hz
    obtain ⟨z0, z1, z2, z3, z4, z5⟩ := own6 hz
    obtain ⟨X, hX', hXo, hXb, hXs, hXh⟩ := own_six hz (.slice none 0 0) (.slice none 0 0) (.int .i64 0) (.int .i64 0) (.slice none 0 0) (.slice none 0 0)
    have HX := Lib.hid (And.intro (hXb w.heap.size w (HB.out.trans (p1.h.mono HB.out.size)) (by omega)) hXo)
    have HN := Lib.hid (show ¬ StartOk f a b from fun h => by rcases HC.out.1 with ⟨_, e⟩ | ⟨e, _⟩; exact h1 e; exact e h.1)
    have HCD := Lib.hid (show codeSt f a b 4 from .inl ⟨rfl, fun h => by rcases HC.out.1 with ⟨_, e⟩ | ⟨e, _⟩; exact h1 e; exact e h.1⟩)
    have HR := Lib.hid hX'
    clear hz hXo hXb hXs hXh hX' h1 u2 u3 u4 u5
    go_wp2_with fail
    rw [← HR.out]
    obtain ⟨x0, x1, x2, x3, x4, x5⟩ := own6 HX.out.2
    exact bodyPost_ret (v := .tuple #[.agg #[.slice none 0 0, .slice none 0 0, .int .i64 0, .int .i64 0, .slice none 0 0, .slice none 0 0], .int .i64 4]) (by simp [results, Tryz.results12, go_sem, x0, x1, x2, x3, x4, x5]) rfl (HF.out 4 _ _ HCD.out HN.out rfl HX.out.1)
  subst h1
  go_wp2_with fail
  refine (u2 p1).mono ?_
  rintro _ _ ⟨rfl, ⟨p2, rfl⟩⟩
  clear a0 a1 b0 b1 u2
  obtain ⟨a0, a1⟩ := hX p2
  obtain ⟨b0, b1⟩ := hY p2
  by_cases h2 : cb = 0
  case neg =>
    have t1 : (cb != 0) = true := bne_iff_ne.2 h2
    have hz := HZ.out p2
    obtain ⟨f0, f1, f2, f3, f4, f5⟩ := own_frozen6 hz
    obtain ⟨z0, z1, z2, z3, z4, z5⟩ := own6 hz
    obtain ⟨X, hX', hXo, hXb, hXs, hXh⟩ := own_six hz (.slice none 0 0) (.slice none 0 0) (.int .i64 0) (.int .i64 0) (.slice none 0 0) (.slice none 0 0)
    have HX := Lib.hid (And.intro (hXb w.heap.size w (HB.out.trans (p2.h.mono HB.out.size)) (by omega)) hXo)
    have HN := Lib.hid (show ¬ StartOk f a b from fun h => by rcases HC.out.2.1 with ⟨_, e⟩ | ⟨e, _⟩; exact h2 e; exact e h.2.1)
    have HCD := Lib.hid (show codeSt f a b 4 from .inl ⟨rfl, fun h => by rcases HC.out.2.1 with ⟨_, e⟩ | ⟨e, _⟩; exact h2 e; exact e h.2.1⟩)
    have HR := Lib.hid hX'
    clear hz hXo hXb hXs hXh hX' h2 u3 u4 u5
    go_wp2_with fail
    rw [← HR.out]
    obtain ⟨x0, x1, x2, x3, x4, x5⟩ := own6 HX.out.2
    exact bodyPost_ret (v := .tuple #[.agg #[.slice none 0 0, .slice none 0 0, .int .i64 0, .int .i64 0, .slice none 0 0, .slice none 0 0], .int .i64 4]) (by simp [results, Tryz.results12, go_sem, x0, x1, x2, x3, x4, x5]) rfl (HF.out 4 _ _ HCD.out HN.out rfl HX.out.1)
  subst h2
  go_wp2_with fail
  refine (u3 p2).mono ?_
  rintro _ _ ⟨rfl, ⟨p3, rfl⟩⟩
  clear a0 a1 b0 b1 u3
  obtain ⟨a0, a1⟩ := hX p3
  obtain ⟨b0, b1⟩ := hY p3
  cases bf with
  | false =>
    have hz := HZ.out p3
    obtain ⟨f0, f1, f2, f3, f4, f5⟩ := own_frozen6 hz
    obtain ⟨z0, z1, z2, z3, z4, z5⟩ := own6 hz
    obtain ⟨X, hX', hXo, hXb, hXs, hXh⟩ := own_six hz (.slice none 0 0) (.slice none 0 0) (.int .i64 0) (.int .i64 0) (.slice none 0 0) (.slice none 0 0)
    have HX := Lib.hid (And.intro (hXb w.heap.size w (HB.out.trans (p3.h.mono HB.out.size)) (by omega)) hXo)
    have HN := Lib.hid (show ¬ StartOk f a b from fun h => by have := HC.out.2.2.1.2 h.2.2.1; cases this)
    have HCD := Lib.hid (show codeSt f a b 4 from .inl ⟨rfl, fun h => by have := HC.out.2.2.1.2 h.2.2; cases this⟩)
    have HR := Lib.hid hX'
    clear hz hXo hXb hXs hXh hX' u4 u5
    go_wp2_with fail
    rw [← HR.out]
    obtain ⟨x0, x1, x2, x3, x4, x5⟩ := own6 HX.out.2
    exact bodyPost_ret (v := .tuple #[.agg #[.slice none 0 0, .slice none 0 0, .int .i64 0, .int .i64 0, .slice none 0 0, .slice none 0 0], .int .i64 4]) (by simp [results, Tryz.results12, go_sem, x0, x1, x2, x3, x4, x5]) rfl (HF.out 4 _ _ HCD.out HN.out rfl HX.out.1)
  | true =>
  go_wp2_with fail
  refine (u4 p3).mono ?_
  rintro _ _ ⟨rfl, ⟨p4, rfl⟩⟩
  clear a0 a1 b0 b1 u4
  obtain ⟨a0, a1⟩ := hX p4
  obtain ⟨b0, b1⟩ := hY p4
  cases la with
  | false =>
    have hz := HZ.out p4
    obtain ⟨f0, f1, f2, f3, f4, f5⟩ := own_frozen6 hz
    obtain ⟨z0, z1, z2, z3, z4, z5⟩ := own6 hz
    obtain ⟨X, hX', hXo, hXb, hXs, hXh⟩ := own_six hz (.slice none 0 0) (.slice none 0 0) (.int .i64 0) (.int .i64 0) (.slice none 0 0) (.slice none 0 0)
    have HX := Lib.hid (And.intro (hXb w.heap.size w (HB.out.trans (p4.h.mono HB.out.size)) (by omega)) hXo)
    have HN := Lib.hid (show ¬ StartOk f a b from fun h => by have := HC.out.2.2.2.1.2 h.2.2.2.1; cases this)
    have HCD := Lib.hid (show codeSt f a b 1 from .inr ⟨rfl, by rcases HC.out.1 with ⟨e, _⟩ | ⟨_, e⟩; exact e; omega, by rcases HC.out.2.1 with ⟨e, _⟩ | ⟨_, e⟩; exact e; omega, HC.out.2.2.1.1 (by first | trivial | rfl)⟩)
    have HR := Lib.hid hX'
    clear hz hXo hXb hXs hXh hX' u5
    go_wp2_with fail
    rw [← HR.out]
    obtain ⟨x0, x1, x2, x3, x4, x5⟩ := own6 HX.out.2
    exact bodyPost_ret (v := .tuple #[.agg #[.slice none 0 0, .slice none 0 0, .int .i64 0, .int .i64 0, .slice none 0 0, .slice none 0 0], .int .i64 1]) (by simp [results, Tryz.results12, go_sem, x0, x1, x2, x3, x4, x5]) rfl (HF.out 1 _ _ HCD.out HN.out rfl HX.out.1)
  | true =>
  go_wp2_with fail
  refine (u5 p4).mono ?_
  rintro _ _ ⟨rfl, ⟨p5, rfl⟩⟩
  clear a0 a1 b0 b1 u5
  obtain ⟨a0, a1⟩ := hX p5
  obtain ⟨b0, b1⟩ := hY p5
  cases lb with
  | false =>
    have hz := HZ.out p5
    obtain ⟨f0, f1, f2, f3, f4, f5⟩ := own_frozen6 hz
    obtain ⟨z0, z1, z2, z3, z4, z5⟩ := own6 hz
    obtain ⟨X, hX', hXo, hXb, hXs, hXh⟩ := own_six hz (.slice none 0 0) (.slice none 0 0) (.int .i64 0) (.int .i64 0) (.slice none 0 0) (.slice none 0 0)
    have HX := Lib.hid (And.intro (hXb w.heap.size w (HB.out.trans (p5.h.mono HB.out.size)) (by omega)) hXo)
    have HN := Lib.hid (show ¬ StartOk f a b from fun h => by have := HC.out.2.2.2.2.2 h.2.2.2.2; cases this)
    have HCD := Lib.hid (show codeSt f a b 1 from .inr ⟨rfl, by rcases HC.out.1 with ⟨e, _⟩ | ⟨_, e⟩; exact e; omega, by rcases HC.out.2.1 with ⟨e, _⟩ | ⟨_, e⟩; exact e; omega, HC.out.2.2.1.1 (by first | trivial | rfl)⟩)
    have HR := Lib.hid hX'
    clear hz hXo hXb hXs hXh hX' hX
    go_wp2_with fail
    rw [← HR.out]
    obtain ⟨x0, x1, x2, x3, x4, x5⟩ := own6 HX.out.2
    exact bodyPost_ret (v := .tuple #[.agg #[.slice none 0 0, .slice none 0 0, .int .i64 0, .int .i64 0, .slice none 0 0, .slice none 0 0], .int .i64 1]) (by simp [results, Tryz.results12, go_sem, x0, x1, x2, x3, x4, x5]) rfl (HF.out 1 _ _ HCD.out HN.out rfl HX.out.1)
  | true =>
  have hst : StartOk f a b := by
    refine ⟨?_, ?_, HC.out.2.2.1.1 trivial, HC.out.2.2.2.1.1 trivial, HC.out.2.2.2.2.1 rfl⟩
    · rcases HC.out.1 with ⟨e, _⟩ | ⟨_, e⟩
      · exact e
      · omega
    · rcases HC.out.2.1 with ⟨e, _⟩ | ⟨_, e⟩
      · exact e
      · omega
  obtain ⟨U, hU⟩ : ∃ U, U = p5.w := ⟨_, rfl⟩
  have hUb : Below V.heap.size V U := hU ▸ p5.h
  have hza := HI.out.1.keep hUb
  have hzb := HI.out.2.1.keep hUb
  have hzf := (HI.out.2.2.past hUb (Nat.le_refl _)).wide hUb.size
  have hzz : Own U (w.heap.size + 2) 25 Mg.nil.cells := hU ▸ HZ.out p5
  rw [← hU] at a0 a1 b0 b1
  have y1 := fun W (h : Bl U W) => Lib.hid (copyUps_any a.uA a.uc a.l W (hza.keep h).ups HOK.out.2.1.l hst.1.2.1.2.2 HOK.out.2.2.1)
  have y2 := fun W (h : Bl U W) => Lib.hid (copyUps_any b.uA b.uc b.l W (hzb.keep h).ups HOK.out.2.2.2.1.l hst.2.1.2.1.2.2 HOK.out.2.2.2.2)
  have y3 := fun W (h : Bl U W) => Lib.hid (listT_times A c f W ((hzf.past h (Nat.le_refl _)).wide h.size) (by have := HOK.out.1.n; omega))
  have HS := Lib.hid (fun W (h : Bm (w.heap.size + 2) U W) => And.intro ((Below.cell (p := ⟨w.heap.size, 1, none⟩) h (by show w.heap.size < _; omega)).trans a1) ((Below.cell (p := ⟨w.heap.size + 1, 1, none⟩) h (by show w.heap.size + 1 < _; omega)).trans b1))
  have hbs : w.heap.size + 2 ≤ U.heap.size := Nat.le_of_lt hzz.inside
  have HT := Lib.hid (fun W (h : Bl U W) => hzz.past h hzz.inside)
  have HU := Lib.hid (And.intro (HB.out.trans (hUb.mono HB.out.size)) (And.intro hst hzz.inside))
  have hself := Bl.refl U
  clear hza hzb hzf hzz hUb hst hX hY a0 b0
  go_upto_region 5 with fail
  rw [← hU]
  clear hU
  go_region_held3 (fun w' => Bm (w.heap.size + 2) U w' ∧ (w'.cell? ⟨w.heap.size, 1, none⟩ = some (.slice a.uA a.l.length a.uc) ∧ w'.cell? ⟨w.heap.size + 1, 1, none⟩ = some (.slice b.uA b.l.length b.uc)))
    ((refine (fun h => And.intro h (HS.out _ h)) ?_; repeat (first | with_reducible exact Bm.of hb3 hbs | with_reducible exact Bm.of hb2 hbs | with_reducible exact Bm.of hb1 hbs | with_reducible exact Bm.of hself hbs | with_reducible refine Bm.set ?_ (Nat.le_refl _) _ _ | with_reducible refine Bm.more ?_ hbs _ | with_reducible refine Bm.drew ?_)))
    (first | (go_at_call 39; refine (y3 _ hb2).out.mono ?_; rintro _ w3 ⟨A3, rfl, v3, n3, b3⟩; have hb3 : Bl U w3 := Bl.call hb2 b3; have v1 := v1.keep b3; have v2 := v2.keep b3; obtain ⟨f0, f1, f2, f3, f4, f5⟩ := own_frozen6 (HT.out _ hb3); obtain ⟨e0, e1, e2, e3, e4, e5⟩ := own6 (HT.out _ hb3)) | (go_at_call 38; have hq := hb1; refine (y2 _ hb1).out.mono ?_; rintro _ w2 ⟨A2, l2, rfl, p2', v2, o2, n2, b2, _⟩; have hb2 : Bl U w2 := Bl.call hb1 b2; have v1 := v1.keep b2) | (go_at_call 38; refine (y1 _ hself.drew).out.mono ?_; rintro _ w1 ⟨A1, l1, rfl, p1', v1, o1, n1, b1', _⟩; have hb1 : Bl U w1 := Bl.call hself.drew b1'))
  obtain ⟨X, hX', hXo, hXb, hXs, hXh⟩ := own_six (HT.out _ hb3) (.slice A1 l1.length l1.length) (.slice A2 l2.length l2.length) (.int .i64 0) (.int .i64 0) (.slice A3 f.length f.length) (.slice none 0 0)
  have s1 : U.heap.size ≤ w1.heap.size := hb1.below.size
  have s2 : U.heap.size ≤ w2.heap.size := hb2.below.size
  have s0 : w.heap.size + 2 < U.heap.size := HU.out.2.2
  have n1' : U.drew.heap.size = U.heap.size := rfl
  have HX := Lib.hid (And.intro (hXb w.heap.size w (HU.out.1.trans (hb3.below.mono HU.out.1.size)) (by omega)) hXo)
  have HQ := Lib.hid (show MgIn X X.heap.size ⟨A1, l1.length, l1, A2, l2.length, l2, 0, 0, A3, f.length, f, none, 0, []⟩ from ⟨ups_other v1 (n1.mono (by omega)) hXs hXh, ups_other v2 (n2.mono (by omega)) hXs hXh, times_other v3 (fun b o e => by have h1 := (n3 b o e).1; omega) hXs hXh, ⟨Lies.nil_, fun u hu => by cases hu⟩⟩)
  have HN := Lib.hid (show MgLo w.heap.size ⟨A1, l1.length, l1, A2, l2.length, l2, 0, 0, A3, f.length, f, none, 0, []⟩ from ⟨n1.mono (by omega), n2.mono (by omega), fun b o e => (by have h1 := (n3 b o e).1; omega), lo_nil _⟩)
  have HK := Lib.hid (show MgOk ⟨A1, l1.length, l1, A2, l2.length, l2, 0, 0, A3, f.length, f, none, 0, []⟩ from ⟨⟨by show l1.length ≤ _; rw [len_p p1']; exact HOK.out.2.1.l.n, o1⟩, ⟨by show l2.length ≤ _; rw [len_p p2']; exact HOK.out.2.2.2.1.l.n, o2⟩, ⟨HOK.out.1.n, Nat.le_refl _, Nat.le_trans HOK.out.1.le HOK.out.1.c_⟩, us_nil, ⟨by show -9223372036854775808 ≤ (0 : Int); omega, by show (0 : Int) ≤ 9223372036854775807; omega⟩, ⟨by show -9223372036854775808 ≤ (0 : Int); omega, by show (0 : Int) ≤ 9223372036854775807; omega⟩⟩)
  have HM := Lib.hid (And.intro p1' p2')
  have HR := Lib.hid hX'
  clear hX' hXo hXb hXs hXh e0 e1 e2 e3 e4 e5 v1 v2 v3 n1 n2 n3 o1 o2 p1' p2' s1 s2 s0 n1' y1 y2 y3 hq a1 b1
  go_wp2_with fail
  rw [← HR.out]
  obtain ⟨x0, x1, x2, x3, x4, x5⟩ := own6 HX.out.2
  exact bodyPost_ret (v := .tuple #[.agg #[.slice A1 l1.length l1.length, .slice A2 l2.length l2.length, .int .i64 0, .int .i64 0, .slice A3 f.length f.length, .slice none 0 0], .int .i64 0]) (by simp [results, Tryz.results12, go_sem, x0, x1, x2, x3, x4, x5]) rfl (HP.out ⟨A1, l1.length, l1, A2, l2.length, l2, 0, 0, A3, f.length, f, none, 0, []⟩ _ _ HU.out.2.1 rfl ⟨HM.out.1, HM.out.2, rfl, rfl, rfl, rfl⟩ HQ.out HK.out HN.out HX.out.1)
end Go.Proofs.YtllpfngmnccejaaGreat
namespace Go.Proofs.YtllpfngmnccejaaGreat
open Go Go.RowKit

theorem step_append_anyR {α : Type} {size : Nat} {cells : α → List Value} {B : Nat} {A : Option Addr} {l : List α} {P : Program} (w : World) {ops : Array Oper} {o : Oper} {a : Act} {K : Act → World → Prop} {Q : Exit → Act → World → Prop} {E : Prop} (hgd : o.guard = none) (s x : Operand) (t e : TypeId)
    (ho : o.op = .call { callee := .builtin .append, args := #[s, x], argTypes := #[t, t] })
    (i0 : TypeInfo) (z : Value) (bytes : Nat) (ht : P.underlying t = some (.slice e)) (hi : P.info? e = some i0) (hz0 : i0.zero = some z) (hz1 : i0.size = size) (hz2 : i0.bytes = bytes) (hzs : z.cells.size = size) (hpos : 0 < size) (hcl : ∀ x, (cells x).length = size) (hone : ∀ x, ∀ u ∈ cells x, u.oneCell' = true)
    (base : Nat) (v : Value) (n : Nat) (xs : List Value) (hs : a.eval s = v) (hown : w.ownsRow base e size v n xs)
    (c : Nat) (hx : a.eval x = .slice A l.length c) (hl : Lies size cells w B A l) (h63 : n + l.length ≤ maxLen) (hn : (n + l.length) * bytes ≤ 140737488355328) (hbase : base ≤ w.heap.size)
    (h : ∀ v' w', w'.ownsRow base e size v' (n + l.length) (xs ++ l.flatMap cells) → Below base w w' → (v'.ownBlock = v.ownBlock ∨ v'.ownBlock = some w.heap.size) → w.grownBy w' v.ownBlock → K (a.put o.dst v') w') :
    if Region.wanted o (yielded ops a.tmps) = true then Oper.wp P o a w K Q else E := by
  have hw : Region.wanted o (yielded ops a.tmps) = true := by simp [Region.wanted, hgd]
  rw [if_pos hw]
  obtain ⟨v', w', hrun, ho', hb, hob, hgr⟩ : ∃ v' w', (Builtin.append_ #[t, t] o.type #[v, .slice A l.length c]).run P w = .ok v' w' ∧ w'.ownsRow base e size v' (n + l.length) (xs ++ l.flatMap cells) ∧ Below base w w' ∧ (v'.ownBlock = v.ownBlock ∨ v'.ownBlock = some w.heap.size) ∧ w.grownBy w' v.ownBlock := by
    cases A with
    | none =>
      have h0 : l = [] := by
        cases l with
        | nil => rfl
        | cons x l => obtain ⟨_, _, e, _⟩ := hl (by simp); cases e
      subst h0
      exact ⟨v, w, run_append_none w base _ _ _ i0 size ht hi v n xs hown c, by simpa using hown, Below.refl _ _, .inl rfl, ⟨rfl, rfl, rfl, Nat.le_refl _, fun _ _ _ => rfl⟩⟩
    | some ad =>
      have hnews : ∀ j u, (l.flatMap cells)[j]? = some u → w.cell? (ad.add j) = some u := by
        intro j u hu
        obtain ⟨i, r, y, rfl, hi, hr⟩ := flat_back hpos hcl l j u hu
        have hp : 0 < l.length := by have := (List.getElem?_eq_some_iff.1 hi).1; omega
        obtain ⟨b, o, e, _, hc⟩ := hl hp
        obtain rfl : ad = ⟨b, o, none⟩ := by injection e
        have ea : (⟨b, o, none⟩ : Addr).add (i * size + r) = ⟨b, o + i * size + r, none⟩ := by unfold Addr.add; split <;> simp_all <;> omega
        rw [ea]
        exact hc i y hi r u hr
      obtain ⟨v', w', hr, h2, h3, _, h5⟩ := run_append_own_at (P := P) w base t o.type e i0 _ size bytes ht hi hz0 hz1 hz2 hzs hpos v n xs hown ad l.length c (l.flatMap cells) (flat_size hcl l) hnews
        (fun u hu => by obtain ⟨y, _, hy⟩ := List.mem_flatMap.1 hu; exact hone y u hy) h63 hn hbase
      exact ⟨v', w', hr, h2, (Below.refl base w).grown h3 hbase (fun k hk => (hown.lt k hk).1), h5, h3⟩
  unfold Oper.wp execOp
  simp only [ho, resolve, invoke, builtin, Sem.run_bind, Sem.run_pure, Result.andThen_ok, List.map_toArray, List.map_cons, List.map_nil, hs, hx, hrun]
  exact h v' w' ho' hb hob hgr
/-- a time's block, still empty -/
def TT (w : World) (g : Nat) : Prop := Own w g 46 [.int .u64 0, .int .u64 0, .int .u64 0]
theorem TT.made (w : World) : TT (w.alloc (.cells #[.int .u64 0, .int .u64 0, .int .u64 0] 46)) w.heap.size := Own.made w 46 [.int .u64 0, .int .u64 0, .int .u64 0]
theorem TT.app {w w' : World} {g : Nat} {v : Value} (h : TT w g) (hg : w.grownBy w' v.ownBlock) (hne : v.ownBlock ≠ some g) : TT w' g := (hg.block g (Own.inside h) (fun e => hne e.symm)).trans h
theorem TT.past {w w' : World} {g : Nat} (h : TT w g) (hb : Below w.heap.size w w') : TT w' g := Own.past h hb (Own.inside h)
theorem tmcells_one (t : Tm) : ∀ u ∈ t.cells, u.oneCell' = true := by
  intro v hv
  simp only [Tm.cells, List.mem_cons, List.not_mem_nil, or_false] at hv
  rcases hv with rfl | rfl | rfl <;> rfl
theorem row_newT (w : World) : (w.alloc (.cells #[] 46)).ownsRow w.heap.size 46 3 (.slice (some ⟨w.heap.size, 0, none⟩) 0 0) 0 [] := World.ownsRow_made w #[] 0 (Nat.le_refl _) (Nat.zero_le _) rfl
theorem row_lowerS {w : World} {B B' n size : Nat} {e : TypeId} {v : Value} {xs : List Value} (h : w.ownsRow B e size v n xs) (hB : B' ≤ B) : w.ownsRow B' e size v n xs := ⟨h.1, h.2.imp id fun ⟨g, cap, cur, h1, h2, h3⟩ => ⟨g, cap, cur, h1, Nat.le_trans hB h2, h3⟩⟩
theorem kpu_low {B B' : Nat} {l : List Up} {v : Value} {W : World} (h : KpU B l v W) (hB : B' ≤ B) : KpU B' l v W := h.lower hB
theorem bl_base {U w2 w3 : World} (h : Bl U w2) (k : Below U.heap.size w2 w3) : Bl U w3 := h.below.trans k
theorem bl_step {U w w' : World} (h : Bl U w) (k : Below w.heap.size w w') : Bl U w' := Bl.call h k
theorem below_al {w w' : World} {o : Obj} (k : Below w.heap.size (w.alloc o) w') : Below w.heap.size w w' := ((Below.refl _ _).alloc (Nat.le_refl _) _).trans k
theorem below_two {w w2 w3 : World} {o : Obj} (k : Below (w.alloc o).heap.size (w.alloc o) w2) (l : Below w.heap.size w2 w3) : Below w.heap.size w w3 := (((Below.refl _ _).alloc (Nat.le_refl _) _).trans (k.mono (by simp))).trans l
theorem KpU.grownN {B N : Nat} {l : List Up} {v : Value} {W W' : World} (h : KpU B l v W) (hg : W.grownBy W' (Value.slice (some ⟨N, 0, none⟩) 0 0).ownBlock) (hN : N < B) : KpU B l v W' := by
  obtain ⟨A, c, outL, e, hp, hu, ok, lo, ro, fa⟩ := h
  have hro := World.ownsRow.kept ro hg (.inr fun e => by
    have h1 := ro.lt N (by simpa [Value.ownBlock] using e)
    omega)
  obtain ⟨A', c', e', _, _, hl⟩ := lies_of_own (size := 6) (cells := Up.cells) (by decide) ucells_len rfl hro
  have hAA : A = A' := by rw [e] at e'; injection e'
  subst hAA
  exact ⟨A, c, outL, e, hp, ⟨hl, fun u hu' => uin_grown (hu.each_ u hu') (fun b o k => ⟨(fa u hu' b o k).1, fun e2 => by
    have h1 := (fa u hu' b o k).2.2
    have : N = b := by simpa [Value.ownBlock] using e2
    omega, (fa u hu' b o k).2.2⟩) hg⟩, ok, lo, hro, fun u hu' => (fa u hu').next hg.size⟩
set_option maxRecDepth 100000 in
set_option maxHeartbeats 12800000 in
theorem rstart_any2 (A : Option Addr) (c : Nat) (f : List Tm) (a b : Bt) (w : World) (hf : Times w w.heap.size A f) (hfo : TsOk f c) (ha : BtIn w w.heap.size a) (oa : BtOk a) (na : ∀ u ∈ a.l, u.key.length ≤ 1099511627776 ∧ u.row.length ≤ 1099511627776) (hb : BtIn w w.heap.size b) (ob : BtOk b) (nb : ∀ u ∈ b.l, u.key.length ≤ 1099511627776 ∧ u.row.length ≤ 1099511627776) :
    Calls Tryz.prog 13 #[.slice A f.length c, a.val, b.val] w (Started2 f a b w) := by
  obtain ⟨V, hV, hvb, hv1, hv2, hv3⟩ := st_box w a b
  have hX := fun p : Past V => own2 (hv1.past p.h hv1.inside)
  have hY := fun p : Past V => own2 (hv2.past p.h hv2.inside)
  have hZ := fun p : Past V => hv3.past p.h hv3.inside
  have hia := ha.keep hvb
  have hib := hb.keep hvb
  have hif := (hf.past hvb (Nat.le_refl _)).wide hvb.size
  have hfV := fun p : Past V => (hif.past p.h (Nat.le_refl _)).wide p.h.size
  obtain ⟨ca, hca⟩ := code_of (BatchOk a.f a.l) 4
  obtain ⟨cb, hcb⟩ := code_of (BatchOk b.f b.l) 4
  obtain ⟨bf, hbf⟩ := bool_of (FrontOk f)
  obtain ⟨la, hla⟩ := bool_of (LaterF f a.f)
  obtain ⟨lb, hlb⟩ := bool_of (LaterF f b.f)
  have n1 := hfo.n
  have m1 : f.length ≤ maxLen := Nat.le_trans hfo.le hfo.c_
  have m2 : a.f.length ≤ maxLen := Nat.le_trans oa.f.le oa.f.c_
  have m3 : b.f.length ≤ maxLen := Nat.le_trans ob.f.le ob.f.c_
  have u1 := fun p : Past V => calls_past ((rbcheck_any a p.w (hia.keep p.h) oa).mono fun x w' h => codes_is hca h)
  have u2 := fun p : Past V => calls_past ((rbcheck_any b p.w (hib.keep p.h) ob).mono fun x w' h => codes_is hcb h)
  have u3 := fun p : Past V => calls_past ((rfront_any A c f p.w (hfV p) (by omega)).mono fun x w' h => tells_is hbf h)
  have u4 := fun p : Past V => calls_past ((rlater_any A c f a.sA a.sc a.f p.w (hfV p) m1 (hia.keep p.h).since m2).mono fun x w' h => tells_is hla h)
  have u5 := fun p : Past V => calls_past ((rlater_any A c f b.sA b.sc b.f p.w (hfV p) m1 (hib.keep p.h).since m3).mono fun x w' h => tells_is hlb h)
  have HB := Lib.hid hvb
  have HI := Lib.hid (And.intro hia (And.intro hib hif))
  have HZ := Lib.hid hZ
  have HC := Lib.hid (And.intro hca (And.intro hcb (And.intro hbf (And.intro hla hlb))))
  have HOK := Lib.hid (And.intro hfo (And.intro oa (And.intro na (And.intro ob nb))))
  have HG := Lib.hid hv3.inside
  have hA : a.val = .agg #[.slice a.sA a.f.length a.sc, .slice a.uA a.l.length a.uc] := rfl
  have hB : b.val = .agg #[.slice b.sA b.f.length b.sc, .slice b.uA b.l.length b.uc] := rfl
  rw [hA, hB]
  rw [hA] at u1
  rw [hB] at u2
  have HF := Lib.hid (show ∀ (E : Int) (x : Ending) (w' : World), codeSt f a b E → ¬ StartOk f a b → x = .returned (.tuple #[Mg.nil.val, .int .i64 E]) → Below w.heap.size w w' → Started2 f a b w x w' from fun E x w' h1 h2 h3 h4 => ⟨Mg.nil, E, h3, .inr ⟨h1, rfl, h2⟩, mg_nil_in _ _, mg_nil_ok, mg_nil_lo _, h4⟩)
  have HP := Lib.hid (show ∀ (m : Mg) (x : Ending) (w' : World), StartOk f a b → x = .returned (.tuple #[m.val, .int .i64 0]) → m.a.map Up.p = a.l.map Up.p ∧ m.b.map Up.p = b.l.map Up.p ∧ m.i = 0 ∧ m.j = 0 ∧ m.f = f ∧ m.o = [] → MgIn w' w'.heap.size m → MgOk m → MgLo w.heap.size m → Below w.heap.size w w' → Started2 f a b w x w' from fun m x w' h1 h2 h3 h4 h5 h6 h7 => ⟨m, 0, h2, .inl ⟨rfl, h1, h3⟩, h4, h5, h6, h7⟩)
  clear hf hfo ha oa hb ob hvb hv1 hv2 hv3 hia hib hif hfV hca hcb hbf hla hlb n1 m1 m2 m3 hZ hA hB na nb
  go_enter Tryz.func13, Tryz.ntmps13
  go_upto_region 1 with fail
  rw [← hV]
  clear hV
  obtain ⟨a0, a1⟩ := hX ⟨V, Below.refl _ _⟩
  obtain ⟨b0, b1⟩ := hY ⟨V, Below.refl _ _⟩
  dsimp only at a0 a1 b0 b1
  go_wp2_with fail
  refine (u1 ⟨V, Below.refl _ _⟩).mono ?_
  rintro _ _ ⟨rfl, ⟨p1, rfl⟩⟩
  clear a0 a1 b0 b1 u1
  obtain ⟨a0, a1⟩ := hX p1
  obtain ⟨b0, b1⟩ := hY p1
  by_cases h1 : ca = 0
  case neg =>
    have t1 : (ca != 0) = true := bne_iff_ne.2 h1
    have hz := HZ.out p1
    obtain ⟨f0, f1, f2, f3, f4, f5⟩ := own_frozen6 hz
    obtain ⟨z0, z1, z2, z3, z4, z5⟩ := own6 hz
    obtain ⟨X, hX', hXo, hXb, hXs, hXh⟩ := own_six hz (.slice none 0 0) (.slice none 0 0) (.int .i64 0) (.int .i64 0) (.slice none 0 0) (.slice none 0 0)
    have HX := Lib.hid (And.intro (hXb w.heap.size w (HB.out.trans (p1.h.mono HB.out.size)) (by omega)) hXo)
    have HN := Lib.hid (show ¬ StartOk f a b from fun h => by rcases HC.out.1 with ⟨_, e⟩ | ⟨e, _⟩; exact h1 e; exact e h.1)
    have HCD := Lib.hid (show codeSt f a b 4 from .inl ⟨rfl, fun h => by rcases HC.out.1 with ⟨_, e⟩ | ⟨e, _⟩; exact h1 e; exact e h.1⟩)
    have HR := Lib.hid hX'
    clear hz hXo hXb hXs hXh hX' h1 u2 u3 u4 u5
    go_wp2_with fail
    rw [← HR.out]
    obtain ⟨x0, x1, x2, x3, x4, x5⟩ := own6 HX.out.2
    exact bodyPost_ret (v := .tuple #[.agg #[.slice none 0 0, .slice none 0 0, .int .i64 0, .int .i64 0, .slice none 0 0, .slice none 0 0], .int .i64 4]) (by simp [results, Tryz.results13, go_sem, x0, x1, x2, x3, x4, x5]) rfl (HF.out 4 _ _ HCD.out HN.out rfl HX.out.1)
  subst h1
  go_wp2_with fail
  refine (u2 p1).mono ?_
  rintro _ _ ⟨rfl, ⟨p2, rfl⟩⟩
  clear a0 a1 b0 b1 u2
  obtain ⟨a0, a1⟩ := hX p2
  obtain ⟨b0, b1⟩ := hY p2
  by_cases h2 : cb = 0
  case neg =>
    have t1 : (cb != 0) = true := bne_iff_ne.2 h2
    have hz := HZ.out p2
    obtain ⟨f0, f1, f2, f3, f4, f5⟩ := own_frozen6 hz
    obtain ⟨z0, z1, z2, z3, z4, z5⟩ := own6 hz
    obtain ⟨X, hX', hXo, hXb, hXs, hXh⟩ := own_six hz (.slice none 0 0) (.slice none 0 0) (.int .i64 0) (.int .i64 0) (.slice none 0 0) (.slice none 0 0)
    have HX := Lib.hid (And.intro (hXb w.heap.size w (HB.out.trans (p2.h.mono HB.out.size)) (by omega)) hXo)
    have HN := Lib.hid (show ¬ StartOk f a b from fun h => by rcases HC.out.2.1 with ⟨_, e⟩ | ⟨e, _⟩; exact h2 e; exact e h.2.1)
    have HCD := Lib.hid (show codeSt f a b 4 from .inl ⟨rfl, fun h => by rcases HC.out.2.1 with ⟨_, e⟩ | ⟨e, _⟩; exact h2 e; exact e h.2.1⟩)
    have HR := Lib.hid hX'
    clear hz hXo hXb hXs hXh hX' h2 u3 u4 u5
    go_wp2_with fail
    rw [← HR.out]
    obtain ⟨x0, x1, x2, x3, x4, x5⟩ := own6 HX.out.2
    exact bodyPost_ret (v := .tuple #[.agg #[.slice none 0 0, .slice none 0 0, .int .i64 0, .int .i64 0, .slice none 0 0, .slice none 0 0], .int .i64 4]) (by simp [results, Tryz.results13, go_sem, x0, x1, x2, x3, x4, x5]) rfl (HF.out 4 _ _ HCD.out HN.out rfl HX.out.1)
  subst h2
  go_wp2_with fail
  refine (u3 p2).mono ?_
  rintro _ _ ⟨rfl, ⟨p3, rfl⟩⟩
  clear a0 a1 b0 b1 u3
  obtain ⟨a0, a1⟩ := hX p3
  obtain ⟨b0, b1⟩ := hY p3
  cases bf with
  | false =>
    have hz := HZ.out p3
    obtain ⟨f0, f1, f2, f3, f4, f5⟩ := own_frozen6 hz
    obtain ⟨z0, z1, z2, z3, z4, z5⟩ := own6 hz
    obtain ⟨X, hX', hXo, hXb, hXs, hXh⟩ := own_six hz (.slice none 0 0) (.slice none 0 0) (.int .i64 0) (.int .i64 0) (.slice none 0 0) (.slice none 0 0)
    have HX := Lib.hid (And.intro (hXb w.heap.size w (HB.out.trans (p3.h.mono HB.out.size)) (by omega)) hXo)
    have HN := Lib.hid (show ¬ StartOk f a b from fun h => by have := HC.out.2.2.1.2 h.2.2.1; cases this)
    have HCD := Lib.hid (show codeSt f a b 4 from .inl ⟨rfl, fun h => by have := HC.out.2.2.1.2 h.2.2; cases this⟩)
    have HR := Lib.hid hX'
    clear hz hXo hXb hXs hXh hX' u4 u5
    go_wp2_with fail
    rw [← HR.out]
    obtain ⟨x0, x1, x2, x3, x4, x5⟩ := own6 HX.out.2
    exact bodyPost_ret (v := .tuple #[.agg #[.slice none 0 0, .slice none 0 0, .int .i64 0, .int .i64 0, .slice none 0 0, .slice none 0 0], .int .i64 4]) (by simp [results, Tryz.results13, go_sem, x0, x1, x2, x3, x4, x5]) rfl (HF.out 4 _ _ HCD.out HN.out rfl HX.out.1)
  | true =>
  go_wp2_with fail
  refine (u4 p3).mono ?_
  rintro _ _ ⟨rfl, ⟨p4, rfl⟩⟩
  clear a0 a1 b0 b1 u4
  obtain ⟨a0, a1⟩ := hX p4
  obtain ⟨b0, b1⟩ := hY p4
  cases la with
  | false =>
    have hz := HZ.out p4
    obtain ⟨f0, f1, f2, f3, f4, f5⟩ := own_frozen6 hz
    obtain ⟨z0, z1, z2, z3, z4, z5⟩ := own6 hz
    obtain ⟨X, hX', hXo, hXb, hXs, hXh⟩ := own_six hz (.slice none 0 0) (.slice none 0 0) (.int .i64 0) (.int .i64 0) (.slice none 0 0) (.slice none 0 0)
    have HX := Lib.hid (And.intro (hXb w.heap.size w (HB.out.trans (p4.h.mono HB.out.size)) (by omega)) hXo)
    have HN := Lib.hid (show ¬ StartOk f a b from fun h => by have := HC.out.2.2.2.1.2 h.2.2.2.1; cases this)
    have HCD := Lib.hid (show codeSt f a b 1 from .inr ⟨rfl, by rcases HC.out.1 with ⟨e, _⟩ | ⟨_, e⟩; exact e; omega, by rcases HC.out.2.1 with ⟨e, _⟩ | ⟨_, e⟩; exact e; omega, HC.out.2.2.1.1 (by first | trivial | rfl)⟩)
    have HR := Lib.hid hX'
    clear hz hXo hXb hXs hXh hX' u5
    go_wp2_with fail
    rw [← HR.out]
    obtain ⟨x0, x1, x2, x3, x4, x5⟩ := own6 HX.out.2
    exact bodyPost_ret (v := .tuple #[.agg #[.slice none 0 0, .slice none 0 0, .int .i64 0, .int .i64 0, .slice none 0 0, .slice none 0 0], .int .i64 1]) (by simp [results, Tryz.results13, go_sem, x0, x1, x2, x3, x4, x5]) rfl (HF.out 1 _ _ HCD.out HN.out rfl HX.out.1)
  | true =>
  go_wp2_with fail
  refine (u5 p4).mono ?_
  rintro _ _ ⟨rfl, ⟨p5, rfl⟩⟩
  clear a0 a1 b0 b1 u5
  obtain ⟨a0, a1⟩ := hX p5
  obtain ⟨b0, b1⟩ := hY p5
  cases lb with
  | false =>
    have hz := HZ.out p5
    obtain ⟨f0, f1, f2, f3, f4, f5⟩ := own_frozen6 hz
    obtain ⟨z0, z1, z2, z3, z4, z5⟩ := own6 hz
    obtain ⟨X, hX', hXo, hXb, hXs, hXh⟩ := own_six hz (.slice none 0 0) (.slice none 0 0) (.int .i64 0) (.int .i64 0) (.slice none 0 0) (.slice none 0 0)
    have HX := Lib.hid (And.intro (hXb w.heap.size w (HB.out.trans (p5.h.mono HB.out.size)) (by omega)) hXo)
    have HN := Lib.hid (show ¬ StartOk f a b from fun h => by have := HC.out.2.2.2.2.2 h.2.2.2.2; cases this)
    have HCD := Lib.hid (show codeSt f a b 1 from .inr ⟨rfl, by rcases HC.out.1 with ⟨e, _⟩ | ⟨_, e⟩; exact e; omega, by rcases HC.out.2.1 with ⟨e, _⟩ | ⟨_, e⟩; exact e; omega, HC.out.2.2.1.1 (by first | trivial | rfl)⟩)
    have HR := Lib.hid hX'
    clear hz hXo hXb hXs hXh hX' hX
    go_wp2_with fail
    rw [← HR.out]
    obtain ⟨x0, x1, x2, x3, x4, x5⟩ := own6 HX.out.2
    exact bodyPost_ret (v := .tuple #[.agg #[.slice none 0 0, .slice none 0 0, .int .i64 0, .int .i64 0, .slice none 0 0, .slice none 0 0], .int .i64 1]) (by simp [results, Tryz.results13, go_sem, x0, x1, x2, x3, x4, x5]) rfl (HF.out 1 _ _ HCD.out HN.out rfl HX.out.1)
  | true =>
  have hst : StartOk f a b := by
    refine ⟨?_, ?_, HC.out.2.2.1.1 trivial, HC.out.2.2.2.1.1 trivial, HC.out.2.2.2.2.1 rfl⟩
    · rcases HC.out.1 with ⟨e, _⟩ | ⟨_, e⟩
      · exact e
      · omega
    · rcases HC.out.2.1 with ⟨e, _⟩ | ⟨_, e⟩
      · exact e
      · omega
  obtain ⟨i0, hi0, hz0, hz1, hz2⟩ := info_parts infoTm
  have hUT := Tryz.underlying23
  obtain ⟨U, hU⟩ : ∃ U, U = p5.w := ⟨_, rfl⟩
  have hUb : Below V.heap.size V U := hU ▸ p5.h
  have hza := HI.out.1.keep hUb
  have hzb := HI.out.2.1.keep hUb
  have hzf := (HI.out.2.2.past hUb (Nat.le_refl _)).wide hUb.size
  have hzz : Own U (w.heap.size + 2) 25 Mg.nil.cells := hU ▸ HZ.out p5
  rw [← hU] at a0 a1 b0 b1
  have y1 := fun W (h : Bl U W) => Lib.hid (copyU_kp a.uA a.uc a.l W (hza.keep h).ups HOK.out.2.1.l HOK.out.2.2.1)
  have y2 := fun W (h : Bl U W) => Lib.hid (copyU_kp b.uA b.uc b.l W (hzb.keep h).ups HOK.out.2.2.2.1.l HOK.out.2.2.2.2)
  have hFL := Lib.hid (fun W (h : Bl U W) => lies_times (hzf.past h (Nat.le_refl _)))
  have HFL := hFL
  have HS := Lib.hid (fun W (h : Bm (w.heap.size + 2) U W) => And.intro ((Below.cell (p := ⟨w.heap.size, 1, none⟩) h (by show w.heap.size < _; omega)).trans a1) ((Below.cell (p := ⟨w.heap.size + 1, 1, none⟩) h (by show w.heap.size + 1 < _; omega)).trans b1))
  have hbs : w.heap.size + 2 ≤ U.heap.size := Nat.le_of_lt hzz.inside
  have HT := Lib.hid (fun W (h : Bl U W) => hzz.past h hzz.inside)
  have HU := Lib.hid (And.intro (HB.out.trans (hUb.mono HB.out.size)) (And.intro hst hzz.inside))
  have hfn := HOK.out.1.n
  have hself := Bl.refl U
  clear hza hzb hzf hzz hUb hst hX hY a0 b0
  go_upto_region 5 with fail
  rw [← hU]
  clear hU
  go_region_held3 (fun w' => Bm (w.heap.size + 2) U w' ∧ (w'.cell? ⟨w.heap.size, 1, none⟩ = some (.slice a.uA a.l.length a.uc) ∧ w'.cell? ⟨w.heap.size + 1, 1, none⟩ = some (.slice b.uA b.l.length b.uc)))
    ((refine (fun h => And.intro h (HS.out _ h)) ?_; repeat (first | with_reducible exact Bm.of hb3 hbs | with_reducible exact Bm.of hb2 hbs | with_reducible exact Bm.of hb1 hbs | with_reducible exact Bm.of hself hbs | with_reducible refine Bm.set ?_ (Nat.le_refl _) _ _ | with_reducible refine Bm.more ?_ hbs _ | with_reducible refine Bm.drew ?_)))
    (first
      | (refine step_append_anyR (size := 3) (cells := Tm.cells) (l := f) (A := A) (B := U.heap.size) _ rfl (.tmp 43) (.tmp 44) 23 46 rfl i0 _ 24 hUT hi0 hz0 hz1 hz2 rfl (by decide) (fun _ => rfl) tmcells_one U.heap.size (.slice (some ⟨U.heap.size, 0, none⟩) 0 0) 0 _ rfl hrow2.1 c (by simp [Act.eval, Act.put]) (HFL.out _ (by repeat (first | with_reducible exact hb2 | with_reducible refine Bl.more ?_ _))) (by unfold maxLen; omega) (by omega) (by first | exact Nat.le_trans hb1.below.size b2.size | (have h1 := hb2.below.size; have h2 := b2.size; simp at h1 h2 ⊢; try omega)) ?_; intro v3 w3 ho3 hb3' hob3 hg3; have hb3 : Bl U w3 := bl_base hb2 hb3'; have HKA := Lib.hid (show KpU U.heap.size a.l (.slice A1 l1 k1) w3 from kpu_low ((hka.keep b2).grownN hg3 (by simp [World.drew])) (by simp)); have HKB := Lib.hid (show KpU U.heap.size b.l (.slice A2 l2 k2) w3 from kpu_low (hkb.grownN hg3 (by have h1 := hb1.below.size; have h2 := hrow2.2; omega)) (by have h1 := hb1.below.size; omega)); have hr3 := row_lowerS ho3 (show U.heap.size ≤ U.heap.size by first | exact Nat.le_refl _ | exact hb1.below.size | exact hb2.below.size); obtain ⟨As, cs, rfl, hcs, hms, h3⟩ := times_of_own (l := f) (n := 0 + f.length) (by omega) (by simpa using hr3); have HO3 := Lib.hid (And.intro hr3 (And.intro hcs (And.intro hms h3))); clear hr3 hcs hms h3; obtain ⟨f0, f1, f2, f3, f4, f5⟩ := own_frozen6 (HT.out _ hb3); obtain ⟨e0, e1, e2, e3, e4, e5⟩ := own6 (HT.out _ hb3))
      | (refine step_append_anyR (size := 3) (cells := Tm.cells) (l := f) (A := A) (B := U.heap.size) _ rfl (.tmp 43) (.tmp 44) 23 46 rfl i0 _ 24 hUT hi0 hz0 hz1 hz2 rfl (by decide) (fun _ => rfl) tmcells_one w1.heap.size (.slice (some ⟨w1.heap.size, 0, none⟩) 0 0) 0 _ rfl hrow2.1 c (by simp [Act.eval, Act.put]) (HFL.out _ (by repeat (first | with_reducible exact hb2 | with_reducible refine Bl.more ?_ _))) (by unfold maxLen; omega) (by omega) (by first | exact Nat.le_trans hb1.below.size b2.size | (have h1 := hb2.below.size; have h2 := b2.size; simp at h1 h2 ⊢; try omega)) ?_; intro v3 w3 ho3 hb3' hob3 hg3; have hb3 : Bl U w3 := bl_step hb1 (below_two b2 hb3'); have HKA := Lib.hid (show KpU U.heap.size a.l (.slice A1 l1 k1) w3 from kpu_low (hka.keep (below_two b2 hb3')) (by simp)); have HKB := Lib.hid (show KpU U.heap.size b.l (.slice A2 l2 k2) w3 from kpu_low (hkb.grownN hg3 (by simp)) (by have h1 := hb1.below.size; simp; omega)); have hr3 := row_lowerS ho3 (show U.heap.size ≤ w1.heap.size by first | exact Nat.le_refl _ | exact hb1.below.size | exact hb2.below.size); obtain ⟨As, cs, rfl, hcs, hms, h3⟩ := times_of_own (l := f) (n := 0 + f.length) (by omega) (by simpa using hr3); have HO3 := Lib.hid (And.intro hr3 (And.intro hcs (And.intro hms h3))); clear hr3 hcs hms h3; obtain ⟨f0, f1, f2, f3, f4, f5⟩ := own_frozen6 (HT.out _ hb3); obtain ⟨e0, e1, e2, e3, e4, e5⟩ := own6 (HT.out _ hb3))
      | (refine step_append_anyR (size := 3) (cells := Tm.cells) (l := f) (A := A) (B := U.heap.size) _ rfl (.tmp 43) (.tmp 44) 23 46 rfl i0 _ 24 hUT hi0 hz0 hz1 hz2 rfl (by decide) (fun _ => rfl) tmcells_one w2.heap.size (.slice (some ⟨w2.heap.size, 0, none⟩) 0 0) 0 _ rfl (row_newT w2) c (by simp [Act.eval, Act.put]) (HFL.out _ (by repeat (first | with_reducible exact hb2 | with_reducible refine Bl.more ?_ _))) (by unfold maxLen; omega) (by omega) (by first | exact Nat.le_trans hb1.below.size b2.size | (have h1 := hb2.below.size; have h2 := b2.size; simp at h1 h2 ⊢; try omega)) ?_; intro v3 w3 ho3 hb3' hob3 hg3; have hb3 : Bl U w3 := bl_step hb2 (below_al hb3'); have HKA := Lib.hid (show KpU U.heap.size a.l (.slice A1 l1 k1) w3 from kpu_low ((hka.keep b2).keep (below_al hb3')) (by simp)); have HKB := Lib.hid (show KpU U.heap.size b.l (.slice A2 l2 k2) w3 from kpu_low (hkb.keep (below_al hb3')) (by have h1 := hb1.below.size; omega)); have hr3 := row_lowerS ho3 (show U.heap.size ≤ w2.heap.size by first | exact Nat.le_refl _ | exact hb1.below.size | exact hb2.below.size); obtain ⟨As, cs, rfl, hcs, hms, h3⟩ := times_of_own (l := f) (n := 0 + f.length) (by omega) (by simpa using hr3); have HO3 := Lib.hid (And.intro hr3 (And.intro hcs (And.intro hms h3))); clear hr3 hcs hms h3; obtain ⟨f0, f1, f2, f3, f4, f5⟩ := own_frozen6 (HT.out _ hb3); obtain ⟨e0, e1, e2, e3, e4, e5⟩ := own6 (HT.out _ hb3))
      | (go_at_call 26; have hq := hrow1; refine (y2 w1 hb1).out.mono ?_; rintro _ w2 ⟨A2, k2, l2, rfl, hkb, b2⟩; have hb2 : Bl U w2 := Bl.call hb1 b2; have hrow2 := And.intro (own_below hrow1 b2) hlt1)
      | (go_at_call 26; refine (y2 (w1.alloc (.cells #[] 46)) (hb1.more _)).out.mono ?_; rintro _ w2 ⟨A2, k2, l2, rfl, hkb, b2⟩; have hb2 : Bl U w2 := Bl.call (hb1.more _) b2; have hrow2 := And.intro (own_below (row_newT w1) b2) trivial)
      | (go_at_call 26; have hq := hb1; refine (y2 w1 hb1).out.mono ?_; rintro _ w2 ⟨A2, k2, l2, rfl, hkb, b2⟩; have hb2 : Bl U w2 := Bl.call hb1 b2)
      | (go_at_call 26; refine (y1 (U.alloc (.cells #[] 46)).drew (hself.more _).drew).out.mono ?_; rintro _ w1 ⟨A1, k1, l1, rfl, hka, b1'⟩; have hb1 : Bl U w1 := Bl.call (hself.more _).drew b1'; have hrow1 := own_below (row_newT U).drew b1'; have hlt1 : U.heap.size < w1.heap.size := Nat.lt_of_lt_of_le (by simp [World.drew]) b1'.size)
      | (go_at_call 26; refine (y1 U.drew hself.drew).out.mono ?_; rintro _ w1 ⟨A1, k1, l1, rfl, hka, b1'⟩; have hb1 : Bl U w1 := Bl.call hself.drew b1'))
  all_goals
    obtain ⟨hro3, hcs, hms, h3⟩ := HO3.out
    obtain ⟨Aa, ca, la, ea, pa, ua, oka, loa, _, _⟩ := HKA.out
    obtain ⟨Ab, cb, lb, eb, pb, ub, okb, lob, _, _⟩ := HKB.out
    obtain ⟨rfl, rfl, rfl⟩ : A1 = Aa ∧ l1 = la.length ∧ k1 = ca := by injection ea with x y z; exact ⟨x, y, z⟩
    obtain ⟨rfl, rfl, rfl⟩ : A2 = Ab ∧ l2 = lb.length ∧ k2 = cb := by injection eb with x y z; exact ⟨x, y, z⟩
    have hlt3 := hro3.lt
    obtain ⟨X, hX', hXo, hXb, hXs, hXh⟩ := own_six (HT.out _ hb3) (.slice A1 la.length k1) (.slice A2 lb.length k2) (.int .i64 0) (.int .i64 0) (.slice As f.length cs) (.slice none 0 0)
    have s0 : w.heap.size + 2 < U.heap.size := HU.out.2.2
    have nb : Nb U.heap.size w3 X := ⟨hXs, fun b hb => hXh b (by omega)⟩
    have hsT : LoT U.heap.size As := fun b o e => (hlt3 b (by rw [e]; rfl)).1
    have HX := Lib.hid (And.intro (hXb w.heap.size w (HU.out.1.trans (hb3.below.mono HU.out.1.size)) (by omega)) hXo)
    have HQ := Lib.hid (show MgIn X X.heap.size ⟨A1, k1, la, A2, k2, lb, 0, 0, As, cs, f, none, 0, []⟩ from ⟨nb.ups ua loa, nb.ups ub lob, nb.times h3 hsT, ⟨Lies.nil_, fun u hu => by cases hu⟩⟩)
    have HN := Lib.hid (show MgLo w.heap.size ⟨A1, k1, la, A2, k2, lb, 0, 0, As, cs, f, none, 0, []⟩ from ⟨loa.mono (by omega), lob.mono (by omega), fun b o e => Nat.le_trans (by omega) (hsT b o e), lo_nil _⟩)
    have HK := Lib.hid (show MgOk ⟨A1, k1, la, A2, k2, lb, 0, 0, As, cs, f, none, 0, []⟩ from ⟨oka, okb, ⟨hfn, hcs, hms⟩, us_nil, ⟨by show -9223372036854775808 ≤ (0 : Int); omega, by show (0 : Int) ≤ 9223372036854775807; omega⟩, ⟨by show -9223372036854775808 ≤ (0 : Int); omega, by show (0 : Int) ≤ 9223372036854775807; omega⟩⟩)
    have HM := Lib.hid (And.intro pa pb)
    have HR := Lib.hid hX'
    clear hX' hXo hXb hXs hXh e0 e1 e2 e3 e4 e5 ua ub oka okb loa lob pa pb ea eb h3 hlt3 nb hsT
    go_wp2_with fail
    rw [← HR.out]
    obtain ⟨x0, x1, x2, x3, x4, x5⟩ := own6 HX.out.2
    exact bodyPost_ret (v := .tuple #[.agg #[.slice A1 la.length k1, .slice A2 lb.length k2, .int .i64 0, .int .i64 0, .slice As f.length cs, .slice none 0 0], .int .i64 0]) (by simp [results, Tryz.results13, go_sem, x0, x1, x2, x3, x4, x5]) rfl (HP.out ⟨A1, k1, la, A2, k2, lb, 0, 0, As, cs, f, none, 0, []⟩ _ _ HU.out.2.1 rfl ⟨HM.out.1, HM.out.2, rfl, rfl, rfl, rfl⟩ HQ.out HK.out HN.out HX.out.1)
end Go.Proofs.YtllpfngmnccejaaGreat
namespace Go.Proofs.YtllpfngmnccejaaGreat
open Go Go.RowKit

theorem get_p {l m : List Up} (h : l.map Up.p = m.map Up.p) {k : Nat} {x : Up} (hx : l[k]? = some x) : ∃ y, m[k]? = some y ∧ y.p = x.p := by
  have h1 : (m.map Up.p)[k]? = some x.p := by rw [← h, List.getElem?_map, hx]; rfl
  rw [List.getElem?_map] at h1
  cases hm : m[k]? with
  | none => rw [hm] at h1; cases h1
  | some y => rw [hm] at h1; exact ⟨y, rfl, by injection h1⟩
theorem div_p {l m o q : List Up} {i : Int} (h : l.map Up.p = m.map Up.p) (k : o.map Up.p = q.map Up.p) (hd : DivB l i o) : DivB m i q := by
  refine ⟨hd.lo, by rw [← len_p h]; exact hd.hi, fun x y hi hx hy => ?_, fun z y hz hy => ?_⟩
  · obtain ⟨x', hx', ex⟩ := get_p h.symm hx
    obtain ⟨y', hy', ey⟩ := get_p h.symm hy
    rw [← plc_p ex ey]
    exact hd.side x' y' hi hx' hy'
  · rw [← len_p k] at hz
    obtain ⟨z', hz', ez⟩ := get_p k.symm hz
    obtain ⟨y', hy', ey⟩ := get_p h.symm hy
    rw [← plc_p ez ey]
    exact hd.past z' y' hz' hy'
theorem SameM.swap {x y : Mg} (h : SameM x y) : SameM y x := ⟨h.a.symm, h.b.symm, h.i.symm, h.j.symm, h.f.symm, h.o.symm⟩
theorem mok_p {x y : Mg} (h : SameM x y) (k : MOk x) : MOk y := by
  unfold MOk at k ⊢
  refine ⟨⟨even_p h.a k.even.1, even_p h.b k.even.2.1, even_p h.o k.even.2.2⟩, ?_, ?_, ?_, ?_⟩
  · rw [← h.f]; exact k.front
  · rw [← h.f]; exact advd_p h.o k.advd
  · rw [← h.i]; exact div_p h.a h.o k.da
  · rw [← h.j]; exact div_p h.b h.o k.db
theorem mok_iff {x y : Mg} (h : SameM x y) : MOk x ↔ MOk y := ⟨mok_p h, mok_p h.swap⟩
theorem endok_iff {x y : Mg} (h : SameM x y) : EndOk x ↔ EndOk y := by
  unfold EndOk
  rw [mok_iff h, h.i, h.j, len_p h.a, len_p h.b]
theorem workok_p {g m x : Mg} {fuel c E : Int} (h : SameM g m) (k : WorkOk g x fuel c E) : WorkOk m x fuel c E := by
  obtain ⟨n, s, e1, e2, e3, e4, e5, e6, e7⟩ := k.s
  refine ⟨k.a.trans h.a, k.b.trans h.b, k.f.trans h.f, n, s, ?_, ?_, e3, e4, e5, e6, e7⟩
  · rw [← h.i, ← h.j, ← len_p h.a, ← len_p h.b]; exact e1
  · rw [← h.i, ← h.j, ← h.f, ← h.o]; exact e2
theorem samem_refl (x : Mg) : SameM x x := ⟨rfl, rfl, rfl, rfl, rfl, rfl⟩
theorem worked_same {g m x y : Mg} {fuel c c' E E' : Int} (h : SameM g m) (hx : ¬ MOk g ∧ x = Mg.nil ∧ c = 0 ∧ E = 8 ∨ MOk g ∧ WorkOk g x fuel c E) (hy : ¬ MOk m ∧ y = Mg.nil ∧ c' = 0 ∧ E' = 8 ∨ MOk m ∧ WorkOk m y fuel c' E') : SameM x y ∧ c = c' ∧ E = E' := by
  rcases hx with ⟨a, rfl, rfl, rfl⟩ | ⟨a, hx⟩ <;> rcases hy with ⟨b, rfl, rfl, rfl⟩ | ⟨b, hy⟩
  · exact ⟨samem_refl _, rfl, rfl⟩
  · exact absurd ((mok_iff h).2 b) a
  · exact absurd ((mok_iff h).1 a) b
  · exact workok_same (workok_p h hx) hy
theorem ended_same {g m : Mg} {p q : Bt} {E E' : Int} (h : SameM g m) (hx : E = 0 ∧ EndOk g ∧ p.f = g.f ∧ p.l.map Up.p = g.o.map Up.p ∨ E = 8 ∧ ¬ EndOk g ∧ p = Bt.nil) (hy : E' = 0 ∧ EndOk m ∧ q.f = m.f ∧ q.l.map Up.p = m.o.map Up.p ∨ E' = 8 ∧ ¬ EndOk m ∧ q = Bt.nil) : (p.f = q.f ∧ p.l.map Up.p = q.l.map Up.p) ∧ E = E' := by
  rcases hx with ⟨rfl, a, a1, a2⟩ | ⟨rfl, a, rfl⟩ <;> rcases hy with ⟨rfl, b, b1, b2⟩ | ⟨rfl, b, rfl⟩
  · exact ⟨⟨a1.trans (h.f.trans b1.symm), a2.trans (h.o.trans b2.symm)⟩, rfl⟩
  · exact absurd ((endok_iff h).1 a) b
  · exact absurd ((endok_iff h).2 b) a
  · exact ⟨⟨rfl, rfl⟩, rfl⟩
theorem started_same {f : List Tm} {a b : Bt} {x y : Mg} {E E' : Int} (hx : E = 0 ∧ StartOk f a b ∧ x.a.map Up.p = a.l.map Up.p ∧ x.b.map Up.p = b.l.map Up.p ∧ x.i = 0 ∧ x.j = 0 ∧ x.f = f ∧ x.o = [] ∨ codeSt f a b E ∧ x = Mg.nil ∧ ¬ StartOk f a b) (hy : E' = 0 ∧ StartOk f a b ∧ y.a.map Up.p = a.l.map Up.p ∧ y.b.map Up.p = b.l.map Up.p ∧ y.i = 0 ∧ y.j = 0 ∧ y.f = f ∧ y.o = [] ∨ codeSt f a b E' ∧ y = Mg.nil ∧ ¬ StartOk f a b) : SameM x y ∧ E = E' := by
  rcases hx with ⟨rfl, a0, a1, a2, a3, a4, a5, a6⟩ | ⟨a0, rfl, a1⟩ <;> rcases hy with ⟨rfl, b0, b1, b2, b3, b4, b5, b6⟩ | ⟨b0, rfl, b1⟩
  · exact ⟨⟨a1.trans b1.symm, a2.trans b2.symm, a3.trans b3.symm, a4.trans b4.symm, a5.trans b5.symm, by rw [a6, b6]⟩, rfl⟩
  · exact absurd a0 b1
  · exact absurd b0 a1
  · refine ⟨samem_refl _, ?_⟩
    rcases a0 with ⟨rfl, a0⟩ | ⟨rfl, a0⟩ <;> rcases b0 with ⟨rfl, b0⟩ | ⟨rfl, b0⟩
    · rfl
    · exact absurd b0 a0
    · exact absurd a0 b0
    · rfl
/-- a merger as it lies, right in its bounds, and its box -/
structure BoxM (W : World) (P : Nat) (m : Mg) : Prop where
  in_ : MgIn W W.heap.size m
  ok : MgOk m
  own : Own W P 25 m.cells
structure BoxB (W : World) (P : Nat) (b : Bt) : Prop where
  in_ : BtIn W W.heap.size b
  ok : BtOk b
  own : Own W P 27 b.cells
theorem BoxM.past {W W' : World} {P : Nat} {m : Mg} (h : BoxM W P m) (k : Below W.heap.size W W') : BoxM W' P m := ⟨h.in_.keep k, h.ok, h.own.past k h.own.inside⟩
theorem BoxB.past {W W' : World} {P : Nat} {b : Bt} (h : BoxB W P b) (k : Below W.heap.size W W') : BoxB W' P b := ⟨h.in_.keep k, h.ok, h.own.past k h.own.inside⟩
theorem mm_box (w : World) (m : Mg) (a b : Bt) : ∃ V, V = ((w.alloc (.cells #[.slice m.aA m.a.length m.ac, .slice m.bA m.b.length m.bc, .int .i64 m.i, .int .i64 m.j, .slice m.sA m.f.length m.sc, .slice m.oA m.o.length m.oc] 25)).alloc (.cells #[.slice a.sA a.f.length a.sc, .slice a.uA a.l.length a.uc] 27)).alloc (.cells #[.slice b.sA b.f.length b.sc, .slice b.uA b.l.length b.uc] 27) ∧
    Below w.heap.size w V ∧ Own V w.heap.size 25 m.cells ∧ Own V (w.heap.size + 1) 27 a.cells ∧ Own V (w.heap.size + 2) 27 b.cells := by
  refine ⟨_, rfl, (((Below.refl _ _).alloc (Nat.le_refl _) _).alloc (by simp) _).alloc (by simp; omega) _, ((Own.made w 25 m.cells).more _).more _, ?_, ?_⟩
  · exact (own_next (w := w.alloc (.cells #[.slice m.aA m.a.length m.ac, .slice m.bA m.b.length m.bc, .int .i64 m.i, .int .i64 m.j, .slice m.sA m.f.length m.sc, .slice m.oA m.o.length m.oc] 25)) (l := a.cells) (by simp)).more _
  · exact own_next (w := (w.alloc (.cells #[.slice m.aA m.a.length m.ac, .slice m.bA m.b.length m.bc, .int .i64 m.i, .int .i64 m.j, .slice m.sA m.f.length m.sc, .slice m.oA m.o.length m.oc] 25)).alloc (.cells #[.slice a.sA a.f.length a.sc, .slice a.uA a.l.length a.uc] 27)) (l := b.cells) (by simp)
end Go.Proofs.YtllpfngmnccejaaGreat
namespace Go.Proofs.YtllpfngmnccejaaGreat
open Go Go.RowKit

def bk (n : Int) : Uk := ⟨[], [vnum n], ⟨0, 0, 0⟩⟩
theorem bfront_nil : FrontOk [] := by
  have h1 := frontTo_len (sortT []) (sortT []).length (Nat.le_refl _)
  have h2 : (sortT []).length = 0 := by simp [sortT]
  exact ⟨by rfl, List.eq_nil_of_length_eq_zero (by unfold frontL; omega)⟩
theorem bl_a (G1 G2 : Nat) : consL [advL [] [lu G1 1 1 0, lu G2 2 5 0]] = [(bk 1, (1 : Int)), (bk 2, 5)] ∧ consE [advL [] [lu G1 1 1 0, lu G2 2 5 0]] = 0 := ⟨by kernel_rfl, by kernel_rfl⟩
theorem bl_b (G : Nat) : consL [advL [] [lu G 1 (-1) 0]] = [(bk 1, (-1 : Int))] ∧ consE [advL [] [lu G 1 (-1) 0]] = 0 := ⟨by kernel_rfl, by kernel_rfl⟩
theorem up_of {u : Up} {n d : Int} (h : u.p = (bk n, d)) : ∃ (kA : Option Addr) (kc : Nat) (rA : Option Addr) (rc : Nat), u = ⟨kA, kc, [], rA, rc, [vnum n], ⟨0, 0, 0⟩, d⟩ := by
  obtain ⟨kA, kc, key, rA, rc, row, t, d'⟩ := u
  have h : ((⟨key, row, t⟩ : Uk), d') = ((⟨[], [vnum n], ⟨0, 0, 0⟩⟩ : Uk), d) := h
  simp only [Prod.mk.injEq, Uk.mk.injEq] at h
  obtain ⟨⟨rfl, rfl, rfl⟩, rfl⟩ := h
  exact ⟨kA, kc, rA, rc, rfl⟩
theorem two_of {l : List Up} (h : l.map Up.p = [(bk 1, (1 : Int)), (bk 2, 5)]) : ∃ u v, l = [u, v] ∧ u.p = (bk 1, (1 : Int)) ∧ v.p = (bk 2, 5) := by
  have hl : l.length = 2 := by have := congrArg List.length h; simpa using this
  obtain ⟨u, v, rfl⟩ : ∃ u v, l = [u, v] := by
    match l, hl with
    | [u, v], _ => exact ⟨u, v, rfl⟩
  rw [List.map_cons, List.map_cons, List.map_nil] at h
  injection h with h1 h2
  injection h2 with h2 _
  exact ⟨u, v, rfl, h1, h2⟩
theorem one_of {l : List Up} (h : l.map Up.p = [(bk 1, (-1 : Int))]) : ∃ u, l = [u] ∧ u.p = (bk 1, (-1 : Int)) := by
  have hl : l.length = 1 := by have := congrArg List.length h; simpa using this
  obtain ⟨u, rfl⟩ := List.length_eq_one_iff.1 hl
  rw [List.map_cons, List.map_nil] at h
  injection h with h1 _
  exact ⟨u, rfl, h1⟩
/-- the first step takes two, and nothing comes of it -/
theorem bl_work1 {a b : List Up} (ha : a.map Up.p = [(bk 1, (1 : Int)), (bk 2, 5)]) (hb : b.map Up.p = [(bk 1, (-1 : Int))]) (n : Nat) (hn : n = 3) :
    (workM [] 1 n (startM a 0 b 0 [])).cost = 2 ∧ (workM [] 1 n (startM a 0 b 0 [])).E = 0 ∧ (workM [] 1 n (startM a 0 b 0 [])).ta.length = 1 ∧ (workM [] 1 n (startM a 0 b 0 [])).tb.length = 1 ∧ (workM [] 1 n (startM a 0 b 0 [])).out = [] := by
  subst hn
  obtain ⟨u, v, rfl, hu, hv⟩ := two_of ha
  obtain ⟨x, rfl, hx⟩ := one_of hb
  obtain ⟨_, _, _, _, rfl⟩ := up_of hu
  obtain ⟨_, _, _, _, rfl⟩ := up_of hv
  obtain ⟨_, _, _, _, rfl⟩ := up_of hx
  exact ⟨by kernel_rfl, by kernel_rfl, by kernel_rfl, by kernel_rfl, by kernel_rfl⟩
/-- the second one, and last -/
theorem bl_work2 {a b : List Up} (ha : a.map Up.p = [(bk 1, (1 : Int)), (bk 2, 5)]) (hb : b.map Up.p = [(bk 1, (-1 : Int))]) (n : Nat) (hn : n = 1) :
    (workM [] 9 n (startM a 1 b 1 [])).cost = 1 ∧ (workM [] 9 n (startM a 1 b 1 [])).E = 0 ∧ (workM [] 9 n (startM a 1 b 1 [])).ta.length = 2 ∧ (workM [] 9 n (startM a 1 b 1 [])).tb.length = 1 ∧ (workM [] 9 n (startM a 1 b 1 [])).out = [(bk 2, 5)] := by
  subst hn
  obtain ⟨u, v, rfl, hu, hv⟩ := two_of ha
  obtain ⟨x, rfl, hx⟩ := one_of hb
  obtain ⟨_, _, _, _, rfl⟩ := up_of hu
  obtain ⟨_, _, _, _, rfl⟩ := up_of hv
  obtain ⟨_, _, _, _, rfl⟩ := up_of hx
  exact ⟨by kernel_rfl, by kernel_rfl, by kernel_rfl, by kernel_rfl, by kernel_rfl⟩
theorem bl_later : LaterF [⟨2, 0, 0⟩] [⟨1, 0, 0⟩] := .inr ⟨by simp, fun x hx => by
  obtain rfl : x = ⟨2, 0, 0⟩ := by simpa using hx
  rfl⟩
end Go.Proofs.YtllpfngmnccejaaGreat
namespace Go.Proofs.YtllpfngmnccejaaGreat
open Go Go.RowKit

set_option maxRecDepth 100000 in
set_option maxHeartbeats 1600000 in
theorem brow_any (n : Int) (w : World) : Calls Tryz.prog 43 #[.int .i64 n] w fun x w' => ∃ G, x = .returned (.slice (some ⟨G, 0, none⟩) 1 1) ∧ Vals w' w'.heap.size (some ⟨G, 0, none⟩) [vnum n] ∧ Below w.heap.size w w' := by
  have hv := Lib.hid (vals_num w n)
  go_enter Tryz.func43, Tryz.ntmps43
  go_wp2_with fail
  go_ret
  exact ⟨_, rfl, hv.out, (Below.refl _ _).alloc (Nat.le_refl _) _⟩
/-- one update in a row of its own -/
theorem box_one (w : World) (G : Nat) (n d : Int) (h : Vals w w.heap.size (some ⟨G, 0, none⟩) [vnum n]) :
    ∃ V, V = w.alloc (.cells #[.slice none 0 0, .slice (some ⟨G, 0, none⟩) 1 1, .int .u64 0, .int .u64 0, .int .u64 0, .int .i64 d] 48) ∧ Below w.heap.size w V ∧ Ups V V.heap.size (some ⟨w.heap.size, 0, none⟩) [lu G n d 0] := by
  obtain ⟨W, e1, s1, b1, o1⟩ := boxd w [.slice none 0 0, .slice (some ⟨G, 0, none⟩) 1 1, .int .u64 0, .int .u64 0, .int .u64 0, .int .i64 d] 48
  refine ⟨W, e1, b1, ups_own (t := 48) (l := [lu G n d 0]) o1 fun u hu => ?_⟩
  obtain rfl : u = lu G n d 0 := by simpa using hu
  exact lu_in (vals_keep h b1)
theorem bld_a (G1 G2 : Nat) : bldE [] [lu G1 1 1 0, lu G2 2 5 0] = 0 := (if_pos bfront_nil).trans (bl_a G1 G2).2
theorem bld_b (G : Nat) : bldE [] [lu G 1 (-1) 0] = 0 := (if_pos bfront_nil).trans (bl_b G).2
theorem lu_ok' {G : Nat} {n d : Int} (hn : n = 1 ∨ n = 2) (hd : d = 1 ∨ d = 5 ∨ d = -1) : UOk (lu G n d 0) := lu_ok (by omega) (by omega)
/-- Build at the first two lists -/
theorem build_a (A A1 A2 : Option Addr) (G1 G2 : Nat) (w : World) (h : ULs w w.heap.size A [⟨A1, 1, [lu G1 1 1 0]⟩, ⟨A2, 1, [lu G2 2 5 0]⟩]) :
    Calls Tryz.prog 20 #[.slice none 0 0, .slice A 2 2] w fun x w' => ∃ b : Bt, x = .returned (.tuple #[b.val, .int .i64 0]) ∧ b.f = [] ∧ b.l.map Up.p = [(bk 1, (1 : Int)), (bk 2, 5)] ∧ BatchOk b.f b.l ∧ BtIn w' w'.heap.size b ∧ BtOk b ∧ Below w.heap.size w w' := by
  have := build_any none 0 [] A 2 [⟨A1, 1, [lu G1 1 1 0]⟩, ⟨A2, 1, [lu G2 2 5 0]⟩] w Times.nil_ ts_nil h (fun s hs u hu => by
    rcases List.mem_cons.1 hs with rfl | hs
    · obtain rfl : u = lu G1 1 1 0 := by simpa using hu
      exact lu_ok' (.inl rfl) (.inl rfl)
    · obtain rfl : s = ⟨A2, 1, [lu G2 2 5 0]⟩ := by simpa using hs
      obtain rfl : u = lu G2 2 5 0 := by simpa using hu
      exact lu_ok' (.inr rfl) (.inr (.inl rfl))) (by simp [flatR]) (by simp)
  refine this.mono fun x w' ⟨b, h1, h2, h3, h4, h5, h6, h7⟩ => ?_
  have hE : bldE [] (flatR [⟨A1, 1, [lu G1 1 1 0]⟩, ⟨A2, 1, [lu G2 2 5 0]⟩]) = 0 := bld_a G1 G2
  rw [hE] at h1
  obtain ⟨k1, k2, k3⟩ := h2 hE
  have k3 : b.l.map Up.p = consL [advL [] [lu G1 1 1 0, lu G2 2 5 0]] := k3
  refine ⟨b, h1, k2, k3.trans (bl_a G1 G2).1, ?_, h4, h5, h7⟩
  rw [k2]
  exact batch_ok bfront_nil (bl_a G1 G2).2 k3
theorem build_b (A A1 : Option Addr) (G : Nat) (w : World) (h : ULs w w.heap.size A [⟨A1, 1, [lu G 1 (-1) 0]⟩]) :
    Calls Tryz.prog 20 #[.slice none 0 0, .slice A 1 1] w fun x w' => ∃ b : Bt, x = .returned (.tuple #[b.val, .int .i64 0]) ∧ b.f = [] ∧ b.l.map Up.p = [(bk 1, (-1 : Int))] ∧ BatchOk b.f b.l ∧ BtIn w' w'.heap.size b ∧ BtOk b ∧ Below w.heap.size w w' := by
  have := build_any none 0 [] A 1 [⟨A1, 1, [lu G 1 (-1) 0]⟩] w Times.nil_ ts_nil h (fun s hs u hu => by
    obtain rfl : s = ⟨A1, 1, [lu G 1 (-1) 0]⟩ := by simpa using hs
    obtain rfl : u = lu G 1 (-1) 0 := by simpa using hu
    exact lu_ok' (.inl rfl) (.inr (.inr rfl))) (by simp [flatR]) (by simp)
  refine this.mono fun x w' ⟨b, h1, h2, h3, h4, h5, h6, h7⟩ => ?_
  have hE : bldE [] (flatR [⟨A1, 1, [lu G 1 (-1) 0]⟩]) = 0 := bld_b G
  rw [hE] at h1
  obtain ⟨k1, k2, k3⟩ := h2 hE
  have k3 : b.l.map Up.p = consL [advL [] [lu G 1 (-1) 0]] := k3
  refine ⟨b, h1, k2, k3.trans (bl_b G).1, ?_, h4, h5, h7⟩
  rw [k2]
  exact batch_ok bfront_nil (bl_b G).2 k3
theorem mg_other {w X : World} {P : Nat} {m : Mg} (h : MgIn w w.heap.size m) (hlo : MgLo (P + 1) m) (hs : X.heap.size = w.heap.size) (hX : ∀ b, b ≠ P → X.heap[b]? = w.heap[b]?) : MgIn X X.heap.size m := ⟨ups_other h.a hlo.a hs hX, ups_other h.b hlo.b hs hX, times_other h.f hlo.f hs hX, ups_other h.o hlo.o hs hX⟩
/-- what a merger is at each of its three states there -/
structure Lm (m : Mg) (i j : Nat) (o : List (Uk × Int)) : Prop where
  way : OnWay m i j
  f : m.f = []
  a : m.a.map Up.p = [(bk 1, (1 : Int)), (bk 2, 5)]
  b : m.b.map Up.p = [(bk 1, (-1 : Int))]
  o_ : m.o.map Up.p = o
theorem lm_len {m : Mg} {i j : Nat} {o : List (Uk × Int)} (h : Lm m i j o) (ho : o.length ≤ 1) : m.a.length = 2 ∧ m.b.length = 1 ∧ m.o.length ≤ 274877906944 := by
  have h1 := congrArg List.length h.a
  have h2 := congrArg List.length h.b
  have h3 := congrArg List.length h.o_
  simp at h1 h2 h3
  exact ⟨h1, h2, by omega⟩
theorem start_l (a b : Bt) (w : World) (ha : BtIn w w.heap.size a) (oa : BtOk a) (hb : BtIn w w.heap.size b) (ob : BtOk b) (fa : a.f = []) (fb : b.f = []) (pa : a.l.map Up.p = [(bk 1, (1 : Int)), (bk 2, 5)]) (pb : b.l.map Up.p = [(bk 1, (-1 : Int))]) (ka : BatchOk a.f a.l) (kb : BatchOk b.f b.l) :
    Calls Tryz.prog 12 #[.slice none 0 0, a.val, b.val] w fun x w' => ∃ m : Mg, x = .returned (.tuple #[m.val, .int .i64 0]) ∧ Lm m 0 0 [] ∧ MgIn w' w'.heap.size m ∧ MgOk m ∧ Below w.heap.size w w' := by
  have la : a.l.length = 2 := by have := congrArg List.length pa; simpa using this
  have lb : b.l.length = 1 := by have := congrArg List.length pb; simpa using this
  refine (start_any none 0 [] a b w Times.nil_ ts_nil ha oa (by omega) hb ob (by omega)).mono fun x w' ⟨m, E, h1, h2, h3, h4, h5, h6⟩ => ?_
  rcases h2 with ⟨rfl, hs, k1, k2, k3, k4, k5, k6⟩ | ⟨_, _, hn⟩
  · exact ⟨m, h1, ⟨start_way (by rw [k5]; exact bfront_nil) (even_p k1.symm ka.2.1) (even_p k2.symm kb.2.1) k3 k4 k6, k5, k1.trans pa, k2.trans pb, by rw [k6]; rfl⟩, h3, h4, h6⟩
  · exact absurd ⟨ka, kb, bfront_nil, .inl fa, .inl fb⟩ hn
theorem work_l1 (m : Mg) (w : World) (h : Lm m 0 0 []) (hm : MgIn w w.heap.size m) (ok : MgOk m) :
    Calls Tryz.prog 8 #[m.val, .int .i64 1] w fun x w' => ∃ m' : Mg, x = .returned (.tuple #[m'.val, .int .i64 2, .int .i64 0]) ∧ Lm m' 1 1 [] ∧ MgIn w' w'.heap.size m' ∧ MgOk m' ∧ MgLo w.heap.size m' ∧ Below w.heap.size w w' := by
  obtain ⟨la, lb, lo⟩ := lm_len h (by simp)
  refine (work_any m 1 w hm ok (by omega) (by omega) lo).mono fun x w' ⟨m', c, E, h1, h2, h3, h4, h5, h6⟩ => ?_
  rcases h2 with ⟨hn, _⟩ | ⟨_, hw⟩
  · exact absurd h.way.ok hn
  · obtain ⟨n, s, hn, hs, hc, hE, hi, hj, ho⟩ := hw.s
    have e1 : m.i.toNat = 0 := by rw [h.way.i_]; rfl
    have e2 : m.j.toNat = 0 := by rw [h.way.j_]; rfl
    rw [e1, e2, la, lb] at hn
    rw [e1, e2, h.o_, h.f] at hs
    obtain ⟨b1, b2, b3, b4, b5⟩ := bl_work1 (hw.a.trans h.a) (hw.b.trans h.b) n hn.symm
    rw [← hs] at b1 b2 b3 b4 b5
    obtain ⟨i', j', k, _, q2, _, _, _⟩ := workok_fine hw h.way
    have hi2 : m'.i = 1 := by rw [hi, b3]; rfl
    have hj2 : m'.j = 1 := by rw [hj, b4]; rfl
    have e3 : i' = 1 := by have := q2.i_; omega
    have e4 : j' = 1 := by have := q2.j_; omega
    subst e3; subst e4
    refine ⟨m', by rw [h1, hc, hE, b1, b2]; rfl, ⟨q2, hw.f.trans h.f, hw.a.trans h.a, hw.b.trans h.b, ho.trans b5⟩, h3, h4, h5, h6⟩
theorem work_l2 (m : Mg) (w : World) (h : Lm m 1 1 []) (hm : MgIn w w.heap.size m) (ok : MgOk m) :
    Calls Tryz.prog 8 #[m.val, .int .i64 9] w fun x w' => ∃ m' : Mg, x = .returned (.tuple #[m'.val, .int .i64 1, .int .i64 0]) ∧ Lm m' 2 1 [(bk 2, 5)] ∧ MgIn w' w'.heap.size m' ∧ MgOk m' ∧ MgLo w.heap.size m' ∧ Below w.heap.size w w' := by
  obtain ⟨la, lb, lo⟩ := lm_len h (by simp)
  refine (work_any m 9 w hm ok (by omega) (by omega) lo).mono fun x w' ⟨m', c, E, h1, h2, h3, h4, h5, h6⟩ => ?_
  rcases h2 with ⟨hn, _⟩ | ⟨_, hw⟩
  · exact absurd h.way.ok hn
  · obtain ⟨n, s, hn, hs, hc, hE, hi, hj, ho⟩ := hw.s
    have e1 : m.i.toNat = 1 := by rw [h.way.i_]; rfl
    have e2 : m.j.toNat = 1 := by rw [h.way.j_]; rfl
    rw [e1, e2, la, lb] at hn
    rw [e1, e2, h.o_, h.f] at hs
    obtain ⟨b1, b2, b3, b4, b5⟩ := bl_work2 (hw.a.trans h.a) (hw.b.trans h.b) n hn.symm
    rw [← hs] at b1 b2 b3 b4 b5
    obtain ⟨i', j', k, _, q2, _, _, _⟩ := workok_fine hw h.way
    have hi2 : m'.i = 2 := by rw [hi, b3]; rfl
    have hj2 : m'.j = 1 := by rw [hj, b4]; rfl
    have e3 : i' = 2 := by have := q2.i_; omega
    have e4 : j' = 1 := by have := q2.j_; omega
    subst e3; subst e4
    refine ⟨m', by rw [h1, hc, hE, b1, b2]; rfl, ⟨q2, hw.f.trans h.f, hw.a.trans h.a, hw.b.trans h.b, ho.trans b5⟩, h3, h4, h5, h6⟩
theorem end_l1 (m : Mg) (w : World) (h : Lm m 1 1 []) (hm : MgIn w w.heap.size m) (ok : MgOk m) :
    Calls Tryz.prog 10 #[m.val] w fun x w' => ∃ b : Bt, x = .returned (.tuple #[b.val, .int .i64 8]) ∧ Below w.heap.size w w' := by
  obtain ⟨la, lb, lo⟩ := lm_len h (by simp)
  refine (end_any m w hm ok lo).mono fun x w' ⟨b, E, h1, h2, _, _, _, h6⟩ => ?_
  rcases h2 with ⟨_, he, _⟩ | ⟨rfl, _, _⟩
  · have := he.2.1
    rw [h.way.i_, la] at this
    omega
  · exact ⟨b, h1, h6⟩
theorem end_l2 (m : Mg) (w : World) (h : Lm m 2 1 [(bk 2, 5)]) (hm : MgIn w w.heap.size m) (ok : MgOk m) :
    Calls Tryz.prog 10 #[m.val] w fun x w' => ∃ b : Bt, x = .returned (.tuple #[b.val, .int .i64 0]) ∧ b.l.map Up.p = [(bk 2, 5)] ∧ BtIn w' w'.heap.size b ∧ Below w.heap.size w w' := by
  obtain ⟨la, lb, lo⟩ := lm_len h (by simp)
  refine (end_any m w hm ok lo).mono fun x w' ⟨b, E, h1, h2, h3, _, _, h6⟩ => ?_
  rcases h2 with ⟨rfl, _, _, hb⟩ | ⟨_, hn, _⟩
  · exact ⟨b, h1, hb.trans h.o_, h3, h6⟩
  · exact absurd ⟨h.way.ok, by rw [h.way.i_, la], by rw [h.way.j_, lb]⟩ hn
end Go.Proofs.YtllpfngmnccejaaGreat
namespace Go.Proofs.YtllpfngmnccejaaGreat
open Go Go.RowKit

theorem later_l (w : World) : Calls Tryz.prog 37 #[.slice (some ⟨w.heap.size, 0, none⟩) 1 1, .slice (some ⟨w.heap.size + 1, 0, none⟩) 1 1] ((w.alloc (.cells #[.int .u64 2, .int .u64 0, .int .u64 0] 46)).alloc (.cells #[.int .u64 1, .int .u64 0, .int .u64 0] 46)) fun x w' => x = .returned (.bool true) ∧ Below w.heap.size w w' := by
  have h1 := times_made w ⟨2, 0, 0⟩
  have hb1 : Below w.heap.size w (w.alloc (.cells #[.int .u64 2, .int .u64 0, .int .u64 0] 46)) := (Below.refl _ _).alloc (Nat.le_refl _) _
  have hb2 : Below (w.heap.size + 1) (w.alloc (.cells #[.int .u64 2, .int .u64 0, .int .u64 0] 46)) ((w.alloc (.cells #[.int .u64 2, .int .u64 0, .int .u64 0] 46)).alloc (.cells #[.int .u64 1, .int .u64 0, .int .u64 0] 46)) := (Below.refl _ _).alloc (by simp) _
  have h1' : Times (w.alloc (.cells #[.int .u64 2, .int .u64 0, .int .u64 0] 46)) (w.heap.size + 1) (some ⟨w.heap.size, 0, none⟩) [⟨2, 0, 0⟩] := by simpa using h1
  have h2 := times_made (w.alloc (.cells #[.int .u64 2, .int .u64 0, .int .u64 0] 46)) ⟨1, 0, 0⟩
  have h2' : Times ((w.alloc (.cells #[.int .u64 2, .int .u64 0, .int .u64 0] 46)).alloc (.cells #[.int .u64 1, .int .u64 0, .int .u64 0] 46)) ((w.alloc (.cells #[.int .u64 2, .int .u64 0, .int .u64 0] 46)).alloc (.cells #[.int .u64 1, .int .u64 0, .int .u64 0] 46)).heap.size (some ⟨w.heap.size + 1, 0, none⟩) [⟨1, 0, 0⟩] := by simpa using h2
  refine (later_any (some ⟨w.heap.size, 0, none⟩) 1 [⟨2, 0, 0⟩] (some ⟨w.heap.size + 1, 0, none⟩) 1 [⟨1, 0, 0⟩] _ ((h1'.past hb2 (Nat.le_refl _)).wide (by simp)) (by unfold maxLen; simp) h2' (by unfold maxLen; simp)).mono fun x w' ⟨b, k1, k2, k3⟩ => ?_
  refine ⟨by rw [k1, k2.2 bl_later], ?_⟩
  have hz : w.heap.size ≤ (w.alloc (.cells #[.int .u64 2, .int .u64 0, .int .u64 0] 46)).heap.size := hb1.size
  exact (hb1.trans (hb2.mono (Nat.le_succ _))).trans (k3.mono (by simp; omega))
set_option maxRecDepth 100000 in
set_option maxHeartbeats 12800000 in
theorem blives_true (w : World) : Calls Tryz.prog 14 #[] w fun e w' => e = .returned (.bool true) ∧ Below w.heap.size w w' := by
  have y1 := fun W => Lib.hid (brow_any 1 W)
  have y2 := fun W => Lib.hid (brow_any 2 W)
  go_enter Tryz.func14, Tryz.ntmps14
  go_wp2_with fail
  refine (y1 _).out.mono ?_
  rintro _ w1 ⟨G1, rfl, v1, b1⟩
  obtain ⟨V1, hV1, hb1, hu1⟩ := box_one w1 G1 1 1 v1
  have H1 := Lib.hid (And.intro (belows b1 hb1) hu1)
  clear b1 v1 hb1 hu1
  go_wp2_with fail
  rw [← hV1]
  clear hV1
  refine (y2 _).out.mono ?_
  rintro _ w2 ⟨G2, rfl, v2, b2⟩
  obtain ⟨V2, hV2, hb2, hu2⟩ := box_one w2 G2 2 5 v2
  obtain ⟨V3, hV3, hb3, hul⟩ := two_lists V2 (some ⟨w1.heap.size, 0, none⟩) (some ⟨w2.heap.size, 0, none⟩) 1 1 [lu G1 1 1 0] [lu G2 2 5 0] ((H1.out.2.keep b2).keep hb2) hu2
  have z1 := Lib.hid (build_a (some ⟨V2.heap.size, 0, none⟩) (some ⟨w1.heap.size, 0, none⟩) (some ⟨w2.heap.size, 0, none⟩) G1 G2 V3 hul)
  have H3 := Lib.hid (belows H1.out.1 (belows b2 (belows hb2 hb3)))
  rw [hV2] at hV3 z1
  simp only [List.length_cons, List.length_nil, Nat.zero_add, World.size_alloc] at hV3 z1
  clear b2 v2 hb2 hb3 hu2 hul hV2
  go_wp2_with fail
  rw [← hV3]
  clear hV3
  refine z1.out.mono ?_
  rintro _ w3 ⟨a, rfl, fa, pa, ka, ia, oa, b3⟩
  obtain ⟨V4, hV4, hb4, hs4, ho4⟩ := btbox w3 a
  have HA := Lib.hid (And.intro (belows H3.out (belows b3 hb4)) (And.intro ho4 (And.intro (ia.keep hb4) (And.intro oa (And.intro fa (And.intro pa ka))))))
  unfold Bt.val
  clear fa pa ka ia oa b3 hb4 ho4 z1
  go_wp2_with fail
  rw [← hV4]
  clear hV4
  refine (y1 _).out.mono ?_
  rintro _ w5 ⟨G5, rfl, v5, b5⟩
  obtain ⟨V5, hV5, hb5, hu5⟩ := box_one w5 G5 1 (-1) v5
  obtain ⟨V6, hV6, hb6, hul⟩ := one_list V5 (some ⟨w5.heap.size, 0, none⟩) 1 [lu G5 1 (-1) 0] hu5
  have z2 := Lib.hid (build_b (some ⟨V5.heap.size, 0, none⟩) (some ⟨w5.heap.size, 0, none⟩) G5 V6 hul)
  have hb56 : Below V4.heap.size V4 V6 := belows b5 (belows hb5 hb6)
  have H6 := Lib.hid (And.intro (belows HA.out.1 hb56) (And.intro (HA.out.2.1.past hb56 (by omega)) (HA.out.2.2.1.keep hb56)))
  rw [hV5] at hV6 z2
  simp only [List.length_cons, List.length_nil, Nat.zero_add, World.size_alloc] at hV6 z2
  clear b5 v5 hb5 hb6 hu5 hul hV5 hb56
  go_wp2_with fail
  rw [← hV6]
  clear hV6
  refine z2.out.mono ?_
  rintro _ w6 ⟨b, rfl, fb, pb, kb, ib, ob, b6⟩
  obtain ⟨V7, hV7, hb7, hs7, ho7⟩ := btbox w6 b
  have hb67 : Below V6.heap.size V6 V7 := belows b6 hb7
  have h3in : w3.heap.size < V6.heap.size := H6.out.2.1.inside
  have HB := Lib.hid (And.intro (belows H6.out.1 hb67) (And.intro (H6.out.2.1.past hb67 h3in) (And.intro ho7 (And.intro (H6.out.2.2.keep hb67) (And.intro (ib.keep hb7) (And.intro ob (And.intro fb (And.intro pb kb))))))))
  have z3 := Lib.hid (start_l a b V7 HB.out.2.2.2.1 HA.out.2.2.2.1 HB.out.2.2.2.2.1 HB.out.2.2.2.2.2.1 HA.out.2.2.2.2.1 HB.out.2.2.2.2.2.2.1 HA.out.2.2.2.2.2.1 HB.out.2.2.2.2.2.2.2.1 HA.out.2.2.2.2.2.2 HB.out.2.2.2.2.2.2.2.2)
  obtain ⟨d0, d1⟩ := own2 HB.out.2.1
  obtain ⟨e0, e1⟩ := own2 HB.out.2.2.1
  unfold Bt.val at z3 ⊢
  clear fb pb kb ib ob b6 hb7 ho7 z2 hb67 h3in
  go_upto_region 3 with fail
  rw [← hV7]
  clear hV7
  go_wp2_with fail
  refine z3.out.mono ?_
  rintro _ w8 ⟨m0, rfl, hm0, im0, om0, b8⟩
  clear d0 d1 e0 e1 z3
  obtain ⟨V8, hV8, hb8, hs8, ho8⟩ := mgbox w8 m0
  have z4 := Lib.hid (work_l1 m0 V8 hm0 (im0.keep hb8) om0)
  have H8 := Lib.hid (And.intro (belows HB.out.1 (belows b8 hb8)) ho8)
  have b8' := Lib.hid b8.size
  obtain ⟨c0, c1, c2, c3, c4, c5⟩ := own6 ho8
  unfold Mg.val at z4 ⊢
  clear hm0 im0 om0 b8 hb8 ho8
  go_upto_region 4 with fail
  rw [← hV8]
  clear hV8
  go_wp2_with fail
  refine z4.out.mono ?_
  rintro _ w9 ⟨m1, rfl, hm1, im1, om1, lm1, b9⟩
  clear c0 c1 c2 c3 c4 c5 z4
  have ho9 := H8.out.2.past b9 H8.out.2.inside
  obtain ⟨f0, f1, f2, f3, f4, f5⟩ := own_frozen6 ho9
  obtain ⟨c0, c1, c2, c3, c4, c5⟩ := own6 ho9
  obtain ⟨X, hX', hXo, hXb, hXs, hXh⟩ := own_six ho9 (.slice m1.aA m1.a.length m1.ac) (.slice m1.bA m1.b.length m1.bc) (.int .i64 m1.i) (.int .i64 m1.j) (.slice m1.sA m1.f.length m1.sc) (.slice m1.oA m1.o.length m1.oc)
  have hin8 := H8.out.2.inside
  have hmX : MgIn X X.heap.size m1 := mg_other im1 (lm1.mono hin8) hXs hXh
  have hbX : Below w.heap.size w X := hXb w.heap.size w (H8.out.1.trans (b9.mono H8.out.1.size)) (by have h1 := HB.out.1.size; have h2 := b8'.out; omega)
  have z5 := Lib.hid (end_l1 m1 X hm1 hmX om1)
  have HX := Lib.hid (And.intro hbX (And.intro hXo (And.intro hmX (And.intro hm1 om1))))
  have HR := Lib.hid hX'
  unfold Mg.val at z5
  clear hX' hXo hXb hXs hXh hin8 hmX hbX hm1 im1 om1 lm1 b9 ho9
  go_upto_region 5 with fail
  rw [← HR.out]
  clear c0 c1 c2 c3 c4 c5 f0 f1 f2 f3 f4 f5 HR
  obtain ⟨c0, c1, c2, c3, c4, c5⟩ := own6 HX.out.2.1
  go_wp2_with fail
  refine z5.out.mono ?_
  rintro _ w10 ⟨b0, rfl, b10⟩
  obtain ⟨V10, hV10, hb10, hs10, ho10⟩ := btbox w10 b0
  have hb1 : Below X.heap.size X V10 := belows b10 hb10
  have z6 := Lib.hid (work_l2 m1 V10 HX.out.2.2.2.1 (HX.out.2.2.1.keep hb1) HX.out.2.2.2.2)
  have H10 := Lib.hid (And.intro (belows HX.out.1 hb1) (HX.out.2.1.past hb1 HX.out.2.1.inside))
  unfold Mg.val at z6
  unfold Bt.val
  clear c0 c1 c2 c3 c4 c5 z5 b10 hb10 ho10 hb1
  go_upto_region 6 with fail
  rw [← hV10]
  clear hV10
  obtain ⟨c0, c1, c2, c3, c4, c5⟩ := own6 H10.out.2
  go_wp2_with fail
  refine z6.out.mono ?_
  rintro _ w11 ⟨m2, rfl, hm2, im2, om2, lm2, b11⟩
  clear c0 c1 c2 c3 c4 c5 z6
  have ho11 := H10.out.2.past b11 H10.out.2.inside
  obtain ⟨f0, f1, f2, f3, f4, f5⟩ := own_frozen6 ho11
  obtain ⟨c0, c1, c2, c3, c4, c5⟩ := own6 ho11
  obtain ⟨Y, hY', hYo, hYb, hYs, hYh⟩ := own_six ho11 (.slice m2.aA m2.a.length m2.ac) (.slice m2.bA m2.b.length m2.bc) (.int .i64 m2.i) (.int .i64 m2.j) (.slice m2.sA m2.f.length m2.sc) (.slice m2.oA m2.o.length m2.oc)
  have hin10 := H10.out.2.inside
  have hmY : MgIn Y Y.heap.size m2 := mg_other im2 (lm2.mono hin10) hYs hYh
  have hbY : Below w.heap.size w Y := hYb w.heap.size w (H10.out.1.trans (b11.mono H10.out.1.size)) (by have h1 := HB.out.1.size; have h2 := b8'.out; omega)
  have z7 := Lib.hid (end_l2 m2 Y hm2 hmY om2)
  have HY := Lib.hid (And.intro hbY hYo)
  have HR := Lib.hid hY'
  unfold Mg.val at z7
  clear hY' hYo hYb hYs hYh hin10 hmY hbY hm2 im2 om2 lm2 b11 ho11
  go_upto_region 7 with fail
  rw [← HR.out]
  clear c0 c1 c2 c3 c4 c5 f0 f1 f2 f3 f4 f5 HR
  obtain ⟨c0, c1, c2, c3, c4, c5⟩ := own6 HY.out.2
  go_wp2_with fail
  refine z7.out.mono ?_
  rintro _ w12 ⟨e, rfl, pe, ie, b12⟩
  have le : e.l.length = 1 := by have := congrArg List.length pe; simpa using this
  obtain ⟨u, hu⟩ := List.length_eq_one_iff.1 le
  have hud : u.d = 5 := by
    rw [hu] at pe
    have : u.p = (bk 2, (5 : Int)) := by simpa using pe
    exact congrArg Prod.snd this
  obtain ⟨V12, hV12, hb12, hs12, ho12⟩ := btbox w12 e
  have heV := (ie.keep hb12).ups
  rw [hu] at heV
  obtain ⟨b, o, hA, hBb, hxs⟩ := lies_up heV.head (by simp)
  have e5 := (hxs 0 u rfl).six.2.2.2.2.2
  rw [hud, Nat.zero_mul, Nat.add_zero] at e5
  obtain ⟨d0, d1⟩ := own2 ho12
  rw [le, hA] at d1
  have H12 := Lib.hid (belows HY.out.1 (belows b12 hb12))
  unfold Bt.val
  rw [le, hA]
  rw [le, hA] at hV12
  have zl := Lib.hid (later_l V12)
  clear c0 c1 c2 c3 c4 c5 z7 pe ie b12 le hu hud hb12 hs12 ho12 heV hA hxs
  go_upto_region 8 with fail
  rw [← hV12]
  clear hV12
  go_wp2_with fail
  refine zl.out.mono ?_
  rintro _ w13 ⟨rfl, b13⟩
  have H13 := Lib.hid (H12.out.trans (b13.mono H12.out.size))
  clear b13 d0 d1 e5
  go_wp2_with fail
  go_ret
  exact ⟨rfl, H13.out⟩
end Go.Proofs.YtllpfngmnccejaaGreat
namespace Go.Proofs.YtllpfngmnccejaaGreat
open Go Go.RowKit

theorem tellsB {p : Prop} {B : Bool} {w : World} {x : Ending} {w' : World} (hB : B = true ↔ p) (h : Tells p w x w') : x = .returned (.bool B) ∧ Below w.heap.size w w' := by
  obtain ⟨b, h1, h2, h3⟩ := h
  have : b = B := by cases b <;> cases B <;> simp_all
  exact ⟨by rw [h1, this], h3⟩
theorem boolB (p : Prop) : ∃ B : Bool, B = true ↔ p := by
  by_cases h : p
  · exact ⟨true, by simpa using h⟩
  · exact ⟨false, by simpa using h⟩
theorem codeB (p : Prop) (k : Int) : ∃ K : Int, p ∧ K = 0 ∨ ¬ p ∧ K = k := by
  by_cases h : p
  · exact ⟨0, .inl ⟨h, rfl⟩⟩
  · exact ⟨k, .inr ⟨h, rfl⟩⟩
end Go.Proofs.YtllpfngmnccejaaGreat
namespace Go.Proofs.YtllpfngmnccejaaGreat
open Go Go.RowKit

set_option maxRecDepth 100000 in
set_option maxHeartbeats 25600000 in
theorem bmerges_walk (m : Mg) (fuel : Int) (A : Option Addr) (c : Nat) (f : List Tm) (a b : Bt) (w : World) (hm : MgIn w w.heap.size m) (om : MgOk m) (h8 : ∀ u, u ∈ m.a ∨ u ∈ m.b ∨ u ∈ m.o → u.key.length ≤ 1099511627776 ∧ u.row.length ≤ 1099511627776) (hnn : m.a.length + m.b.length + m.o.length ≤ 1048576) (hf : Times w w.heap.size A f) (hfo : TsOk f c) (ha : BtIn w w.heap.size a) (oa : BtOk a) (hb : BtIn w w.heap.size b) (ob : BtOk b)
    (na : a.l.length ≤ 1048576) (nb : b.l.length ≤ 1048576) (ka : ∀ u ∈ a.l, u.key.length ≤ 1099511627776 ∧ u.row.length ≤ 1099511627776) (kb : ∀ u ∈ b.l, u.key.length ≤ 1099511627776 ∧ u.row.length ≤ 1099511627776) :
    Calls Tryz.prog 3 #[m.val, .int .i64 fuel, .slice A f.length c, a.val, b.val] w fun e w' => e = .returned (.bool true) ∧ Below w.heap.size w w' := by
  obtain ⟨V, hV, hvb, hvm, hva, hvc⟩ := mm_box w m a b
  have HW := Lib.hid hvb
  have HT := Lib.hid ((hf.past hvb (Nat.le_refl _)).wide hvb.size)
  have HBm := Lib.hid (BoxM.mk (hm.keep hvb) om hvm)
  have HBa := Lib.hid (BoxB.mk (ha.keep hvb) oa hva)
  have HBb := Lib.hid (BoxB.mk (hb.keep hvb) ob hvc)
  have HN := Lib.hid (And.intro h8 (And.intro hnn (And.intro hfo (And.intro na (And.intro nb (And.intro ka kb))))))
  have hA : m.val = .agg #[.slice m.aA m.a.length m.ac, .slice m.bA m.b.length m.bc, .int .i64 m.i, .int .i64 m.j, .slice m.sA m.f.length m.sc, .slice m.oA m.o.length m.oc] := rfl
  have hB : a.val = .agg #[.slice a.sA a.f.length a.sc, .slice a.uA a.l.length a.uc] := rfl
  have hC : b.val = .agg #[.slice b.sA b.f.length b.sc, .slice b.uA b.l.length b.uc] := rfl
  rw [hA, hB, hC]
  clear hm om h8 hnn hf hfo ha oa hb ob na nb ka kb hvb hvm hva hvc hA hB hC
  go_enter Tryz.func3, Tryz.ntmps3
  go_upto_region 1 with fail
  rw [← hV]
  clear hV
  obtain ⟨c00, c01, c02, c03, c04, c05⟩ := own6 HBm.out.own
  go_wp2_with fail
  refine (rcopyM_any m V HBm.out.in_ HBm.out.ok HN.out.1).mono ?_
  rintro _ w1 ⟨g, rfl, hsg, ig, og, _, b1, _⟩
  clear c00 c01 c02 c03 c04 c05
  obtain ⟨V1, hV1, hvb, hvs, hvo⟩ := mgbox w1 g
  have hst : Below V.heap.size V V1 := b1.trans (hvb.mono b1.size)
  have HSg := Lib.hid hsg
  replace HBm := Lib.hid (HBm.out.past hst)
  replace HBa := Lib.hid (HBa.out.past hst)
  replace HBb := Lib.hid (HBb.out.past hst)
  have HBg := Lib.hid (BoxM.mk (ig.keep hvb) og hvo)
  replace HT := Lib.hid ((HT.out.past hst (Nat.le_refl _)).wide hst.size)
  replace HW := Lib.hid (belows HW.out hst)
  clear b1 hvb hvs hvo hst ig og hsg
  rw [show g.val = .agg #[.slice g.aA g.a.length g.ac, .slice g.bA g.b.length g.bc, .int .i64 g.i, .int .i64 g.j, .slice g.sA g.f.length g.sc, .slice g.oA g.o.length g.oc] from rfl]
  go_upto_region 2 with fail
  rw [← hV1]
  clear hV1
  obtain ⟨c00, c01, c02, c03, c04, c05⟩ := own6 HBg.out.own
  go_wp2_with fail
  refine (work_any g fuel V1 HBg.out.in_ HBg.out.ok (by have h1 := len_p HSg.out.a; have h2 := HN.out.2.1; omega) (by have h1 := len_p HSg.out.b; have h2 := HN.out.2.1; omega) (by have h1 := len_p HSg.out.o; have h2 := HN.out.2.1; omega)).mono ?_
  rintro _ w2 ⟨x, C1, E1, rfl, hsx, ix, ox, _, b2⟩
  clear c00 c01 c02 c03 c04 c05
  obtain ⟨V2, hV2, hvb, hvs, hvo⟩ := mgbox w2 x
  have hst : Below V1.heap.size V1 V2 := b2.trans (hvb.mono b2.size)
  have HSx := Lib.hid hsx
  replace HBm := Lib.hid (HBm.out.past hst)
  replace HBa := Lib.hid (HBa.out.past hst)
  replace HBb := Lib.hid (HBb.out.past hst)
  replace HBg := Lib.hid (HBg.out.past hst)
  have HBx := Lib.hid (BoxM.mk (ix.keep hvb) ox hvo)
  replace HT := Lib.hid ((HT.out.past hst (Nat.le_refl _)).wide hst.size)
  replace HW := Lib.hid (belows HW.out hst)
  clear b2 hvb hvs hvo hst ix ox hsx
  rw [show x.val = .agg #[.slice x.aA x.a.length x.ac, .slice x.bA x.b.length x.bc, .int .i64 x.i, .int .i64 x.j, .slice x.sA x.f.length x.sc, .slice x.oA x.o.length x.oc] from rfl]
  go_upto_region 3 with fail
  rw [← hV2]
  clear hV2
  obtain ⟨c00, c01, c02, c03, c04, c05⟩ := own6 HBm.out.own
  go_wp2_with fail
  refine (rwork_any m fuel V2 HBm.out.in_ HBm.out.ok HN.out.1 HN.out.2.1).mono ?_
  rintro _ w3 ⟨y, C2, E2, rfl, hsy, iy, oy, _, b3⟩
  clear c00 c01 c02 c03 c04 c05
  obtain ⟨V3, hV3, hvb, hvs, hvo⟩ := mgbox w3 y
  have hst : Below V2.heap.size V2 V3 := b3.trans (hvb.mono b3.size)
  have hsq := worked_same HSg.out HSx.out hsy; obtain ⟨hsq, rfl, rfl⟩ := hsq; have HSy := Lib.hid hsq
  replace HBm := Lib.hid (HBm.out.past hst)
  replace HBa := Lib.hid (HBa.out.past hst)
  replace HBb := Lib.hid (HBb.out.past hst)
  replace HBg := Lib.hid (HBg.out.past hst)
  replace HBx := Lib.hid (HBx.out.past hst)
  have HBy := Lib.hid (BoxM.mk (iy.keep hvb) oy hvo)
  replace HT := Lib.hid ((HT.out.past hst (Nat.le_refl _)).wide hst.size)
  replace HW := Lib.hid (belows HW.out hst)
  clear b3 hvb hvs hvo hst iy oy hsy hsq HSx
  rw [show y.val = .agg #[.slice y.aA y.a.length y.ac, .slice y.bA y.b.length y.bc, .int .i64 y.i, .int .i64 y.j, .slice y.sA y.f.length y.sc, .slice y.oA y.o.length y.oc] from rfl]
  go_upto_region 4 with fail
  rw [← hV3]
  clear hV3
  obtain ⟨c00, c01, c02, c03, c04, c05⟩ := own6 HBg.out.own
  go_wp2_with fail
  refine (end_any g V3 HBg.out.in_ HBg.out.ok (by have h1 := len_p HSg.out.o; have h2 := HN.out.2.1; omega)).mono ?_
  rintro _ w4 ⟨p, E3, rfl, hsp, ip, op, _, b4⟩
  clear c00 c01 c02 c03 c04 c05
  obtain ⟨V4, hV4, hvb, hvs, hvo⟩ := btbox w4 p
  have hst : Below V3.heap.size V3 V4 := b4.trans (hvb.mono b4.size)
  have HSp := Lib.hid hsp
  replace HBm := Lib.hid (HBm.out.past hst)
  replace HBa := Lib.hid (HBa.out.past hst)
  replace HBb := Lib.hid (HBb.out.past hst)
  replace HBg := Lib.hid (HBg.out.past hst)
  replace HBx := Lib.hid (HBx.out.past hst)
  replace HBy := Lib.hid (HBy.out.past hst)
  have HBp := Lib.hid (BoxB.mk (ip.keep hvb) op hvo)
  replace HT := Lib.hid ((HT.out.past hst (Nat.le_refl _)).wide hst.size)
  replace HW := Lib.hid (belows HW.out hst)
  clear b4 hvb hvs hvo hst ip op hsp
  rw [show p.val = .agg #[.slice p.sA p.f.length p.sc, .slice p.uA p.l.length p.uc] from rfl]
  go_upto_region 5 with fail
  rw [← hV4]
  clear hV4
  obtain ⟨c00, c01, c02, c03, c04, c05⟩ := own6 HBm.out.own
  go_wp2_with fail
  refine (rend_any m V4 HBm.out.in_ HBm.out.ok HN.out.1).mono ?_
  rintro _ w5 ⟨q, E4, rfl, hsq, iq, oq, _, b5⟩
  clear c00 c01 c02 c03 c04 c05
  obtain ⟨V5, hV5, hvb, hvs, hvo⟩ := btbox w5 q
  have hst : Below V4.heap.size V4 V5 := b5.trans (hvb.mono b5.size)
  have hsr := ended_same HSg.out HSp.out hsq; obtain ⟨hsr, rfl⟩ := hsr; have HSq := Lib.hid hsr
  replace HBm := Lib.hid (HBm.out.past hst)
  replace HBa := Lib.hid (HBa.out.past hst)
  replace HBb := Lib.hid (HBb.out.past hst)
  replace HBg := Lib.hid (HBg.out.past hst)
  replace HBx := Lib.hid (HBx.out.past hst)
  replace HBy := Lib.hid (HBy.out.past hst)
  replace HBp := Lib.hid (HBp.out.past hst)
  have HBq := Lib.hid (BoxB.mk (iq.keep hvb) oq hvo)
  replace HT := Lib.hid ((HT.out.past hst (Nat.le_refl _)).wide hst.size)
  replace HW := Lib.hid (belows HW.out hst)
  clear b5 hvb hvs hvo hst iq oq hsq hsr HSp
  rw [show q.val = .agg #[.slice q.sA q.f.length q.sc, .slice q.uA q.l.length q.uc] from rfl]
  go_upto_region 6 with fail
  rw [← hV5]
  clear hV5
  obtain ⟨c00, c01⟩ := own2 HBa.out.own
  obtain ⟨c10, c11⟩ := own2 HBb.out.own
  go_wp2_with fail
  refine (start_any2 A c f a b V5 HT.out HN.out.2.2.1 HBa.out.in_ HBa.out.ok (by have h2 := HN.out.2.2.2.1; omega) HBb.out.in_ HBb.out.ok (by have h2 := HN.out.2.2.2.2.1; omega)).mono ?_
  rintro _ w6 ⟨cc, E5, rfl, hsc, icc, occ, _, b6⟩
  clear c00 c01 c10 c11
  obtain ⟨V6, hV6, hvb, hvs, hvo⟩ := mgbox w6 cc
  have hst : Below V5.heap.size V5 V6 := b6.trans (hvb.mono b6.size)
  have HSc := Lib.hid hsc
  replace HBm := Lib.hid (HBm.out.past hst)
  replace HBa := Lib.hid (HBa.out.past hst)
  replace HBb := Lib.hid (HBb.out.past hst)
  replace HBg := Lib.hid (HBg.out.past hst)
  replace HBx := Lib.hid (HBx.out.past hst)
  replace HBy := Lib.hid (HBy.out.past hst)
  replace HBp := Lib.hid (HBp.out.past hst)
  replace HBq := Lib.hid (HBq.out.past hst)
  have HBc := Lib.hid (BoxM.mk (icc.keep hvb) occ hvo)
  replace HT := Lib.hid ((HT.out.past hst (Nat.le_refl _)).wide hst.size)
  replace HW := Lib.hid (belows HW.out hst)
  clear b6 hvb hvs hvo hst icc occ hsc
  rw [show cc.val = .agg #[.slice cc.aA cc.a.length cc.ac, .slice cc.bA cc.b.length cc.bc, .int .i64 cc.i, .int .i64 cc.j, .slice cc.sA cc.f.length cc.sc, .slice cc.oA cc.o.length cc.oc] from rfl]
  go_upto_region 7 with fail
  rw [← hV6]
  clear hV6
  obtain ⟨c00, c01⟩ := own2 HBa.out.own
  obtain ⟨c10, c11⟩ := own2 HBb.out.own
  go_wp2_with fail
  refine (rstart_any2 A c f a b V6 HT.out HN.out.2.2.1 HBa.out.in_ HBa.out.ok HN.out.2.2.2.2.2.1 HBb.out.in_ HBb.out.ok HN.out.2.2.2.2.2.2).mono ?_
  rintro _ w7 ⟨dd, E6, rfl, hsd, idd, odd, _, b7⟩
  clear c00 c01 c10 c11
  obtain ⟨V7, hV7, hvb, hvs, hvo⟩ := mgbox w7 dd
  have hst : Below V6.heap.size V6 V7 := b7.trans (hvb.mono b7.size)
  have hse := started_same HSc.out hsd; obtain ⟨hse, rfl⟩ := hse; have HSd := Lib.hid hse
  replace HBm := Lib.hid (HBm.out.past hst)
  replace HBa := Lib.hid (HBa.out.past hst)
  replace HBb := Lib.hid (HBb.out.past hst)
  replace HBg := Lib.hid (HBg.out.past hst)
  replace HBx := Lib.hid (HBx.out.past hst)
  replace HBy := Lib.hid (HBy.out.past hst)
  replace HBp := Lib.hid (HBp.out.past hst)
  replace HBq := Lib.hid (HBq.out.past hst)
  replace HBc := Lib.hid (HBc.out.past hst)
  have HBd := Lib.hid (BoxM.mk (idd.keep hvb) odd hvo)
  replace HT := Lib.hid ((HT.out.past hst (Nat.le_refl _)).wide hst.size)
  replace HW := Lib.hid (belows HW.out hst)
  clear b7 hvb hvs hvo hst idd odd hsd hse HSc
  rw [show dd.val = .agg #[.slice dd.aA dd.a.length dd.ac, .slice dd.bA dd.b.length dd.bc, .int .i64 dd.i, .int .i64 dd.j, .slice dd.sA dd.f.length dd.sc, .slice dd.oA dd.o.length dd.oc] from rfl]
  go_upto_region 8 with fail
  rw [← hV7]
  clear hV7
  obtain ⟨K, hK⟩ := codeB (MOk m) 8
  have u0 : ∀ z : Past V7, Calls Tryz.prog 14 #[] z.w fun e w' => e = .returned (.bool true) ∧ ∃ q : Past V7, w' = q.w := fun z => calls_past (blives_true z.w)
  have u1 : ∀ z : Past V7, Calls Tryz.prog 15 #[.agg #[.slice x.aA x.a.length x.ac, .slice x.bA x.b.length x.bc, .int .i64 x.i, .int .i64 x.j, .slice x.sA x.f.length x.sc, .slice x.oA x.o.length x.oc], .agg #[.slice y.aA y.a.length y.ac, .slice y.bA y.b.length y.bc, .int .i64 y.i, .int .i64 y.j, .slice y.sA y.f.length y.sc, .slice y.oA y.o.length y.oc]] z.w fun e w' => e = .returned (.bool true) ∧ ∃ q : Past V7, w' = q.w := fun z => calls_past (samem_yes x y z.w (HBx.out.in_.keep z.h) HBx.out.ok (HBy.out.in_.keep z.h) HBy.out.ok HSy.out)
  have u2 : ∀ z : Past V7, Calls Tryz.prog 16 #[.agg #[.slice p.sA p.f.length p.sc, .slice p.uA p.l.length p.uc], .agg #[.slice q.sA q.f.length q.sc, .slice q.uA q.l.length q.uc]] z.w fun e w' => e = .returned (.bool true) ∧ ∃ q : Past V7, w' = q.w := fun z => calls_past (samebatch_yes p q z.w (HBp.out.in_.keep z.h) HBp.out.ok (HBq.out.in_.keep z.h) HBq.out.ok HSq.out)
  have u3 : ∀ z : Past V7, Calls Tryz.prog 15 #[.agg #[.slice cc.aA cc.a.length cc.ac, .slice cc.bA cc.b.length cc.bc, .int .i64 cc.i, .int .i64 cc.j, .slice cc.sA cc.f.length cc.sc, .slice cc.oA cc.o.length cc.oc], .agg #[.slice dd.aA dd.a.length dd.ac, .slice dd.bA dd.b.length dd.bc, .int .i64 dd.i, .int .i64 dd.j, .slice dd.sA dd.f.length dd.sc, .slice dd.oA dd.o.length dd.oc]] z.w fun e w' => e = .returned (.bool true) ∧ ∃ q : Past V7, w' = q.w := fun z => calls_past (samem_yes cc dd z.w (HBc.out.in_.keep z.h) HBc.out.ok (HBd.out.in_.keep z.h) HBd.out.ok HSd.out)
  have u4 : ∀ z : Past V7, Calls Tryz.prog 17 #[.agg #[.slice g.aA g.a.length g.ac, .slice g.bA g.b.length g.bc, .int .i64 g.i, .int .i64 g.j, .slice g.sA g.f.length g.sc, .slice g.oA g.o.length g.oc]] z.w fun e w' => e = .returned (.int .i64 K) ∧ ∃ q : Past V7, w' = q.w := fun z => calls_past ((checkM_any g z.w (HBg.out.in_.keep z.h) HBg.out.ok).mono fun x w' h => codes_is (by rw [mok_iff HSg.out]; exact hK) h)
  have u5 : ∀ z : Past V7, Calls Tryz.prog 18 #[.agg #[.slice m.aA m.a.length m.ac, .slice m.bA m.b.length m.bc, .int .i64 m.i, .int .i64 m.j, .slice m.sA m.f.length m.sc, .slice m.oA m.o.length m.oc]] z.w fun e w' => e = .returned (.int .i64 K) ∧ ∃ q : Past V7, w' = q.w := fun z => calls_past ((rcheckM_any m z.w (HBm.out.in_.keep z.h) HBm.out.ok).mono fun x w' h => codes_is hK h)
  have u6 : ∀ z : Past V7, Calls Tryz.prog 15 #[.agg #[.slice g.aA g.a.length g.ac, .slice g.bA g.b.length g.bc, .int .i64 g.i, .int .i64 g.j, .slice g.sA g.f.length g.sc, .slice g.oA g.o.length g.oc], .agg #[.slice m.aA m.a.length m.ac, .slice m.bA m.b.length m.bc, .int .i64 m.i, .int .i64 m.j, .slice m.sA m.f.length m.sc, .slice m.oA m.o.length m.oc]] z.w fun e w' => e = .returned (.bool true) ∧ ∃ q : Past V7, w' = q.w := fun z => calls_past (samem_yes g m z.w (HBg.out.in_.keep z.h) HBg.out.ok (HBm.out.in_.keep z.h) HBm.out.ok HSg.out)
  have xm := fun z : Past V7 => own6 (HBm.out.past z.h).own
  have xg := fun z : Past V7 => own6 (HBg.out.past z.h).own
  have xx := fun z : Past V7 => own6 (HBx.out.past z.h).own
  have xy := fun z : Past V7 => own6 (HBy.out.past z.h).own
  have xp := fun z : Past V7 => own2 (HBp.out.past z.h).own
  have xq := fun z : Past V7 => own2 (HBq.out.past z.h).own
  have xc := fun z : Past V7 => own6 (HBc.out.past z.h).own
  have xd := fun z : Past V7 => own6 (HBd.out.past z.h).own
  have t1 : (C1 == C1) = true := by simp
  have t2 : (E1 == E1) = true := by simp
  have t3 : (E3 == E3) = true := by simp
  have t4 : (E5 == E5) = true := by simp
  have t5 : (K == K) = true := by simp
  clear HBm HBg HBx HBy HBp HBq HBc HBd HBa HBb HSg HSy HSq HSd HT HN hK
  refine wp_region_past V7 (by kernel_rfl) (by kernel_rfl) (Below.refl _ _) ?_
  repeat (first | go_big_quiet_step ((first | (go_at_call 14; with_reducible exact u0 _) | (go_at_call 15; with_reducible exact u1 _) | (go_at_call 16; with_reducible exact u2 _) | (go_at_call 15; with_reducible exact u3 _) | (go_at_call 17; with_reducible exact u4 _) | (go_at_call 18; with_reducible exact u5 _) | (go_at_call 15; with_reducible exact u6 _))) | quiet_step ((first | (go_at_call 14; with_reducible exact u0 _) | (go_at_call 15; with_reducible exact u1 _) | (go_at_call 16; with_reducible exact u2 _) | (go_at_call 15; with_reducible exact u3 _) | (go_at_call 17; with_reducible exact u4 _) | (go_at_call 18; with_reducible exact u5 _) | (go_at_call 15; with_reducible exact u6 _))))
  refine wpQuiet_nil ?_
  intro wz hw'
  obtain ⟨⟨wy, hbz⟩, hw''⟩ := hw'
  dsimp only at hw''
  subst hw''
  have HZ := Lib.hid (belows HW.out hbz)
  clear u0 u1 u2 u3 u4 u5 u6 xm xg xx xy xp xq xc xd hbz
  go_wp2_with fail
  go_ret
  exact ⟨rfl, HZ.out⟩
theorem bmerges_law (m : Mg) (fuel : Int) (A : Option Addr) (c : Nat) (f : List Tm) (a b : Bt) (w : World) (hm : MgIn w w.heap.size m) (om : MgOk m ∧ ∀ u, u ∈ m.a ∨ u ∈ m.b ∨ u ∈ m.o → u.key.length ≤ 1099511627776 ∧ u.row.length ≤ 1099511627776) (hnn : m.a.length + m.b.length + m.o.length ≤ 1048576) (_ : -9223372036854775808 ≤ fuel) (_ : fuel ≤ 9223372036854775807) (hf : Times w w.heap.size A f) (hfc : f.length ≤ c) (hfn : f.length ≤ 1048576) (hcm : c ≤ maxLen) (ha : BtIn w w.heap.size a) (oa : BtOk a ∧ ∀ u ∈ a.l, u.key.length ≤ 1099511627776 ∧ u.row.length ≤ 1099511627776) (na : a.l.length ≤ 1048576) (hb : BtIn w w.heap.size b) (ob : BtOk b ∧ ∀ u ∈ b.l, u.key.length ≤ 1099511627776 ∧ u.row.length ≤ 1099511627776) (nb : b.l.length ≤ 1048576) (_ : f.length ≤ 1048576) :
    Calls Tryz.prog 3 #[m.val, .int .i64 fuel, .slice A f.length c, a.val, b.val] w fun e w' => e = .returned (.bool true) ∧ Below w.heap.size w w' :=
  bmerges_walk m fuel A c f a b w hm om.1 om.2 hnn hf ⟨by omega, hfc, hcm⟩ ha oa.1 hb ob.1 na nb oa.2 ob.2
end Go.Proofs.YtllpfngmnccejaaGreat
namespace Go.Proofs.YtllpfngmnccejaaGreat
open Go
variable {H : Type}
theorem bulk_pos (d : DataW H) : 1 ≤ Rows.uptoBulk d := by
  cases d with
  | lit l => cases l <;> simp [Rows.uptoBulk]
  | nil => simp [Rows.uptoBulk]
  | ptr d => simp [Rows.uptoBulk]
  | slice es sp => simp [Rows.uptoBulk]
  | agg ps => simp [Rows.uptoBulk]
  | iface t d => simp [Rows.uptoBulk]
  | map es => simp [Rows.uptoBulk]
  | held h => simp [Rows.uptoBulk]
theorem bulk_all : ∀ es : List (DataW H), es.length ≤ Rows.uptoBulkAll es
  | [] => by simp
  | d :: r => by
    have := bulk_all r
    have := bulk_pos d
    simp only [List.length_cons, Rows.uptoBulkAll]
    omega
theorem bulk_slice (es sp : List (DataW H)) : es.length ≤ Rows.uptoBulk (.slice es sp) := by
  have := bulk_all es
  simp only [Rows.uptoBulk]
  omega
end Go.Proofs.YtllpfngmnccejaaGreat
namespace Go.Proofs.YtllpfngmnccejaaGreat
open Go Go.RowKit Go.ChangeShapes Go.WideShapes Go.ChangeAt Go.Deep

section
variable {H : Type} {enc : TypeId × Value → H} {P : Program} {w : World} {base : Nat} {spare : Nat → Bool} {held : Bool}
/-- the slice, its list; and what its reading tells of its length -/
theorem open_list_at {α : Type} [Inhabited α] {size : Nat} {cells : α → List Value} {OK : α → Prop} {t e : TypeId} (ht : P.underlying t = some (.slice e)) (hc : P.cellsOf e = size) (hpos : 0 < size) (hcl : ∀ x, (cells x).length = size)
    (dec : ∀ {n : Nat} {cs : List Value} {x : DataW H × List MemPlace}, DataW.trod enc P w base spare held n e cs = some x → ∃ a, cs = cells a ∧ OK a)
    {fuel : Nat} {cs : List Value} {x : DataW H × List MemPlace} (hf : DataW.trod enc P w base spare held fuel t cs = some x) :
    ∃ (A : Option Addr) (c : Nat) (l : List α), cs = [.slice A l.length c] ∧ l.length ≤ c ∧ c ≤ maxLen ∧ Lies size cells w w.heap.size A l ∧ (∀ a ∈ l, OK a) ∧ (x.1 = .nil ∧ l = [] ∧ c = 0 ∨ ∃ es sp, x.1 = .slice es sp ∧ es.length = l.length) := by
  rcases open_slice ht hf with ⟨e, hx⟩ | ⟨a, len, cap, m, n, D, Pl, e, hb, hl, hm, hmm, hx, hi⟩
  · subst e hx
    exact ⟨none, 0, [], rfl, by simp, by unfold maxLen; omega, fun h => absurd h (by simp), fun a ha => (by cases ha), .inl ⟨rfl, rfl, rfl⟩⟩
  · subst e hx
    obtain ⟨n0, rfl⟩ : ∃ n0, n0 = len := ⟨_, rfl⟩
    obtain ⟨c0, rfl⟩ : ∃ c0, c0 = cap := ⟨_, rfl⟩
    have hlm : n0 ≤ m := by rw [hmm]; split <;> omega
    rw [hc] at hi
    have hT : ∀ i, ∃ x : α, i < n0 → OK x ∧ ∀ (j : Nat) (u : Value), (cells x)[j]? = some u → w.cell? ((a.add (i * size)).add j) = some u := by
      intro i
      by_cases hil : i < n0
      · obtain ⟨cs', hcs, htr⟩ := hi i (by omega)
        obtain ⟨x, rfl, hok⟩ := dec htr
        obtain ⟨_, _, hat⟩ := World.cells?_some hcs
        refine ⟨x, fun _ => ⟨hok, fun j u hj => ?_⟩⟩
        have hjs : j < size := by have := (List.getElem?_eq_some_iff.1 hj).1; rw [hcl] at this; exact this
        rw [hat j hjs]
        exact hj
      · exact ⟨default, fun h => absurd h hil⟩
    obtain ⟨f, hf'⟩ : ∃ f : Nat → α, ∀ i, i < n0 → OK (f i) ∧ ∀ (j : Nat) (u : Value), (cells (f i))[j]? = some u → w.cell? ((a.add (i * size)).add j) = some u :=
      ⟨fun i => Classical.choose (hT i), fun i => Classical.choose_spec (hT i)⟩
    clear hT
    have hlen : ((List.range n0).map f).length = n0 := by simp
    refine ⟨some a, c0, (List.range n0).map f, by rw [hlen], by rw [hlen]; exact hl, hm, fun hp => ?_, fun x hx => ?_, .inr ⟨_, _, rfl, by simp⟩⟩
    · rw [hlen] at hp
      have hz : ((a.add (0 * size)).add 0) = a := by unfold Addr.add; simp
      obtain ⟨v0, h0⟩ : ∃ v0, w.cell? a = some v0 := by
        have h1 : 0 < (cells (f 0)).length := by rw [hcl]; exact hpos
        have := (hf' 0 hp).2 0 _ (List.getElem?_eq_getElem h1)
        rw [hz] at this
        exact ⟨_, this⟩
      have hspot : a.spot = none := by
        cases hs : a.spot with
        | none => rfl
        | some s =>
          unfold World.cell? at h0
          rw [hs] at h0
          split at h0 <;> simp at h0
      obtain ⟨b, o, sp⟩ := a
      simp only at hspot
      subst hspot
      have hadd : ∀ k j, ((⟨b, o, none⟩ : Addr).add k).add j = ⟨b, o + k + j, none⟩ := fun k j => by unfold Addr.add; split <;> split <;> simp_all
      refine ⟨b, o, rfl, World.block_lt_of_cell? w _ h0, fun i x hit j u hj => ?_⟩
      have hil : i < n0 := by have := (List.getElem?_eq_some_iff.1 hit).1; omega
      have hti : f i = x := by simpa [hil] using hit
      subst hti
      have := (hf' i hil).2 j u hj
      rwa [hadd] at this
    · obtain ⟨i, hi1, rfl⟩ := List.mem_map.1 hx
      exact (hf' i (List.mem_range.1 hi1)).1
theorem open_list {α : Type} [Inhabited α] {size : Nat} {cells : α → List Value} {OK : α → Prop} {t e : TypeId} (ht : P.underlying t = some (.slice e)) (hc : P.cellsOf e = size) (hpos : 0 < size) (hcl : ∀ x, (cells x).length = size)
    (dec : ∀ {n : Nat} {cs : List Value} {x : DataW H × List MemPlace}, DataW.trod enc P w base spare held n e cs = some x → ∃ a, cs = cells a ∧ OK a)
    {v : Value} {d : DataW H} {p : List MemPlace} {r : Reach} {b0 : Nat} (hv : Value.okWide P w r b0 t v) (h : DataW.Trod enc P w base spare held t v d p) :
    ∃ (A : Option Addr) (c : Nat) (l : List α), v = .slice A l.length c ∧ l.length ≤ c ∧ c ≤ maxLen ∧ Lies size cells w w.heap.size A l ∧ (∀ a ∈ l, OK a) ∧ (d = .nil ∧ l = [] ∧ c = 0 ∨ ∃ es sp, d = .slice es sp ∧ es.length = l.length) := by
  obtain ⟨a0, n0, c0, rfl⟩ := okWide_slice ht hv
  obtain ⟨fuel, hf⟩ := h
  obtain ⟨A, c, l, e, h1⟩ := open_list_at ht hc hpos hcl dec hf
  exact ⟨A, c, l, by simpa [Value.cells] using e, h1⟩
end
end Go.Proofs.YtllpfngmnccejaaGreat
namespace Go.Proofs.YtllpfngmnccejaaGreat
open Go Go.RowKit Go.ChangeShapes Go.WideShapes Go.ChangeAt Go.Deep

section
variable {H : Type} {enc : TypeId × Value → H} {P : Program} {w : World} {base : Nat} {spare : Nat → Bool} {held : Bool}
theorem lies_gen {α : Type} {size : Nat} {cells : α → List Value} (hcl : ∀ x, 0 < (cells x).length) {len : Nat} {a : Addr} {f : Nat → α} (hp : 0 < len) (hf : ∀ i, i < len → ∀ (j : Nat) (u : Value), (cells (f i))[j]? = some u → w.cell? ((a.add (i * size)).add j) = some u) :
    Lies size cells w w.heap.size (some a) ((List.range len).map f) := fun _ => by
  have hz : ((a.add (0 * size)).add 0) = a := by unfold Addr.add; simp
  obtain ⟨v0, h0⟩ : ∃ v0, w.cell? a = some v0 := by
    have := hf 0 hp 0 _ (List.getElem?_eq_getElem (hcl (f 0)))
    rw [hz] at this
    exact ⟨_, this⟩
  have hspot : a.spot = none := by
    cases hs : a.spot with
    | none => rfl
    | some s =>
      unfold World.cell? at h0
      rw [hs] at h0
      split at h0 <;> simp at h0
  obtain ⟨b, o, sp⟩ := a
  simp only at hspot
  subst hspot
  have hadd : ∀ k j, ((⟨b, o, none⟩ : Addr).add k).add j = ⟨b, o + k + j, none⟩ := fun k j => by unfold Addr.add; split <;> split <;> simp_all
  refine ⟨b, o, rfl, World.block_lt_of_cell? w _ h0, fun i x hit j u hj => ?_⟩
  have hil : i < len := by have := (List.getElem?_eq_some_iff.1 hit).1; simpa using this
  have hti : f i = x := by simpa [hil] using hit
  subst hti
  have := hf i hil j u hj
  rwa [hadd] at this
theorem bulk_sum : ∀ es : List (DataW H × List MemPlace), (es.map (fun z => Rows.uptoBulk z.1)).sum = Rows.uptoBulkAll (es.map (·.1))
  | [] => by simp [Rows.uptoBulkAll]
  | x :: es => by simp only [List.map_cons, List.sum_cons, Rows.uptoBulkAll]; rw [bulk_sum es]
theorem mem_le_sum : ∀ {bs : List Nat} {b : Nat}, b ∈ bs → b ≤ bs.sum
  | [], _, h => by cases h
  | x :: bs, b, h => by
    rw [List.sum_cons]
    rcases List.mem_cons.1 h with rfl | h
    · omega
    · have := mem_le_sum h; omega
theorem len_le_sum : ∀ {bs : List Nat}, (∀ b ∈ bs, 1 ≤ b) → bs.length ≤ bs.sum
  | [], _ => Nat.le_refl _
  | x :: bs, h => by
    have h1 := h x (by simp)
    have h2 := len_le_sum (bs := bs) fun b hb => h b (by simp [hb])
    rw [List.sum_cons, List.length_cons]
    omega
theorem sum_pair {α : Type} {g : α → Nat} : ∀ (l : List α) (bs : List Nat), bs.length = l.length → (∀ (i : Nat) (a : α), l[i]? = some a → ∃ b, bs[i]? = some b ∧ g a ≤ b) → (l.map g).sum ≤ bs.sum
  | [], _, _, _ => Nat.zero_le _
  | x :: l, [], h, _ => by simp at h
  | x :: l, b :: bs, h, hp => by
    obtain ⟨b', h1, h2⟩ := hp 0 x rfl
    obtain rfl : b = b' := by simpa using h1
    have := sum_pair l bs (by simpa using h) fun i a hi => by
      obtain ⟨b2, h3, h4⟩ := hp (i + 1) a (by simpa using hi)
      exact ⟨b2, by simpa using h3, h4⟩
    simp only [List.map_cons, List.sum_cons]
    omega
/-- the slice, its list, and how much each of its elements tells -/
theorem open_list_bulk {α : Type} [Inhabited α] {size : Nat} {cells : α → List Value} {OK : α → Nat → Prop} {t e : TypeId} {fuel : Nat} (ht : P.underlying t = some (.slice e)) (hc : P.cellsOf e = size) (hcl : ∀ x, 0 < (cells x).length)
    (dec : ∀ {n : Nat} {cs : List Value} {x : DataW H × List MemPlace}, n < fuel → DataW.trod enc P w base spare held n e cs = some x → ∃ a, cs = cells a ∧ OK a (Rows.uptoBulk x.1))
    {cs : List Value} {x : DataW H × List MemPlace} (hf : DataW.trod enc P w base spare held fuel t cs = some x) :
    ∃ (A : Option Addr) (c : Nat) (l : List α) (bs : List Nat), cs = [.slice A l.length c] ∧ l.length ≤ c ∧ c ≤ maxLen ∧ Lies size cells w w.heap.size A l ∧ bs.length = l.length ∧ bs.sum + 1 ≤ Rows.uptoBulk x.1 ∧ (∀ b ∈ bs, 1 ≤ b) ∧
      ∀ (i : Nat) (a : α), l[i]? = some a → ∃ b, bs[i]? = some b ∧ OK a b := by
  rcases DataW.trod_slice ht hf with ⟨h1, h2⟩ | ⟨a, len, cap, elems, rest, n, hfu, h1, h2, hb, hl, hm, hlen, hel, hsp, hns⟩
  · subst h1 h2
    exact ⟨none, 0, [], [], rfl, Nat.le_refl _, Nat.zero_le _, Lies.nil_, rfl, by simp [Rows.uptoBulk], fun b h => (by cases h), fun i a h => (by simp at h)⟩
  · rw [hc] at hel
    have hT : ∀ i, i < len → ∃ y : α, (∃ b, (elems.map (fun z => Rows.uptoBulk z.1))[i]? = some b ∧ OK y b) ∧ ∀ (j : Nat) (u : Value), (cells y)[j]? = some u → w.cell? ((a.add (i * size)).add j) = some u := fun i hi => by
      have h1 := hel i hi
      rw [List.getElem?_eq_getElem (by omega)] at h1
      obtain ⟨cs', h2, h3⟩ := Option.bind_eq_some_iff.1 h1
      obtain ⟨y, rfl, hy⟩ := dec (by omega) h3
      obtain ⟨_, hle2, hat⟩ := World.cells?_some h2
      refine ⟨y, ⟨_, by rw [List.getElem?_map, List.getElem?_eq_getElem (by omega)]; rfl, hy⟩, fun j u hj => ?_⟩
      rw [hat j (by have := (List.getElem?_eq_some_iff.1 hj).1; omega)]
      exact hj
    obtain ⟨f, hf'⟩ := choose_lt hT
    have hle : ((List.range len).map f).length = len := by simp
    refine ⟨some a, cap, (List.range len).map f, elems.map (fun z => Rows.uptoBulk z.1), by rw [hle]; exact h1, by rw [hle]; exact hl, hm, ?_, by rw [hle, List.length_map, hlen], ?_, ?_, ?_⟩
    · by_cases hp : 0 < len
      · exact lies_gen hcl hp fun i hi => (hf' i hi).2
      · exact fun h => by rw [hle] at h; omega
    · rw [h2]
      simp only [Rows.uptoBulk]
      rw [bulk_sum]
      omega
    · intro b hb
      obtain ⟨z, _, rfl⟩ := List.mem_map.1 hb
      exact bulk_pos _
    · intro i y hi
      have hil : i < len := by have := (List.getElem?_eq_some_iff.1 hi).1; simpa using this
      have hti : f i = y := by simpa [hil] using hi
      subst hti
      exact (hf' i hil).1
end
end Go.Proofs.YtllpfngmnccejaaGreat
namespace Go.Proofs.YtllpfngmnccejaaGreat
open Go Go.RowKit

/-- a slice at A of as many rows as L has reads as L; all of it lies below block B; each row takes fewer than 2^47 bytes -/
def RowsAt (w : World) (B : Nat) (A : Option Addr) (L : List (List Vl)) : Prop :=
  0 < L.length → ∃ b o, A = some ⟨b, o, none⟩ ∧ b < B ∧ ∀ (i : Nat) (l : List Vl), L[i]? = some l → ∃ A' c', w.cell? ⟨b, o + i, none⟩ = some (.slice A' l.length c') ∧ Vals w B A' l
section
variable {w w' : World} {B B' : Nat} {A : Option Addr} {L : List (List Vl)}
theorem RowsAt.past (h : RowsAt w B A L) (hb : Below B' w w') (hB : B ≤ B') : RowsAt w' B A L := fun hn => by
  obtain ⟨b, o, e, hlt, hc⟩ := h hn
  refine ⟨b, o, e, hlt, fun i l hi => ?_⟩
  obtain ⟨A', c', h1, h2⟩ := hc i l hi
  exact ⟨A', c', (hb.cell (p := ⟨b, o + i, none⟩) (show b < B' by omega)).trans h1, h2.past hb hB⟩
theorem RowsAt.wide (h : RowsAt w B A L) (hB : B ≤ B') : RowsAt w B' A L := fun hn => by
  obtain ⟨b, o, e, hlt, hc⟩ := h hn
  refine ⟨b, o, e, by omega, fun i l hi => ?_⟩
  obtain ⟨A', c', h1, h2⟩ := hc i l hi
  exact ⟨A', c', h1, h2.wide hB⟩
end
theorem rowsAt_keep {a b : World} {A : Option Addr} {L : List (List Vl)} (h : RowsAt a a.heap.size A L) (hb : Below a.heap.size a b) : RowsAt b b.heap.size A L := (h.past hb (Nat.le_refl _)).wide hb.size
/-- the lengths, added up -/
def lens (L : List (List Vl)) : Nat := (L.map List.length).sum
theorem lens_flat (L : List (List Vl)) : L.flatten.length = lens L := by simp [lens, List.length_flatten]
theorem lens_snoc {L : List (List Vl)} {k : Nat} {l : List Vl} (h : L[k]? = some l) : lens (L.take (k + 1)) = lens (L.take k) + l.length := by
  rw [List.take_add_one, h]; simp [lens]
theorem flat_snoc {L : List (List Vl)} {k : Nat} {l : List Vl} (h : L[k]? = some l) : (L.take (k + 1)).flatten = (L.take k).flatten ++ l := by
  rw [List.take_add_one, h]; simp
theorem lens_take : ∀ (L : List (List Vl)) (k : Nat), lens (L.take k) ≤ lens L
  | [], k => by simp [lens]
  | l :: L, 0 => by simp [lens]
  | l :: L, k + 1 => by
    have := lens_take L k
    unfold lens at *
    simp only [List.take_succ_cons, List.map_cons, List.sum_cons]
    omega
end Go.Proofs.YtllpfngmnccejaaGreat
