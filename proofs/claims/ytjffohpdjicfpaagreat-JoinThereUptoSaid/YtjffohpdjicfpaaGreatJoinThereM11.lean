/- Part 11 of the texts on which JoinThere rests: facts and contracts. -/
import Derived.Test.YtjffohpdjicfpaaGreatJoinThereM10
namespace Go.Proofs.YtjffohpdjicfpaaGreat
open Go Go.RowKit
def codeSt (f : List Tm) (a b : Bt) (E : Int) : Prop := E = 4 ∧ ¬ (BatchOk a.f a.l ∧ BatchOk b.f b.l ∧ FrontOk f) ∨ E = 1 ∧ (BatchOk a.f a.l ∧ BatchOk b.f b.l ∧ FrontOk f)
def Started2 (f : List Tm) (a b : Bt) (w : World) (x : Ending) (w' : World) : Prop :=
  ∃ (m : Mg) (E : Int), x = .returned (.tuple #[m.val, .int .i64 E]) ∧ (E = 0 ∧ StartOk f a b ∧ m.a.map Up.p = a.l.map Up.p ∧ m.b.map Up.p = b.l.map Up.p ∧ m.i = 0 ∧ m.j = 0 ∧ m.f = f ∧ m.o = [] ∨ codeSt f a b E ∧ m = Mg.nil ∧ ¬ StartOk f a b) ∧
    MgIn w' w'.heap.size m ∧ MgOk m ∧ MgLo w.heap.size m ∧ Below w.heap.size w w'
def Started2C (f : List Tm) (a b : Bt) (w : World) (x : Ending) (w' : World) : Prop :=
  ∃ (m : Mg) (E : Int), x = .returned (.tuple #[m.val, .int .i64 E]) ∧ (E = 0 ∧ StartOk f a b ∧ m.a.map Up.p = a.l.map Up.p ∧ m.b.map Up.p = b.l.map Up.p ∧ m.i = 0 ∧ m.j = 0 ∧ m.f = f ∧ m.o = [] ∨ codeSt f a b E ∧ m = Mg.nil ∧ ¬ StartOk f a b) ∧
    MgIn w' w'.heap.size m ∧ MgOk m ∧ MgLo w.heap.size m ∧ Below w.heap.size w w' ∧ m.ac = m.a.length ∧ m.bc = m.b.length
set_option maxRecDepth 100000 in
set_option maxHeartbeats 12800000 in
theorem start_any2C (A : Option Addr) (c : Nat) (f : List Tm) (a b : Bt) (w : World) (hf : Times w w.heap.size A f) (hfo : TsOk f c) (ha : BtIn w w.heap.size a) (oa : BtOk a) (na : a.l.length ≤ 274877906944) (hb : BtIn w w.heap.size b) (ob : BtOk b) (nb : b.l.length ≤ 274877906944) :
    Calls Tryz.prog 111 #[.slice A f.length c, a.val, b.val] w (Started2C f a b w) := by
  obtain ⟨V, hV, hvb, hv1, hv2, hv3⟩ := st_box w a b
  have hX := fun p : Past V => own2 (hv1.past p.h hv1.inside)
  have hY := fun p : Past V => own2 (hv2.past p.h hv2.inside)
  have hZ := fun p : Past V => hv3.past p.h hv3.inside
  have hia := ha.keep hvb
  have hib := hb.keep hvb
  have hif := (hf.past hvb (Nat.le_refl _)).wide hvb.size
  have hfV := fun p : Past V => (hif.past p.h (Nat.le_refl _)).wide p.h.size
  obtain ⟨ca, hca⟩ := code_of (BatchOk a.f a.l) 4
  obtain ⟨cb, hcb⟩ := code_of (BatchOk b.f b.l) 4
  obtain ⟨bf, hbf⟩ := bool_of (FrontOk f)
  obtain ⟨la, hla⟩ := bool_of (LaterF f a.f)
  obtain ⟨lb, hlb⟩ := bool_of (LaterF f b.f)
  have n1 := hfo.n
  have m1 : f.length ≤ maxLen := Nat.le_trans hfo.le hfo.c_
  have m2 : a.f.length ≤ maxLen := Nat.le_trans oa.f.le oa.f.c_
  have m3 : b.f.length ≤ maxLen := Nat.le_trans ob.f.le ob.f.c_
  have u1 := fun p : Past V => calls_past ((bcheck_any a p.w (hia.keep p.h) oa).mono fun x w' h => codes_is hca h)
  have u2 := fun p : Past V => calls_past ((bcheck_any b p.w (hib.keep p.h) ob).mono fun x w' h => codes_is hcb h)
  have u3 := fun p : Past V => calls_past ((bfrontier_any A c f p.w (hfV p) (by omega)).mono fun x w' h => tells_is hbf h)
  have u4 := fun p : Past V => calls_past ((later_any A c f a.sA a.sc a.f p.w (hfV p) m1 (hia.keep p.h).since m2).mono fun x w' h => tells_is hla h)
  have u5 := fun p : Past V => calls_past ((later_any A c f b.sA b.sc b.f p.w (hfV p) m1 (hib.keep p.h).since m3).mono fun x w' h => tells_is hlb h)
  have HB := Lib.hid hvb
  have HI := Lib.hid (And.intro hia (And.intro hib hif))
  have HZ := Lib.hid hZ
  have HC := Lib.hid (And.intro hca (And.intro hcb (And.intro hbf (And.intro hla hlb))))
  have HOK := Lib.hid (And.intro hfo (And.intro oa (And.intro na (And.intro ob nb))))
  have HG := Lib.hid hv3.inside
  have hA : a.val = .agg #[.slice a.sA a.f.length a.sc, .slice a.uA a.l.length a.uc] := rfl
  have hB : b.val = .agg #[.slice b.sA b.f.length b.sc, .slice b.uA b.l.length b.uc] := rfl
  rw [hA, hB]
  rw [hA] at u1
  rw [hB] at u2
  have HF := Lib.hid (show ∀ (E : Int) (x : Ending) (w' : World), codeSt f a b E → ¬ StartOk f a b → x = .returned (.tuple #[Mg.nil.val, .int .i64 E]) → Below w.heap.size w w' → Started2C f a b w x w' from fun E x w' h1 h2 h3 h4 => ⟨Mg.nil, E, h3, .inr ⟨h1, rfl, h2⟩, mg_nil_in _ _, mg_nil_ok, mg_nil_lo _, h4, rfl, rfl⟩)
  have HP := Lib.hid (show ∀ (m : Mg) (x : Ending) (w' : World), StartOk f a b → x = .returned (.tuple #[m.val, .int .i64 0]) → m.a.map Up.p = a.l.map Up.p ∧ m.b.map Up.p = b.l.map Up.p ∧ m.i = 0 ∧ m.j = 0 ∧ m.f = f ∧ m.o = [] → MgIn w' w'.heap.size m → MgOk m → MgLo w.heap.size m → Below w.heap.size w w' → m.ac = m.a.length ∧ m.bc = m.b.length → Started2C f a b w x w' from fun m x w' h1 h2 h3 h4 h5 h6 h7 h8 => ⟨m, 0, h2, .inl ⟨rfl, h1, h3⟩, h4, h5, h6, h7, h8⟩)
  clear hf hfo ha oa hb ob hvb hv1 hv2 hv3 hia hib hif hfV hca hcb hbf hla hlb n1 m1 m2 m3 hZ hA hB na nb
  go_enter Tryz.func111, Tryz.ntmps111
  go_upto_region 1 with fail
  rw [← hV]
  clear hV
  obtain ⟨a0, a1⟩ := hX ⟨V, Below.refl _ _⟩
  obtain ⟨b0, b1⟩ := hY ⟨V, Below.refl _ _⟩
  dsimp only at a0 a1 b0 b1
  go_wp2_with fail
  refine (u1 ⟨V, Below.refl _ _⟩).mono ?_
  rintro _ _ ⟨rfl, ⟨p1, rfl⟩⟩
  clear a0 a1 b0 b1 u1
  obtain ⟨a0, a1⟩ := hX p1
  obtain ⟨b0, b1⟩ := hY p1
  by_cases h1 : ca = 0
  case neg =>
    have t1 : (ca != 0) = true := bne_iff_ne.2 h1
    have hz := HZ.out p1
    obtain ⟨f0, f1, f2, f3, f4, f5⟩ := own_frozen6 hz
    obtain ⟨z0, z1, z2, z3, z4, z5⟩ := own6 hz
    obtain ⟨X, hX', hXo, hXb, hXs, hXh⟩ := own_six hz (.slice none 0 0) (.slice none 0 0) (.int .i64 0) (.int .i64 0) (.slice none 0 0) (.slice none 0 0)
    have HX := Lib.hid (And.intro (hXb w.heap.size w (HB.out.trans (p1.h.mono HB.out.size)) (by omega)) hXo)
    have HN := Lib.hid (show ¬ StartOk f a b from fun h => by rcases HC.out.1 with ⟨_, e⟩ | ⟨e, _⟩; exact h1 e; exact e h.1)
    have HCD := Lib.hid (show codeSt f a b 4 from .inl ⟨rfl, fun h => by rcases HC.out.1 with ⟨_, e⟩ | ⟨e, _⟩; exact h1 e; exact e h.1⟩)
    have HR := Lib.hid hX'
    clear hz hXo hXb hXs hXh hX' h1 u2 u3 u4 u5
    go_wp2_with fail
    rw [← HR.out]
    obtain ⟨x0, x1, x2, x3, x4, x5⟩ := own6 HX.out.2
    exact bodyPost_ret (v := .tuple #[.agg #[.slice none 0 0, .slice none 0 0, .int .i64 0, .int .i64 0, .slice none 0 0, .slice none 0 0], .int .i64 4]) (by simp [results, Tryz.results111, go_sem, x0, x1, x2, x3, x4, x5]) rfl (HF.out 4 _ _ HCD.out HN.out rfl HX.out.1)
  subst h1
  go_wp2_with fail
  refine (u2 p1).mono ?_
  rintro _ _ ⟨rfl, ⟨p2, rfl⟩⟩
  clear a0 a1 b0 b1 u2
  obtain ⟨a0, a1⟩ := hX p2
  obtain ⟨b0, b1⟩ := hY p2
  by_cases h2 : cb = 0
  case neg =>
    have t1 : (cb != 0) = true := bne_iff_ne.2 h2
    have hz := HZ.out p2
    obtain ⟨f0, f1, f2, f3, f4, f5⟩ := own_frozen6 hz
    obtain ⟨z0, z1, z2, z3, z4, z5⟩ := own6 hz
    obtain ⟨X, hX', hXo, hXb, hXs, hXh⟩ := own_six hz (.slice none 0 0) (.slice none 0 0) (.int .i64 0) (.int .i64 0) (.slice none 0 0) (.slice none 0 0)
    have HX := Lib.hid (And.intro (hXb w.heap.size w (HB.out.trans (p2.h.mono HB.out.size)) (by omega)) hXo)
    have HN := Lib.hid (show ¬ StartOk f a b from fun h => by rcases HC.out.2.1 with ⟨_, e⟩ | ⟨e, _⟩; exact h2 e; exact e h.2.1)
    have HCD := Lib.hid (show codeSt f a b 4 from .inl ⟨rfl, fun h => by rcases HC.out.2.1 with ⟨_, e⟩ | ⟨e, _⟩; exact h2 e; exact e h.2.1⟩)
    have HR := Lib.hid hX'
    clear hz hXo hXb hXs hXh hX' h2 u3 u4 u5
    go_wp2_with fail
    rw [← HR.out]
    obtain ⟨x0, x1, x2, x3, x4, x5⟩ := own6 HX.out.2
    exact bodyPost_ret (v := .tuple #[.agg #[.slice none 0 0, .slice none 0 0, .int .i64 0, .int .i64 0, .slice none 0 0, .slice none 0 0], .int .i64 4]) (by simp [results, Tryz.results111, go_sem, x0, x1, x2, x3, x4, x5]) rfl (HF.out 4 _ _ HCD.out HN.out rfl HX.out.1)
  subst h2
  go_wp2_with fail
  refine (u3 p2).mono ?_
  rintro _ _ ⟨rfl, ⟨p3, rfl⟩⟩
  clear a0 a1 b0 b1 u3
  obtain ⟨a0, a1⟩ := hX p3
  obtain ⟨b0, b1⟩ := hY p3
  cases bf with
  | false =>
    have hz := HZ.out p3
    obtain ⟨f0, f1, f2, f3, f4, f5⟩ := own_frozen6 hz
    obtain ⟨z0, z1, z2, z3, z4, z5⟩ := own6 hz
    obtain ⟨X, hX', hXo, hXb, hXs, hXh⟩ := own_six hz (.slice none 0 0) (.slice none 0 0) (.int .i64 0) (.int .i64 0) (.slice none 0 0) (.slice none 0 0)
    have HX := Lib.hid (And.intro (hXb w.heap.size w (HB.out.trans (p3.h.mono HB.out.size)) (by omega)) hXo)
    have HN := Lib.hid (show ¬ StartOk f a b from fun h => by have := HC.out.2.2.1.2 h.2.2.1; cases this)
    have HCD := Lib.hid (show codeSt f a b 4 from .inl ⟨rfl, fun h => by have := HC.out.2.2.1.2 h.2.2; cases this⟩)
    have HR := Lib.hid hX'
    clear hz hXo hXb hXs hXh hX' u4 u5
    go_wp2_with fail
    rw [← HR.out]
    obtain ⟨x0, x1, x2, x3, x4, x5⟩ := own6 HX.out.2
    exact bodyPost_ret (v := .tuple #[.agg #[.slice none 0 0, .slice none 0 0, .int .i64 0, .int .i64 0, .slice none 0 0, .slice none 0 0], .int .i64 4]) (by simp [results, Tryz.results111, go_sem, x0, x1, x2, x3, x4, x5]) rfl (HF.out 4 _ _ HCD.out HN.out rfl HX.out.1)
  | true =>
  go_wp2_with fail
  refine (u4 p3).mono ?_
  rintro _ _ ⟨rfl, ⟨p4, rfl⟩⟩
  clear a0 a1 b0 b1 u4
  obtain ⟨a0, a1⟩ := hX p4
  obtain ⟨b0, b1⟩ := hY p4
  cases la with
  | false =>
    have hz := HZ.out p4
    obtain ⟨f0, f1, f2, f3, f4, f5⟩ := own_frozen6 hz
    obtain ⟨z0, z1, z2, z3, z4, z5⟩ := own6 hz
    obtain ⟨X, hX', hXo, hXb, hXs, hXh⟩ := own_six hz (.slice none 0 0) (.slice none 0 0) (.int .i64 0) (.int .i64 0) (.slice none 0 0) (.slice none 0 0)
    have HX := Lib.hid (And.intro (hXb w.heap.size w (HB.out.trans (p4.h.mono HB.out.size)) (by omega)) hXo)
    have HN := Lib.hid (show ¬ StartOk f a b from fun h => by have := HC.out.2.2.2.1.2 h.2.2.2.1; cases this)
    have HCD := Lib.hid (show codeSt f a b 1 from .inr ⟨rfl, by rcases HC.out.1 with ⟨e, _⟩ | ⟨_, e⟩; exact e; omega, by rcases HC.out.2.1 with ⟨e, _⟩ | ⟨_, e⟩; exact e; omega, HC.out.2.2.1.1 (by first | trivial | rfl)⟩)
    have HR := Lib.hid hX'
    clear hz hXo hXb hXs hXh hX' u5
    go_wp2_with fail
    rw [← HR.out]
    obtain ⟨x0, x1, x2, x3, x4, x5⟩ := own6 HX.out.2
    exact bodyPost_ret (v := .tuple #[.agg #[.slice none 0 0, .slice none 0 0, .int .i64 0, .int .i64 0, .slice none 0 0, .slice none 0 0], .int .i64 1]) (by simp [results, Tryz.results111, go_sem, x0, x1, x2, x3, x4, x5]) rfl (HF.out 1 _ _ HCD.out HN.out rfl HX.out.1)
  | true =>
  go_wp2_with fail
  refine (u5 p4).mono ?_
  rintro _ _ ⟨rfl, ⟨p5, rfl⟩⟩
  clear a0 a1 b0 b1 u5
  obtain ⟨a0, a1⟩ := hX p5
  obtain ⟨b0, b1⟩ := hY p5
  cases lb with
  | false =>
    have hz := HZ.out p5
    obtain ⟨f0, f1, f2, f3, f4, f5⟩ := own_frozen6 hz
    obtain ⟨z0, z1, z2, z3, z4, z5⟩ := own6 hz
    obtain ⟨X, hX', hXo, hXb, hXs, hXh⟩ := own_six hz (.slice none 0 0) (.slice none 0 0) (.int .i64 0) (.int .i64 0) (.slice none 0 0) (.slice none 0 0)
    have HX := Lib.hid (And.intro (hXb w.heap.size w (HB.out.trans (p5.h.mono HB.out.size)) (by omega)) hXo)
    have HN := Lib.hid (show ¬ StartOk f a b from fun h => by have := HC.out.2.2.2.2.2 h.2.2.2.2; cases this)
    have HCD := Lib.hid (show codeSt f a b 1 from .inr ⟨rfl, by rcases HC.out.1 with ⟨e, _⟩ | ⟨_, e⟩; exact e; omega, by rcases HC.out.2.1 with ⟨e, _⟩ | ⟨_, e⟩; exact e; omega, HC.out.2.2.1.1 (by first | trivial | rfl)⟩)
    have HR := Lib.hid hX'
    clear hz hXo hXb hXs hXh hX' hX
    go_wp2_with fail
    rw [← HR.out]
    obtain ⟨x0, x1, x2, x3, x4, x5⟩ := own6 HX.out.2
    exact bodyPost_ret (v := .tuple #[.agg #[.slice none 0 0, .slice none 0 0, .int .i64 0, .int .i64 0, .slice none 0 0, .slice none 0 0], .int .i64 1]) (by simp [results, Tryz.results111, go_sem, x0, x1, x2, x3, x4, x5]) rfl (HF.out 1 _ _ HCD.out HN.out rfl HX.out.1)
  | true =>
  have hst : StartOk f a b := by
    refine ⟨?_, ?_, HC.out.2.2.1.1 trivial, HC.out.2.2.2.1.1 trivial, HC.out.2.2.2.2.1 rfl⟩
    · rcases HC.out.1 with ⟨e, _⟩ | ⟨_, e⟩
      · exact e
      · omega
    · rcases HC.out.2.1 with ⟨e, _⟩ | ⟨_, e⟩
      · exact e
      · omega
  obtain ⟨U, hU⟩ : ∃ U, U = p5.w := ⟨_, rfl⟩
  have hUb : Below V.heap.size V U := hU ▸ p5.h
  have hza := HI.out.1.keep hUb
  have hzb := HI.out.2.1.keep hUb
  have hzf := (HI.out.2.2.past hUb (Nat.le_refl _)).wide hUb.size
  have hzz : Own U (w.heap.size + 2) 127 Mg.nil.cells := hU ▸ HZ.out p5
  rw [← hU] at a0 a1 b0 b1
  have y1 := fun W (h : Bl U W) => Lib.hid (copyUps_any a.uA a.uc a.l W (hza.keep h).ups HOK.out.2.1.l hst.1.2.1.2.2 HOK.out.2.2.1)
  have y2 := fun W (h : Bl U W) => Lib.hid (copyUps_any b.uA b.uc b.l W (hzb.keep h).ups HOK.out.2.2.2.1.l hst.2.1.2.1.2.2 HOK.out.2.2.2.2)
  have y3 := fun W (h : Bl U W) => Lib.hid (listT_times A c f W ((hzf.past h (Nat.le_refl _)).wide h.size) (by have := HOK.out.1.n; omega))
  have HS := Lib.hid (fun W (h : Bm (w.heap.size + 2) U W) => And.intro ((Below.cell (p := ⟨w.heap.size, 1, none⟩) h (by show w.heap.size < _; omega)).trans a1) ((Below.cell (p := ⟨w.heap.size + 1, 1, none⟩) h (by show w.heap.size + 1 < _; omega)).trans b1))
  have hbs : w.heap.size + 2 ≤ U.heap.size := Nat.le_of_lt hzz.inside
  have HT := Lib.hid (fun W (h : Bl U W) => hzz.past h hzz.inside)
  have HU := Lib.hid (And.intro (HB.out.trans (hUb.mono HB.out.size)) (And.intro hst hzz.inside))
  have hself := Bl.refl U
  clear hza hzb hzf hzz hUb hst hX hY a0 b0
  go_upto_region 5 with fail
  rw [← hU]
  clear hU
  go_region_held3 (fun w' => Bm (w.heap.size + 2) U w' ∧ (w'.cell? ⟨w.heap.size, 1, none⟩ = some (.slice a.uA a.l.length a.uc) ∧ w'.cell? ⟨w.heap.size + 1, 1, none⟩ = some (.slice b.uA b.l.length b.uc)))
    ((refine (fun h => And.intro h (HS.out _ h)) ?_; repeat (first | with_reducible exact Bm.of hb3 hbs | with_reducible exact Bm.of hb2 hbs | with_reducible exact Bm.of hb1 hbs | with_reducible exact Bm.of hself hbs | with_reducible refine Bm.set ?_ (Nat.le_refl _) _ _ | with_reducible refine Bm.more ?_ hbs _ | with_reducible refine Bm.drew ?_)))
    (first | (go_at_call 39; refine (y3 _ hb2).out.mono ?_; rintro _ w3 ⟨A3, rfl, v3, n3, b3⟩; have hb3 : Bl U w3 := Bl.call hb2 b3; have v1 := v1.keep b3; have v2 := v2.keep b3; obtain ⟨f0, f1, f2, f3, f4, f5⟩ := own_frozen6 (HT.out _ hb3); obtain ⟨e0, e1, e2, e3, e4, e5⟩ := own6 (HT.out _ hb3)) | (go_at_call 97; have hq := hb1; refine (y2 _ hb1).out.mono ?_; rintro _ w2 ⟨A2, l2, rfl, p2', v2, o2, n2, b2, _⟩; have hb2 : Bl U w2 := Bl.call hb1 b2; have v1 := v1.keep b2) | (go_at_call 97; refine (y1 _ hself.drew).out.mono ?_; rintro _ w1 ⟨A1, l1, rfl, p1', v1, o1, n1, b1', _⟩; have hb1 : Bl U w1 := Bl.call hself.drew b1'))
  obtain ⟨X, hX', hXo, hXb, hXs, hXh⟩ := own_six (HT.out _ hb3) (.slice A1 l1.length l1.length) (.slice A2 l2.length l2.length) (.int .i64 0) (.int .i64 0) (.slice A3 f.length f.length) (.slice none 0 0)
  have s1 : U.heap.size ≤ w1.heap.size := hb1.below.size
  have s2 : U.heap.size ≤ w2.heap.size := hb2.below.size
  have s0 : w.heap.size + 2 < U.heap.size := HU.out.2.2
  have n1' : U.drew.heap.size = U.heap.size := rfl
  have HX := Lib.hid (And.intro (hXb w.heap.size w (HU.out.1.trans (hb3.below.mono HU.out.1.size)) (by omega)) hXo)
  have HQ := Lib.hid (show MgIn X X.heap.size ⟨A1, l1.length, l1, A2, l2.length, l2, 0, 0, A3, f.length, f, none, 0, []⟩ from ⟨ups_other v1 (n1.mono (by omega)) hXs hXh, ups_other v2 (n2.mono (by omega)) hXs hXh, times_other v3 (fun b o e => by have h1 := (n3 b o e).1; omega) hXs hXh, ⟨Lies.nil_, fun u hu => by cases hu⟩⟩)
  have HN := Lib.hid (show MgLo w.heap.size ⟨A1, l1.length, l1, A2, l2.length, l2, 0, 0, A3, f.length, f, none, 0, []⟩ from ⟨n1.mono (by omega), n2.mono (by omega), fun b o e => (by have h1 := (n3 b o e).1; omega), lo_nil _⟩)
  have HK := Lib.hid (show MgOk ⟨A1, l1.length, l1, A2, l2.length, l2, 0, 0, A3, f.length, f, none, 0, []⟩ from ⟨⟨by show l1.length ≤ _; rw [len_p p1']; exact HOK.out.2.1.l.n, o1⟩, ⟨by show l2.length ≤ _; rw [len_p p2']; exact HOK.out.2.2.2.1.l.n, o2⟩, ⟨HOK.out.1.n, Nat.le_refl _, Nat.le_trans HOK.out.1.le HOK.out.1.c_⟩, us_nil, ⟨by show -9223372036854775808 ≤ (0 : Int); omega, by show (0 : Int) ≤ 9223372036854775807; omega⟩, ⟨by show -9223372036854775808 ≤ (0 : Int); omega, by show (0 : Int) ≤ 9223372036854775807; omega⟩⟩)
  have HM := Lib.hid (And.intro p1' p2')
  have HR := Lib.hid hX'
  clear hX' hXo hXb hXs hXh e0 e1 e2 e3 e4 e5 v1 v2 v3 n1 n2 n3 o1 o2 p1' p2' s1 s2 s0 n1' y1 y2 y3 hq a1 b1
  go_wp2_with fail
  rw [← HR.out]
  obtain ⟨x0, x1, x2, x3, x4, x5⟩ := own6 HX.out.2
  exact bodyPost_ret (v := .tuple #[.agg #[.slice A1 l1.length l1.length, .slice A2 l2.length l2.length, .int .i64 0, .int .i64 0, .slice A3 f.length f.length, .slice none 0 0], .int .i64 0]) (by simp [results, Tryz.results111, go_sem, x0, x1, x2, x3, x4, x5]) rfl (HP.out ⟨A1, l1.length, l1, A2, l2.length, l2, 0, 0, A3, f.length, f, none, 0, []⟩ _ _ HU.out.2.1 rfl ⟨HM.out.1, HM.out.2, rfl, rfl, rfl, rfl⟩ HQ.out HK.out HN.out HX.out.1 ⟨rfl, rfl⟩)
theorem cls_pow {n k : Nat} (h : n < 2 ^ k) : clsN n ≤ k := by
  unfold clsN
  split
  · omega
  · rename_i h0
    have := (Nat.log2_lt h0).2 h
    omega
theorem ofm_nil (S : Nat → Prop) : OfM S Mg.nil := ⟨⟨fun hp => absurd hp (by decide), fun u hu => (by cases hu)⟩, ⟨fun hp => absurd hp (by decide), fun u hu => (by cases hu)⟩, fun hp => absurd hp (by decide), ⟨fun hp => absurd hp (by decide), fun u hu => (by cases hu)⟩⟩
theorem ofb_nil (S : Nat → Prop) : OfB S Bt.nil := ⟨fun hp => absurd hp (by decide), ⟨fun hp => absurd hp (by decide), fun u hu => (by cases hu)⟩⟩
theorem fall_len : ∀ {L : List Lv} {c : Int}, L.Pairwise (fun x y => y.cls < x.cls) → (∀ l ∈ L, 1 ≤ l.cls) → (∀ l ∈ L, l.cls ≤ c) → 0 ≤ c → (L.length : Int) ≤ c
  | [], c, _, _, _, h => h
  | x :: L, c, h, hp, hc, _ => by
    have h1 := List.pairwise_cons.1 h
    have h2 := hp x List.mem_cons_self
    have h3 := hc x List.mem_cons_self
    have := fall_len (c := x.cls - 1) h1.2 (fun l hl => hp l (List.mem_cons_of_mem _ hl)) (fun l hl => by have := h1.1 l hl; omega) (by omega)
    rw [List.length_cons]
    omega
theorem SpGood.cls_ {f : List Tm} {L : List Lv} (h : SpGood f L) (ok : ∀ l ∈ L, LvOk l) : ∀ l ∈ L, l.cls ≤ 41 := fun l hl => by
  have g := h.each l hl
  have o := ok l hl
  cases hb : l.busy
  · have := (g.idle hb).2.2.1
    have := cls_pow (n := l.b.l.length) (k := 41) (by have := o.b.l.n; omega)
    omega
  · have := (g.busy hb).2.2.2.1
    have := cls_pow (n := l.m.a.length) (k := 41) (by have := o.m.a.n; omega)
    omega
theorem SpGood.few {f : List Tm} {L : List Lv} (h : SpGood f L) (ok : ∀ l ∈ L, LvOk l) : L.length ≤ 41 := by
  have := fall_len h.fall h.pos (h.cls_ ok) (by decide)
  omega
theorem wt_le {L : List Lv} {l : Lv} (h : l ∈ L) : wtL l ≤ wtS L := by
  unfold wtS
  induction L with
  | nil => cases h
  | cons x L ih =>
    rw [List.map_cons, List.sum_cons]
    rcases List.mem_cons.1 h with rfl | h
    · exact Nat.le_add_right _ _
    · have := ih h; omega
def AllFr (f : List Tm) (L : List Lv) : Prop := ∀ l ∈ L, l.busy = true → l.m.i = 0 ∧ l.m.j = 0 ∧ l.m.o = [] ∧ l.m.f = f
def FailS (L : List Lv) : Prop := busyN L ≠ 0 ∧ (busyN L ≤ 1 → ∃ l ∈ L, l.busy = true ∧ consE [advL l.m.f (partsM l.m)] = 10)
def HasB (L : List Lv) (n : Nat) : Prop := ∃ l ∈ L, (l.busy = false ∧ l.b.l.length = n) ∨ (l.busy = true ∧ (l.m.a.length = n ∨ l.m.b.length = n))
structure HasTo (f : List Tm) (L L' : List Lv) (q : Nat) : Prop where
  new : busyN L ≤ 1 → q ≠ 0 → HasB L' q
  old : busyN L = 0 → ∀ n, HasB L n → HasB L' n
  fr : AllFr f L → AllFr f L'
theorem HasTo.refl (f : List Tm) (L : List Lv) : HasTo f L L 0 := ⟨fun _ h => absurd rfl h, fun _ _ h => h, fun h => h⟩
theorem has_new (f : List Tm) (L : List Lv) (i : Nat) (b : Bt) (c : Int) : HasTo f L (L.take i ++ ⟨c, false, b, Mg.nil⟩ :: L.drop i) b.l.length := ⟨fun _ _ => ⟨_, List.mem_append_right _ List.mem_cons_self, .inl ⟨rfl, rfl⟩⟩, fun _ n ⟨l, hl, h⟩ => ⟨l, by
  rw [← List.take_append_drop i L] at hl
  rcases List.mem_append.1 hl with hl | hl
  · exact List.mem_append_left _ hl
  · exact List.mem_append_right _ (List.mem_cons_of_mem _ hl), h⟩, fun h l hl hb => by
  rcases List.mem_append.1 hl with hl | hl
  · exact h l (List.mem_of_mem_take hl) hb
  · rcases List.mem_cons.1 hl with rfl | hl
    · cases hb
    · exact h l (List.mem_of_mem_drop hl) hb⟩
theorem has_start {f : List Tm} {L : List Lv} {p : Nat} {l : Lv} {m : Mg} {q : Nat} (hl : L[p]? = some l) (hidle : l.busy = false) (ha : m.a.length = l.b.l.length) (hb : m.b.length = q) (h0 : m.i = 0) (h1 : m.j = 0) (h2 : m.o = []) (h3 : m.f = f) : HasTo f L (L.set p ⟨l.cls, true, Bt.nil, m⟩) q := by
  have hlt := (List.getElem?_eq_some_iff.1 hl).1
  have hmem : (⟨l.cls, true, Bt.nil, m⟩ : Lv) ∈ L.set p ⟨l.cls, true, Bt.nil, m⟩ := List.mem_of_getElem? (i := p) (by rw [List.getElem?_set_self hlt])
  refine ⟨fun _ _ => ⟨_, hmem, .inr ⟨rfl, .inr hb⟩⟩, fun _ n ⟨x, hx, h⟩ => ?_, fun h x hx hb => by
    rcases List.mem_or_eq_of_mem_set hx with hx | rfl
    · exact h x hx hb
    · exact ⟨h0, h1, h2, h3⟩⟩
  obtain ⟨i, hi⟩ := List.getElem?_of_mem hx
  by_cases e : i = p
  · subst e
    rw [hl] at hi
    injection hi with hi
    subst hi
    rcases h with ⟨_, h⟩ | ⟨h, _⟩
    · exact ⟨_, hmem, .inr ⟨rfl, .inl (ha.trans h)⟩⟩
    · rw [hidle] at h; cases h
  · exact ⟨x, List.mem_of_getElem? (i := i) (by rw [List.getElem?_set_ne (Ne.symm e)]; exact hi), h⟩
structure PutOut (base g : Nat) (s : Sp) (X : List Up) (n wt : Nat) (w w' : World) (s' : Sp) : Prop where
  wk : Wk w' base g s'
  h1 : s'.sA = s.sA
  h2 : s'.sc = s.sc
  h3 : s'.f = s.f
  lA : blkS s'.lA = blkS s.lA ∨ ∃ q, blkS s'.lA = some q ∧ w.heap.size ≤ q
  put : PutTo s.f s.L s'.L X n wt
  has : HasTo s.f s.L s'.L X.length
def PutSays (base g : Nat) (s : Sp) (b : Bt) (w : World) (x : Ending) (w' : World) : Prop :=
  ∃ E : Int, x = .returned (.int .i64 E) ∧ KeptK w w' (SpS g s.lA) ∧ (E = 0 ∧ (∃ s', PutOut base g s b.l 1 b.l.length w w' s') ∨ E = 10 ∧ FailS s.L)
structure PutIn (base g : Nat) (s : Sp) (b : Bt) (w : World) : Prop where
  wk : Wk w base g s
  good : SpGood s.f s.L
  bin : BtIn w w.heap.size b
  bok : BtOk b
  boff : OfB (SpS g s.lA) b
  blo : BtLo base b
  right : BatchOk b.f b.l
  later : LaterF s.f b.f
  wt : wtS s.L + b.l.length ≤ 274877906944
theorem PutIn.past {base g : Nat} {s : Sp} {b : Bt} {w w' : World} (h : PutIn base g s b w) (hb : Below w.heap.size w w') : PutIn base g s b w' := ⟨h.wk.past hb, h.good, h.bin.keep hb, h.bok, h.boff, h.blo, h.right, h.later, h.wt⟩
theorem put_level {base g i c' : Nat} {s : Sp} {b : Bt} {c : Int} {W V W2 : World} {A' : Option Addr} (h : PutIn base g s b W) (hi : i ≤ s.L.length) (hc : (clsN b.l.length : Int) = c) (hb1 : ∀ l ∈ s.L.take i, c < l.cls) (hb2 : ∀ l ∈ s.L.drop i, l.cls < c) (h0 : b.l.length ≠ 0) (hV : Below W.heap.size W V)
    (hr : W2.ownsRow base 129 10 (.slice A' (s.L.length + 1) c') (s.L.length + 1) ((s.L.flatMap Lv.cells).take (i * 10) ++ (⟨c, false, b, Mg.nil⟩ : Lv).cells ++ (s.L.flatMap Lv.cells).drop (i * 10))) (hg : V.grownBy W2 (Value.slice s.lA s.L.length s.lc).ownBlock)
    (hA : (Value.slice A' (s.L.length + 1) c').ownBlock = (Value.slice s.lA s.L.length s.lc).ownBlock ∨ (Value.slice A' (s.L.length + 1) c').ownBlock = some V.heap.size) :
    KeptK W (W2.setCell ⟨g, 1, none⟩ (.slice A' (s.L.length + 1) c')) (SpS g s.lA) ∧ ∃ s', PutOut base g s b.l 1 b.l.length W (W2.setCell ⟨g, 1, none⟩ (.slice A' (s.L.length + 1) c')) s' ∧ busyN s'.L = busyN s.L := by
  have hcn : clsN b.l.length ≤ 41 := cls_pow (by have := h.bok.l.n; omega)
  have h1 : 1 ≤ clsN b.l.length := by have := (cls_zero (n := b.l.length)).1; omega
  have hin : LvIn W W.heap.size ⟨c, false, b, Mg.nil⟩ := ⟨h.bin, mg_nil_in _ _⟩
  have hof : OfL (SpS g s.lA) ⟨c, false, b, Mg.nil⟩ := ⟨h.boff, ofm_nil _⟩
  have hok : LvOk ⟨c, false, b, Mg.nil⟩ := ⟨by show _ ≤ c ∧ c ≤ _; omega, h.bok, mg_nil_ok, mc_nil⟩
  have hfew := h.good.few h.wk.ok.each_
  obtain ⟨k1, k2, k3⟩ := h.wk.insert hin hof hok ⟨h.blo, mg_nil_lo _⟩ (by omega) hi hV hr hg hA
  refine ⟨k2, _, ⟨k1, rfl, rfl, rfl, k3, put_new h.good h.right h.later hc (by omega) hb1 hb2, has_new s.f s.L i b c⟩, ?_⟩
  have e : busyN s.L = busyN (s.L.take i) + busyN (s.L.drop i) := by rw [← busyN_app, List.take_append_drop]
  show busyN (s.L.take i ++ ⟨c, false, b, Mg.nil⟩ :: s.L.drop i) = _
  rw [busyN_app, busyN_cons, e]
  show _ + ((if false = true then 1 else 0) + _) = _
  rw [if_neg (by decide)]
  omega
structure NewM (f : List Tm) (a b : Bt) (m : Mg) : Prop where
  a_ : m.a.map Up.p = a.l.map Up.p
  b_ : m.b.map Up.p = b.l.map Up.p
  i_ : m.i = 0
  j_ : m.j = 0
  f_ : m.f = f
  o_ : m.o = []
theorem start_good (A : Option Addr) (c : Nat) (f : List Tm) (a b : Bt) (w : World) (hf : Times w w.heap.size A f) (hfo : TsOk f c) (ha : BtIn w w.heap.size a) (oa : BtOk a) (na : a.l.length ≤ 274877906944) (hb : BtIn w w.heap.size b) (ob : BtOk b) (nb : b.l.length ≤ 274877906944) (hs : StartOk f a b) :
    Calls Tryz.prog 111 #[.slice A f.length c, a.val, b.val] w fun x w' => ∃ m : Mg, x = .returned (.tuple #[m.val, .int .i64 0]) ∧ NewM f a b m ∧ MgIn w' w'.heap.size m ∧ MgOk m ∧ MgLo w.heap.size m ∧ Below w.heap.size w w' ∧ McOk m :=
  (start_any2C A c f a b w hf hfo ha oa na hb ob nb).mono fun x w' ⟨m, E, h1, h2, h3, h4, h5, h6, h7⟩ => by
    rcases h2 with ⟨rfl, _, k1, k2, k3, k4, k5, k6⟩ | ⟨_, _, k⟩
    · exact ⟨m, h1, ⟨k1, k2, k3, k4, k5, k6⟩, h3, h4, h5, h6, mc_of h4 h7⟩
    · exact absurd hs k
theorem put_merge {base g p G : Nat} {s : Sp} {b : Bt} {l : Lv} {m : Mg} {W : World} (h : PutIn base g s b W) (hl : s.L[p]? = some l) (hidle : l.busy = false) (hcl : l.cls = (clsN b.l.length : Int)) (hn : NewM s.f l.b b m) (im : MgIn W W.heap.size m) (om : MgOk m) (hof : OfM (SpS g s.lA) m) (lom : MgLo base m) (cm : McOk m) (hA : s.lA = some ⟨G, 0, none⟩) :
    KeptK W (setsAt W G (p * 10) (⟨l.cls, true, Bt.nil, m⟩ : Lv).cells) (SpS g s.lA) ∧ ∃ s', PutOut base g s b.l 1 b.l.length W (setsAt W G (p * 10) (⟨l.cls, true, Bt.nil, m⟩ : Lv).cells) s' := by
  have hlt := (List.getElem?_eq_some_iff.1 hl).1
  obtain ⟨k1, k2⟩ := h.wk.level (i := p) (l := ⟨l.cls, true, Bt.nil, m⟩) ⟨bt_nil_in _ _, im⟩ ⟨ofb_nil _, hof⟩ ⟨(h.wk.ok.each_ l (List.mem_of_getElem? hl)).c, bt_nil_ok, om, cm⟩ ⟨bt_nil_lo _, lom⟩ hlt hA
  exact ⟨k2, _, k1, rfl, rfl, rfl, .inl rfl, put_start h.good hl hidle h.right h.later hcl.symm hn.a_ hn.b_ hn.i_ hn.j_ hn.f_ hn.o_, has_start hl hidle (len_p hn.a_) (len_p hn.b_) hn.i_ hn.j_ hn.o_ hn.f_⟩
theorem PutOut.first {base g n wt : Nat} {s s' : Sp} {X : List Up} {w w1 w2 : World} (hb : Below w.heap.size w w1) (k : PutOut base g s X n wt w1 w2 s') : PutOut base g s X n wt w w2 s' := by
  refine ⟨k.wk, k.h1, k.h2, k.h3, ?_, k.put, k.has⟩
  rcases k.lA with e | ⟨q, e, hq⟩
  · exact .inl e
  · exact .inr ⟨q, e, Nat.le_trans hb.size hq⟩
theorem lvbox1 (w : World) (b : Bt) (c : Int) : Below w.heap.size w (w.alloc (.cells #[.int .i64 c, .bool false, .slice b.sA b.f.length b.sc, .slice b.uA b.l.length b.uc, .slice none 0 0, .slice none 0 0, .int .i64 0, .int .i64 0, .slice none 0 0, .slice none 0 0] 129)).drew ∧ Own (w.alloc (.cells #[.int .i64 c, .bool false, .slice b.sA b.f.length b.sc, .slice b.uA b.l.length b.uc, .slice none 0 0, .slice none 0 0, .int .i64 0, .int .i64 0, .slice none 0 0, .slice none 0 0] 129)).drew w.heap.size 129 (⟨c, false, b, Mg.nil⟩ : Lv).cells :=
  ⟨Below.drew ((Below.refl _ _).alloc (Nat.le_refl _) _), Own.made w _ _⟩
def PutNew (base g : Nat) (s : Sp) (b : Bt) (w : World) (x : Ending) (w' : World) : Prop :=
  x = .returned (.int .i64 0) ∧ KeptK w w' (SpS g s.lA) ∧ ∃ s', PutOut base g s b.l 1 b.l.length w w' s' ∧ busyN s'.L = busyN s.L
theorem PutNew.says {base g : Nat} {s : Sp} {b : Bt} {w w' : World} {x : Ending} (h : PutNew base g s b w x w') : PutSays base g s b w x w' := by
  obtain ⟨h1, h2, s', h3, _⟩ := h
  exact ⟨0, h1, h2, .inl ⟨rfl, s', h3⟩⟩
set_option maxRecDepth 100000 in
set_option maxHeartbeats 12800000 in
theorem put_idle (base g : Nat) (s : Sp) (b : Bt) (l : Lv) (w : World) (h : PutIn base g s b w) (hl : s.L[posC s.L (clsN b.l.length : Int)]? = some l) (hcl : l.cls = (clsN b.l.length : Int)) (hidle : l.busy = false) :
    Calls Tryz.prog 69 #[.pointer (some ⟨g, 0, none⟩), b.val] w (PutSays base g s b w) := by
  obtain ⟨V, hV, hvb, hvs, hvo⟩ := btbox w b
  obtain ⟨c, hc⟩ : ∃ c : Nat, clsN b.l.length = c := ⟨_, rfl⟩
  have y1 := Lib.hid (class_any b.uA b.uc b.l.length V h.bok.l.n)
  rw [hc] at y1
  obtain ⟨d0, d1⟩ := own2 hvo
  have H := Lib.hid h
  have HB := Lib.hid (And.intro hvb hvo)
  have HC := Lib.hid hc
  have hcn : c ≤ 41 := by rw [← hc]; exact cls_pow (by have := h.bok.l.n; omega)
  have hpl := posC_le s.L (c : Int)
  have hfew := h.good.few h.wk.ok.each_
  obtain ⟨p, hp⟩ : ∃ p : Nat, posC s.L (c : Int) = p := ⟨_, rfl⟩
  rw [hc] at hl hcl
  rw [hp] at hl hpl
  have hplt : p < s.L.length := (List.getElem?_eq_some_iff.1 hl).1
  have hn0 : c ≠ 0 := by have := h.good.pos l (List.mem_of_getElem? hl); omega
  have t0 : ((c : Int) == 0) = false := beq_eq_false_iff_ne.2 (by omega)
  have hpi : posI s.L (c : Int) = (p : Int) := by unfold posI; rw [hp, if_neg (by omega)]
  have y2 := fun (V2 : World) (bx : Nat) (hb : Below w.heap.size w V2) (hk : Kin V2 bx (c : Int)) => Lib.hid (indexS_any s.lA s.lc s.L bx (c : Int) V2 (h.wk.past hb).lies.head h.wk.ok.n hk)
  rw [hpi] at y2
  have t1 : ((p : Int) == (s.L.length : Int)) = false := beq_eq_false_iff_ne.2 (by omega)
  have t2 : decide (l.cls < (c : Int)) = false := decide_eq_false (by omega)
  have q0 : ¬ ((p : Int) < 0) := by omega
  have q1 : (0 : Int) ≤ (p : Int) := by omega
  have q2 : (p : Int) < (s.L.length : Int) := by omega
  obtain ⟨G, hGA⟩ : ∃ G : Nat, s.lA = some ⟨G, 0, none⟩ := by
    rcases row_ownK h.wk.row with ⟨_, h9, _⟩ | ⟨G, cur, hA, _⟩
    · omega
    · exact ⟨G, hA⟩
  have hGi : G < w.heap.size := (h.wk.lt G (.inr (by rw [hGA]; rfl))).2
  have HLV := Lib.hid (show ∀ W, Below w.heap.size w W → (∀ (j : Nat) (u : Value), l.cells[j]? = some u → W.cell? ⟨G, p * 10 + j, none⟩ = some u) from fun W hb j u hj => by
    have hW := h.wk.past hb
    obtain ⟨b', o', e, _, hcell⟩ := hW.lies.head (by omega)
    rw [hGA] at e
    simp only [Option.some.injEq, Addr.mk.injEq, and_true] at e
    obtain ⟨rfl, rfl⟩ := e
    have := hcell p l hl j u hj
    rwa [Nat.zero_add] at this)
  have HGA := Lib.hid hGA
  have HIDX := Lib.hid (And.intro hl (And.intro hcl hplt))
  have hLn := h.wk.ok.n
  rw [hGA] at y2
  rw [show b.val = .agg #[.slice b.sA b.f.length b.sc, .slice b.uA b.l.length b.uc] from rfl]
  clear h hvb hvs hvo hc hp hpi hpl hl hcl hplt hfew hn0 hGA
  go_enter Tryz.func69, Tryz.ntmps69
  go_upto_region 1 with fail
  rw [← hV]
  clear hV
  go_wp2_with fail
  refine y1.out.mono ?_
  rintro _ w1 ⟨rfl, b1⟩
  obtain ⟨V2, hV2, hs2, hb2, ho2⟩ := boxd w1 [.int .i64 (c : Int)] 3
  have b12 := belows b1 hb2
  have H2 := Lib.hid (And.intro (belows HB.out.1 b12) (And.intro (HB.out.2.past b12 HB.out.2.inside) (And.intro ho2 (show w.heap.size < w1.heap.size from Nat.lt_of_lt_of_le HB.out.2.inside b1.size))))
  have k0 : V2.cell? ⟨w1.heap.size, 0, none⟩ = some (.int .i64 (c : Int)) := ho2.at_ 0
  clear b1 hs2 hb2 ho2 y1 d0 d1 b12
  go_upto_region 2 with fail
  rw [← hV2]
  clear hV2
  have g0 : V2.cell? ⟨g, 1, none⟩ = some (.slice (some ⟨G, 0, none⟩) s.L.length s.lc) := by rw [← HGA.out]; exact (H.out.wk.past H2.out.1).own.at_ 1
  have hgi : g < V2.heap.size := (H.out.wk.past H2.out.1).own.inside
  have z2 := y2 V2 w1.heap.size H2.out.1 ⟨k0, H2.out.2.2.1.inside⟩
  go_wp2_with fail
  refine z2.out.mono ?_
  rintro _ w3 ⟨rfl, b3⟩
  have H3 := Lib.hid (And.intro (belows H2.out.1 b3) (And.intro (H2.out.2.1.past b3 H2.out.2.1.inside) (And.intro (H2.out.2.2.1.past b3 H2.out.2.2.1.inside) (And.intro H2.out.2.2.2 (Nat.lt_of_lt_of_le H2.out.2.2.1.inside b3.size)))))
  have k1 : w3.cell? ⟨w1.heap.size, 0, none⟩ = some (.int .i64 (c : Int)) := (b3.cell (p := ⟨w1.heap.size, 0, none⟩) H2.out.2.2.1.inside).trans k0
  have g1 : w3.cell? ⟨g, 1, none⟩ = some (.slice (some ⟨G, 0, none⟩) s.L.length s.lc) := (b3.cell (p := ⟨g, 1, none⟩) hgi).trans g0
  have hgi3 : g < w3.heap.size := Nat.lt_of_lt_of_le hgi b3.size
  obtain ⟨e0, e1⟩ := own2 H3.out.2.1
  clear b3 z2 k0 g0 hgi
  have hGi3 : G < w3.heap.size := Nat.lt_of_lt_of_le hGi H3.out.1.size
  have x1 := fun q : Past w3 => (q.h.cell (p := ⟨w1.heap.size, 0, none⟩) H3.out.2.2.2.2).trans k1
  have x3 := fun q : Past w3 => HLV.out q.w (belows H3.out.1 q.h) 0 _ rfl
  simp only [Nat.add_zero] at x3
  have x2 := fun q : Past w3 => (q.h.cell (p := ⟨g, 1, none⟩) hgi3).trans g1
  go_upto_region 7 with fail
  refine wp_region_past w3 (by kernel_rfl) (by kernel_rfl) (Below.refl _ _) ?_
  repeat (first | go_big_quiet_step (fail) | quiet_step (fail))
  refine wpQuiet_nil ?_
  intro wz hw'
  obtain ⟨⟨wy, hbz⟩, hw''⟩ := hw'
  dsimp only at hw''
  subst hw''
  have HZ3 := Lib.hid (And.intro (belows H3.out.1 hbz) (And.intro (H3.out.2.1.past hbz H3.out.2.1.inside) (H3.out.2.2.1.past hbz H3.out.2.2.1.inside)))
  have HW1 := Lib.hid H3.out.2.2.2.1
  have g1 := x2 ⟨wz, hbz⟩
  have k1 := (hbz.cell (p := ⟨w1.heap.size, 0, none⟩) H3.out.2.2.2.2).trans k1
  have hgi3 : g < wz.heap.size := Nat.lt_of_lt_of_le hgi3 hbz.size
  obtain ⟨e0, e1⟩ := own2 (H3.out.2.1.past hbz H3.out.2.1.inside)
  dsimp only at g1
  clear x1 x2 x3 hbz hGi3
  go_upto_region 10 with fail
  obtain ⟨r0, r1, r2, r3, r4, r5, r6, r7, r8, r9⟩ := lv_ten (HLV.out wz HZ3.out.1)
  have hGz : G < wz.heap.size := Nat.lt_of_lt_of_le hGi HZ3.out.1.size
  obtain ⟨V5, hV5, hb5, hs5, ho5⟩ := lvbox wz l
  obtain ⟨f0, f1, f2, f3, f4, f5, f6, f7, f8, f9⟩ := own10 ho5
  have H5 := Lib.hid (And.intro (belows HZ3.out.1 hb5) (And.intro (HZ3.out.2.1.past hb5 HZ3.out.2.1.inside) (And.intro (HZ3.out.2.2.past hb5 HZ3.out.2.2.inside) (And.intro ho5 (Nat.lt_of_lt_of_le HZ3.out.2.2.inside hb5.size)))))
  rw [hidle] at r1 f1 hV5
  go_upto_region 11 with fail
  rw [← hV5]
  clear hV5 r0 r1 r2 r3 r4 r5 r6 r7 r8 r9 e0 e1 g1 k1 hgi3
  go_upto_region 12 with fail
  have hwk5 := H.out.wk.past H5.out.1
  have hLl := List.mem_of_getElem? HIDX.out.1
  have hgd := (H.out.good.each l hLl).idle hidle
  have hst : StartOk s.f l.b b := ⟨hgd.2.1, H.out.right, H.out.good.front, hgd.2.2.2, H.out.later⟩
  have hlv := hwk5.lev l hLl
  have hlo := hwk5.ok.each_ l hLl
  have hwt := H.out.wt
  have hwl := wt_le hLl
  have hwtl : wtL l = l.b.l.length := by unfold wtL; rw [if_neg (by rw [hidle]; decide)]
  have z := fun W (h : Bl V5 W) => Lib.hid (start_good s.sA s.sc s.f l.b b W ((hwk5.since.past h.below (Nat.le_refl _)).wide h.below.size) hwk5.ok.f (hlv.b.keep h) hlo.b (by omega) ((H.out.bin.keep H5.out.1).keep h) H.out.bok (by omega) hst)
  have hself := Bl.refl V5
  have hbs : V5.heap.size ≤ V5.heap.size := Nat.le_refl _
  have HS := Lib.hid (show ∀ W, Bm V5.heap.size V5 W → W.cell? ⟨g, 0, none⟩ = some (.slice s.sA s.f.length s.sc) ∧ W.cell? ⟨wz.heap.size, 2, none⟩ = some (.slice l.b.sA l.b.f.length l.b.sc) ∧ W.cell? ⟨wz.heap.size, 3, none⟩ = some (.slice l.b.uA l.b.l.length l.b.uc) ∧ W.cell? ⟨w.heap.size, 0, none⟩ = some (.slice b.sA b.f.length b.sc) ∧ W.cell? ⟨w.heap.size, 1, none⟩ = some (.slice b.uA b.l.length b.uc) from fun W h => by
    have o1 := hwk5.own.past h hwk5.own.inside
    have o2 := H5.out.2.2.2.1.past h H5.out.2.2.2.1.inside
    have o3 := H5.out.2.1.past h H5.out.2.1.inside
    exact ⟨o1.at_ 0, o2.at_ 2, o2.at_ 3, o3.at_ 0, o3.at_ 1⟩)
  have HW5 := Lib.hid (And.intro hgd (And.intro hLl (And.intro hlo (And.intro hwt hwtl))))
  have hlt5 : wz.heap.size < V5.heap.size := ho5.inside
  clear hwk5 hLl hgd hst hlv hlo hwt hwl hwtl f0 f1 f2 f3 f4 f5 f6 f7 f8 f9 hb5 ho5 hs5
  unfold Bt.val at z
  go_cut [8, 9] (fun s8 s9 wx => ∃ (Q : Nat) (m : Mg), s8 = .pointer (some ⟨Q, 0, none⟩) ∧ s9 = .int .i64 0 ∧ Own wx Q 127 m.cells ∧ NewM s.f l.b b m ∧ MgIn wx wx.heap.size m ∧ MgOk m ∧ MgLo V5.heap.size m ∧ Below V5.heap.size V5 wx ∧ McOk m)
  case first =>
    go_region_held3 (fun w' => Bm V5.heap.size V5 w' ∧ (w'.cell? ⟨g, 0, none⟩ = some (.slice s.sA s.f.length s.sc) ∧ w'.cell? ⟨wz.heap.size, 2, none⟩ = some (.slice l.b.sA l.b.f.length l.b.sc) ∧ w'.cell? ⟨wz.heap.size, 3, none⟩ = some (.slice l.b.uA l.b.l.length l.b.uc) ∧ w'.cell? ⟨w.heap.size, 0, none⟩ = some (.slice b.sA b.f.length b.sc) ∧ w'.cell? ⟨w.heap.size, 1, none⟩ = some (.slice b.uA b.l.length b.uc)))
      ((refine (fun h => And.intro h (HS.out _ h)) ?_; repeat (first | with_reducible exact Bm.of hb6 hbs | with_reducible exact Bm.of hself hbs | with_reducible refine Bm.set ?_ (by first | exact Nat.le_refl _ | (have z6 := hb6.below.size; simp; omega)) _ _ | with_reducible refine Bm.more ?_ hbs _ | with_reducible refine Bm.drew ?_)))
      ((go_at_call 111; refine (z _ ?_).out.mono ?_; (repeat (first | with_reducible exact hself | with_reducible refine Bl.more ?_ _ | with_reducible refine Bl.drew ?_)); rintro _ w6 ⟨m, rfl, hnew, im, om, lm, b6, cm⟩; unfold Mg.val; have hb6 : Bl V5 w6 := Bl.call (by repeat (first | with_reducible exact hself | with_reducible refine Bl.more ?_ _ | with_reducible refine Bl.drew ?_)) b6; (try (have oz : Own w6 V5.heap.size 127 [.slice none 0 0, .slice none 0 0, .int .i64 0, .int .i64 0, .slice none 0 0, .slice none 0 0] := (Own.past (by first | exact Own.made _ _ [.slice none 0 0, .slice none 0 0, .int .i64 0, .int .i64 0, .slice none 0 0, .slice none 0 0] | exact own_drewKS (Own.made _ _ [.slice none 0 0, .slice none 0 0, .int .i64 0, .int .i64 0, .slice none 0 0, .slice none 0 0])) b6 (by simp)); obtain ⟨f0, f1, f2, f3, f4, f5⟩ := own_frozen6 oz; obtain ⟨e0, e1, e2, e3, e4, e5⟩ := own6 oz))))
    all_goals
      go_wp2_with fail
      go_meet
    · obtain ⟨V6, hV6, hb, hs, ho⟩ := mgbox w6 m
      rw [← hV6]
      exact ⟨_, m, rfl, rfl, ho, hnew, im.keep hb, om, lm.mono (by simp), hb6.below.trans (hb.mono hb6.below.size), cm⟩
    · obtain ⟨X, hX, hXo, hXb, hXs, hXh⟩ := own_six oz (.slice m.aA m.a.length m.ac) (.slice m.bA m.b.length m.bc) (.int .i64 m.i) (.int .i64 m.j) (.slice m.sA m.f.length m.sc) (.slice m.oA m.o.length m.oc)
      rw [← hX]
      exact ⟨_, m, rfl, rfl, hXo, hnew, ⟨ups_other im.a (lm.a.mono (by simp)) hXs hXh, ups_other im.b (lm.b.mono (by simp)) hXs hXh, times_other im.f (lm.f.mono (by simp)) hXs hXh, ups_other im.o (lm.o.mono (by simp)) hXs hXh⟩, om, lm.mono (by simp), hXb V5.heap.size V5 hb6.below (Nat.le_refl _), cm⟩
  case rest =>
    obtain ⟨Q, m, rfl, rfl, hQ, hnew, im, om, lm, b6, cm⟩ := hcut
    have HCM := Lib.hid cm
    clear cm
    have b06 := belows H5.out.1 b6
    have hwk6 := H.out.wk.past b06
    have oc6 := H5.out.2.2.1.past b6 H5.out.2.2.1.inside
    have hX0 := fun q : Past wc => (hwk6.own.past q.h hwk6.own.inside).at_ 1
    have hX1 := fun q : Past wc => (oc6.past q.h oc6.inside).at_ 0
    have hX2 := fun q : Past wc => own6 (hQ.past q.h hQ.inside)
    simp only [Sp.cells, List.getElem?_cons_zero, List.getElem?_cons_succ, HGA.out] at hX0 hX1
    have HFR := Lib.hid (show ∀ W, Below wc.heap.size wc W → (∀ o, W.frozen? ⟨G, o, none⟩ = false) from fun W hb o => by
      rcases row_ownK (hwk6.past hb).row with ⟨h0, _⟩ | ⟨G', cur, e, _, hg, _⟩
      · rw [HGA.out] at h0; cases h0
      · rw [HGA.out] at e
        obtain rfl : G = G' := by simpa using e
        exact hg.open_ o)
    have H6 := Lib.hid (And.intro b06 (And.intro hnew (And.intro im (And.intro om (And.intro lm (And.intro hQ b6))))))
    clear hnew im om lm hQ b6 b06 hwk6 oc6 z HS hself hbs
    go_upto_region 13 with fail
    refine wp_region_past_tail wc 10 (by kernel_rfl) (by kernel_rfl) (Below.refl _ _) ?_
    repeat (first | go_big_quiet_step (fail) | quiet_step (fail))
    refine wpQuiet_nil ?_
    intro wt hw'
    obtain ⟨⟨wu, hbt⟩, hw''⟩ := hw'
    dsimp only at hw''
    subst hw''
    have HT := Lib.hid hbt
    obtain ⟨r0, r1, r2, r3, r4, r5, r6, r7, r8, r9⟩ := lv_ten (HLV.out wt (belows H6.out.1 hbt))
    have g0 := HFR.out wt hbt (p * 10)
    have g1 := HFR.out wt hbt (p * 10 + 1)
    have g2 := HFR.out wt hbt (p * 10 + 2)
    have g3 := HFR.out wt hbt (p * 10 + 3)
    have g4 := HFR.out wt hbt (p * 10 + 4)
    have g5 := HFR.out wt hbt (p * 10 + 5)
    have g6 := HFR.out wt hbt (p * 10 + 6)
    have g7 := HFR.out wt hbt (p * 10 + 7)
    have g8 := HFR.out wt hbt (p * 10 + 8)
    have g9 := HFR.out wt hbt (p * 10 + 9)
    have HFI := Lib.hid (put_merge (p := p) (G := G) (m := m) (H.out.past (belows H6.out.1 hbt)) HIDX.out.1 hidle (by rw [HIDX.out.2.1, HC.out]) H6.out.2.1 (H6.out.2.2.1.keep hbt) H6.out.2.2.2.1 (H6.out.2.2.2.2.1.of (fun k hk => (H.out.wk.past H5.out.1).lt k hk |>.2)) (H6.out.2.2.2.2.1.mono (Nat.le_trans H.out.wk.base_ H5.out.1.size)) HCM.out HGA.out)
    rw [HIDX.out.2.1] at HFI
    clear hX0 hX1 hX2 hbt
    go_wp2_with fail
    go_ret
    obtain ⟨k1, s', k2⟩ := HFI.out
    have bb := belows H6.out.1 HT.out
    exact ⟨0, rfl, (KeptK.of_below bb (Nat.le_refl _) (SpS g s.lA)).trans k1 (fun _ _ e => e), .inl ⟨rfl, s', k2.first bb⟩⟩
set_option maxRecDepth 100000 in
set_option maxHeartbeats 12800000 in
theorem put_absent1 (base g : Nat) (s : Sp) (b : Bt) (w : World) (h : PutIn base g s b w) (hno : ∀ l ∈ s.L, l.cls ≠ (clsN b.l.length : Int)) (hz : clsN b.l.length ≠ 0) (hq : posC s.L (clsN b.l.length : Int) = s.L.length) :
    Calls Tryz.prog 69 #[.pointer (some ⟨g, 0, none⟩), b.val] w (PutNew base g s b w) := by
  obtain ⟨V, hV, hvb, hvs, hvo⟩ := btbox w b
  obtain ⟨c, hc⟩ : ∃ c : Nat, clsN b.l.length = c := ⟨_, rfl⟩
  have y1 := Lib.hid (class_any b.uA b.uc b.l.length V h.bok.l.n)
  rw [hc] at y1
  obtain ⟨d0, d1⟩ := own2 hvo
  have H := Lib.hid h
  have HB := Lib.hid (And.intro hvb hvo)
  have HC := Lib.hid hc
  have hcn : c ≤ 41 := by rw [← hc]; exact cls_pow (by have := h.bok.l.n; omega)
  have hpl := posC_le s.L (c : Int)
  have hfew := h.good.few h.wk.ok.each_
  have hlow : ∀ l ∈ s.L.drop (posC s.L (c : Int)), l.cls < (c : Int) := posC_after h.good.fall fun l hl e => hno l (List.mem_of_getElem? hl) (by rw [hc]; exact e)
  have HLOW := Lib.hid (And.intro (posC_before s.L (c : Int)) hlow)
  rw [show b.val = .agg #[.slice b.sA b.f.length b.sc, .slice b.uA b.l.length b.uc] from rfl]
  rw [hc] at hz hq
  have h0 : ¬ c = 0 := hz
  have t0 : ((c : Int) == 0) = false := beq_eq_false_iff_ne.2 (by omega)
  have hn0 : b.l.length ≠ 0 := fun e => h0 (hc.symm.trans (cls_zero.2 e))
  have HZ := Lib.hid hn0
  obtain ⟨p, hp⟩ : ∃ p : Nat, posC s.L (c : Int) = p := ⟨_, rfl⟩
  have HPP := Lib.hid hp
  rw [hp] at hpl HLOW
  have y2 := fun (V2 : World) (bx : Nat) (hb : Below w.heap.size w V2) (hk : Kin V2 bx (c : Int)) => Lib.hid (indexS_any s.lA s.lc s.L bx (c : Int) V2 (h.wk.past hb).lies.head h.wk.ok.n hk)
  have y3 : ∀ w3, Below w.heap.size w w3 → ∀ W, Below w3.heap.size w3 W → Own W w3.heap.size 129 (⟨(c : Int), false, b, Mg.nil⟩ : Lv).cells → Hid (Calls Tryz.prog 110 #[.slice s.lA s.L.length s.lc, .int .i64 (p : Int), .slice (some ⟨w3.heap.size, 0, none⟩) 1 1] W fun e w' => ∃ A' c', e = .returned (.slice A' (s.L.length + 1) c') ∧
      w'.ownsRow base 129 10 (.slice A' (s.L.length + 1) c') (s.L.length + 1) ((s.L.flatMap Lv.cells).take (p * 10) ++ (⟨(c : Int), false, b, Mg.nil⟩ : Lv).cells ++ (s.L.flatMap Lv.cells).drop (p * 10)) ∧ W.grownBy w' (Value.slice s.lA s.L.length s.lc).ownBlock ∧ ((Value.slice A' (s.L.length + 1) c').ownBlock = (Value.slice s.lA s.L.length s.lc).ownBlock ∨ (Value.slice A' (s.L.length + 1) c').ownBlock = some W.heap.size)) := fun w3 hb W hbW ho => by
    have hw3 := h.wk.past hb
    refine Lib.hid (insert_anyS base s.L.length s.lc p w3.heap.size s.lA _ ⟨(c : Int), false, b, Mg.nil⟩ W (own_below hw3.row hbW) ho ?_ hpl ?_ (Nat.le_trans hw3.base_ hbW.size) (lvs_one s.L))
    · intro e
      rw [blkS_own] at e
      have := (hw3.lt _ (.inr e)).2
      omega
    · omega
  have HFIN := Lib.hid (show ∀ (w3 W2 : World) (A' : Option Addr) (c' : Nat), Below w.heap.size w w3 → W2.ownsRow base 129 10 (.slice A' (s.L.length + 1) c') (s.L.length + 1) ((s.L.flatMap Lv.cells).take (p * 10) ++ (⟨(c : Int), false, b, Mg.nil⟩ : Lv).cells ++ (s.L.flatMap Lv.cells).drop (p * 10)) → (w3.alloc (.cells #[.int .i64 (c : Int), .bool false, .slice b.sA b.f.length b.sc, .slice b.uA b.l.length b.uc, .slice none 0 0, .slice none 0 0, .int .i64 0, .int .i64 0, .slice none 0 0, .slice none 0 0] 129)).drew.grownBy W2 (Value.slice s.lA s.L.length s.lc).ownBlock → ((Value.slice A' (s.L.length + 1) c').ownBlock = (Value.slice s.lA s.L.length s.lc).ownBlock ∨ (Value.slice A' (s.L.length + 1) c').ownBlock = some (w3.alloc (.cells #[.int .i64 (c : Int), .bool false, .slice b.sA b.f.length b.sc, .slice b.uA b.l.length b.uc, .slice none 0 0, .slice none 0 0, .int .i64 0, .int .i64 0, .slice none 0 0, .slice none 0 0] 129)).drew.heap.size) →
      PutNew base g s b w (.returned (.int .i64 0)) (W2.setCell ⟨g, 1, none⟩ (.slice A' (s.L.length + 1) c')) from fun w3 W2 A' c' hb hr hg hA => by
    obtain ⟨k1, s', k2, k3⟩ := put_level (h.past hb) hpl (by rw [hc]) HLOW.out.1 HLOW.out.2 hn0 (lvbox1 w3 b (c : Int)).1 hr hg hA
    exact ⟨rfl, (KeptK.of_below hb (Nat.le_refl _) (SpS g s.lA)).trans k1 (fun _ _ e => e), s', k2.first hb, k3⟩)
  have HMID := Lib.hid (show ∀ (w3 W2 : World), Below w.heap.size w w3 → (w3.alloc (.cells #[.int .i64 (c : Int), .bool false, .slice b.sA b.f.length b.sc, .slice b.uA b.l.length b.uc, .slice none 0 0, .slice none 0 0, .int .i64 0, .int .i64 0, .slice none 0 0, .slice none 0 0] 129)).drew.grownBy W2 (Value.slice s.lA s.L.length s.lc).ownBlock → Own W2 g 137 s.cells from fun w3 W2 hb hg => by
    have hw3 := (h.wk.past hb).past (lvbox1 w3 b (c : Int)).1
    refine (hg.block g hw3.own.inside ?_).trans hw3.own
    rw [blkS_own]
    exact fun e => hw3.out e.symm)
  have HG := Lib.hid h.wk.own.inside
  have hpe : p = s.L.length := hp.symm.trans hq
  clear hz hq
  have hpi : posI s.L (c : Int) = -1 := by unfold posI; rw [hp, if_pos hpe]
  rw [hpi] at y2
  have t1 : ((s.L.length : Int) == (s.L.length : Int)) = true := by simp
  subst hpe
  clear h hvb hvs hvo hc hno hlow hn0 hp h0 hpi hpl
  go_enter Tryz.func69, Tryz.ntmps69
  go_upto_region 1 with fail
  rw [← hV]
  clear hV
  go_wp2_with fail
  refine y1.out.mono ?_
  rintro _ w1 ⟨rfl, b1⟩
  obtain ⟨V2, hV2, hs2, hb2, ho2⟩ := boxd w1 [.int .i64 (c : Int)] 3
  have b12 := belows b1 hb2
  have H2 := Lib.hid (And.intro (belows HB.out.1 b12) (And.intro (HB.out.2.past b12 HB.out.2.inside) (And.intro ho2 (show w.heap.size < w1.heap.size from Nat.lt_of_lt_of_le HB.out.2.inside b1.size))))
  have k0 : V2.cell? ⟨w1.heap.size, 0, none⟩ = some (.int .i64 (c : Int)) := ho2.at_ 0
  clear b1 hs2 hb2 ho2 y1 d0 d1 b12
  go_upto_region 2 with fail
  rw [← hV2]
  clear hV2
  have g0 : V2.cell? ⟨g, 1, none⟩ = some (.slice s.lA s.L.length s.lc) := (H.out.wk.past H2.out.1).own.at_ 1
  have hgi : g < V2.heap.size := (H.out.wk.past H2.out.1).own.inside
  have z2 := y2 V2 w1.heap.size H2.out.1 ⟨k0, H2.out.2.2.1.inside⟩
  go_wp2_with fail
  refine z2.out.mono ?_
  rintro _ w3 ⟨rfl, b3⟩
  have H3 := Lib.hid (And.intro (belows H2.out.1 b3) (And.intro (H2.out.2.1.past b3 H2.out.2.1.inside) (And.intro (H2.out.2.2.1.past b3 H2.out.2.2.1.inside) (And.intro H2.out.2.2.2 (Nat.lt_of_lt_of_le H2.out.2.2.1.inside b3.size)))))
  have k1 : w3.cell? ⟨w1.heap.size, 0, none⟩ = some (.int .i64 (c : Int)) := (b3.cell (p := ⟨w1.heap.size, 0, none⟩) H2.out.2.2.1.inside).trans k0
  have g1 : w3.cell? ⟨g, 1, none⟩ = some (.slice s.lA s.L.length s.lc) := (b3.cell (p := ⟨g, 1, none⟩) hgi).trans g0
  have hgi3 : g < w3.heap.size := Nat.lt_of_lt_of_le hgi b3.size
  obtain ⟨e0, e1⟩ := own2 H3.out.2.1
  clear b3 z2 k0 g0 hgi
  have x2 := fun q : Past w3 => (q.h.cell (p := ⟨g, 1, none⟩) hgi3).trans g1
  go_upto_region 7 with fail
  refine wp_region_past w3 (by kernel_rfl) (by kernel_rfl) (Below.refl _ _) ?_
  repeat (first | go_big_quiet_step (fail) | quiet_step (fail))
  refine wpQuiet_nil ?_
  intro wz hw'
  obtain ⟨⟨wy, hbz⟩, hw''⟩ := hw'
  dsimp only at hw''
  subst hw''
  have HZ3 := Lib.hid (And.intro (belows H3.out.1 hbz) (And.intro (H3.out.2.1.past hbz H3.out.2.1.inside) (H3.out.2.2.1.past hbz H3.out.2.2.1.inside)))
  have HW1 := Lib.hid H3.out.2.2.2.1
  have g1 := x2 ⟨wz, hbz⟩
  have k1 := (hbz.cell (p := ⟨w1.heap.size, 0, none⟩) H3.out.2.2.2.2).trans k1
  have hgi3 : g < wz.heap.size := Nat.lt_of_lt_of_le hgi3 hbz.size
  obtain ⟨e0, e1⟩ := own2 (H3.out.2.1.past hbz H3.out.2.1.inside)
  dsimp only at g1
  clear x2 hbz
  go_upto_region 8 with fail
  have a2 : (wz.alloc (.cells #[.int .i64 (c : Int), .bool false, .slice b.sA b.f.length b.sc, .slice b.uA b.l.length b.uc, .slice none 0 0, .slice none 0 0, .int .i64 0, .int .i64 0, .slice none 0 0, .slice none 0 0] 129)).cell? ⟨g, 1, none⟩ = some (.slice s.lA s.L.length s.lc) := ((lvbox1 wz b (c : Int)).1.cell (p := ⟨g, 1, none⟩) hgi3).trans g1
  go_region_with (go_at_call 110; refine (y3 wz HZ3.out.1 _ (lvbox1 wz b (c : Int)).1 (lvbox1 wz b (c : Int)).2).out.mono ?_; rintro _ w4 ⟨A', c', rfl, hr, hg, hA⟩; have o2 := HMID.out wz w4 HZ3.out.1 hg; have s0 : w4.cell? ⟨g, 1, none⟩ = some (.slice s.lA s.L.length s.lc) := o2.at_ 1; have s1 : w4.frozen? ⟨g, 1, none⟩ = false := o2.open_ 1; have HF := Lib.hid (HFIN.out wz w4 A' c' HZ3.out.1 hr hg hA); clear hr hg hA o2)
  all_goals
    go_wp2_with fail
    go_ret
    exact HF.out
set_option maxRecDepth 100000 in
set_option maxHeartbeats 12800000 in
theorem put_absent2 (base g : Nat) (s : Sp) (b : Bt) (w : World) (h : PutIn base g s b w) (hno : ∀ l ∈ s.L, l.cls ≠ (clsN b.l.length : Int)) (hz : clsN b.l.length ≠ 0) (hq : posC s.L (clsN b.l.length : Int) ≠ s.L.length) :
    Calls Tryz.prog 69 #[.pointer (some ⟨g, 0, none⟩), b.val] w (PutNew base g s b w) := by
  obtain ⟨V, hV, hvb, hvs, hvo⟩ := btbox w b
  obtain ⟨c, hc⟩ : ∃ c : Nat, clsN b.l.length = c := ⟨_, rfl⟩
  have y1 := Lib.hid (class_any b.uA b.uc b.l.length V h.bok.l.n)
  rw [hc] at y1
  obtain ⟨d0, d1⟩ := own2 hvo
  have H := Lib.hid h
  have HB := Lib.hid (And.intro hvb hvo)
  have HC := Lib.hid hc
  have hcn : c ≤ 41 := by rw [← hc]; exact cls_pow (by have := h.bok.l.n; omega)
  have hpl := posC_le s.L (c : Int)
  have hfew := h.good.few h.wk.ok.each_
  have hlow : ∀ l ∈ s.L.drop (posC s.L (c : Int)), l.cls < (c : Int) := posC_after h.good.fall fun l hl e => hno l (List.mem_of_getElem? hl) (by rw [hc]; exact e)
  have HLOW := Lib.hid (And.intro (posC_before s.L (c : Int)) hlow)
  rw [show b.val = .agg #[.slice b.sA b.f.length b.sc, .slice b.uA b.l.length b.uc] from rfl]
  rw [hc] at hz hq
  have h0 : ¬ c = 0 := hz
  have t0 : ((c : Int) == 0) = false := beq_eq_false_iff_ne.2 (by omega)
  have hn0 : b.l.length ≠ 0 := fun e => h0 (hc.symm.trans (cls_zero.2 e))
  have HZ := Lib.hid hn0
  obtain ⟨p, hp⟩ : ∃ p : Nat, posC s.L (c : Int) = p := ⟨_, rfl⟩
  have HPP := Lib.hid hp
  rw [hp] at hpl HLOW
  have y2 := fun (V2 : World) (bx : Nat) (hb : Below w.heap.size w V2) (hk : Kin V2 bx (c : Int)) => Lib.hid (indexS_any s.lA s.lc s.L bx (c : Int) V2 (h.wk.past hb).lies.head h.wk.ok.n hk)
  have y3 : ∀ w3, Below w.heap.size w w3 → ∀ W, Below w3.heap.size w3 W → Own W w3.heap.size 129 (⟨(c : Int), false, b, Mg.nil⟩ : Lv).cells → Hid (Calls Tryz.prog 110 #[.slice s.lA s.L.length s.lc, .int .i64 (p : Int), .slice (some ⟨w3.heap.size, 0, none⟩) 1 1] W fun e w' => ∃ A' c', e = .returned (.slice A' (s.L.length + 1) c') ∧
      w'.ownsRow base 129 10 (.slice A' (s.L.length + 1) c') (s.L.length + 1) ((s.L.flatMap Lv.cells).take (p * 10) ++ (⟨(c : Int), false, b, Mg.nil⟩ : Lv).cells ++ (s.L.flatMap Lv.cells).drop (p * 10)) ∧ W.grownBy w' (Value.slice s.lA s.L.length s.lc).ownBlock ∧ ((Value.slice A' (s.L.length + 1) c').ownBlock = (Value.slice s.lA s.L.length s.lc).ownBlock ∨ (Value.slice A' (s.L.length + 1) c').ownBlock = some W.heap.size)) := fun w3 hb W hbW ho => by
    have hw3 := h.wk.past hb
    refine Lib.hid (insert_anyS base s.L.length s.lc p w3.heap.size s.lA _ ⟨(c : Int), false, b, Mg.nil⟩ W (own_below hw3.row hbW) ho ?_ hpl ?_ (Nat.le_trans hw3.base_ hbW.size) (lvs_one s.L))
    · intro e
      rw [blkS_own] at e
      have := (hw3.lt _ (.inr e)).2
      omega
    · omega
  have HFIN := Lib.hid (show ∀ (w3 W2 : World) (A' : Option Addr) (c' : Nat), Below w.heap.size w w3 → W2.ownsRow base 129 10 (.slice A' (s.L.length + 1) c') (s.L.length + 1) ((s.L.flatMap Lv.cells).take (p * 10) ++ (⟨(c : Int), false, b, Mg.nil⟩ : Lv).cells ++ (s.L.flatMap Lv.cells).drop (p * 10)) → (w3.alloc (.cells #[.int .i64 (c : Int), .bool false, .slice b.sA b.f.length b.sc, .slice b.uA b.l.length b.uc, .slice none 0 0, .slice none 0 0, .int .i64 0, .int .i64 0, .slice none 0 0, .slice none 0 0] 129)).drew.grownBy W2 (Value.slice s.lA s.L.length s.lc).ownBlock → ((Value.slice A' (s.L.length + 1) c').ownBlock = (Value.slice s.lA s.L.length s.lc).ownBlock ∨ (Value.slice A' (s.L.length + 1) c').ownBlock = some (w3.alloc (.cells #[.int .i64 (c : Int), .bool false, .slice b.sA b.f.length b.sc, .slice b.uA b.l.length b.uc, .slice none 0 0, .slice none 0 0, .int .i64 0, .int .i64 0, .slice none 0 0, .slice none 0 0] 129)).drew.heap.size) →
      PutNew base g s b w (.returned (.int .i64 0)) (W2.setCell ⟨g, 1, none⟩ (.slice A' (s.L.length + 1) c')) from fun w3 W2 A' c' hb hr hg hA => by
    obtain ⟨k1, s', k2, k3⟩ := put_level (h.past hb) hpl (by rw [hc]) HLOW.out.1 HLOW.out.2 hn0 (lvbox1 w3 b (c : Int)).1 hr hg hA
    exact ⟨rfl, (KeptK.of_below hb (Nat.le_refl _) (SpS g s.lA)).trans k1 (fun _ _ e => e), s', k2.first hb, k3⟩)
  have HMID := Lib.hid (show ∀ (w3 W2 : World), Below w.heap.size w w3 → (w3.alloc (.cells #[.int .i64 (c : Int), .bool false, .slice b.sA b.f.length b.sc, .slice b.uA b.l.length b.uc, .slice none 0 0, .slice none 0 0, .int .i64 0, .int .i64 0, .slice none 0 0, .slice none 0 0] 129)).drew.grownBy W2 (Value.slice s.lA s.L.length s.lc).ownBlock → Own W2 g 137 s.cells from fun w3 W2 hb hg => by
    have hw3 := (h.wk.past hb).past (lvbox1 w3 b (c : Int)).1
    refine (hg.block g hw3.own.inside ?_).trans hw3.own
    rw [blkS_own]
    exact fun e => hw3.out e.symm)
  have HG := Lib.hid h.wk.own.inside
  have hpe : ¬ p = s.L.length := fun e => hq (hp.trans e)
  clear hz hq
  have hpi : posI s.L (c : Int) = (p : Int) := by unfold posI; rw [hp, if_neg hpe]
  rw [hpi] at y2
  have hplt : p < s.L.length := by omega
  obtain ⟨l, hl⟩ : ∃ l, s.L[p]? = some l := ⟨_, List.getElem?_eq_getElem hplt⟩
  have hcl : l.cls < (c : Int) := HLOW.out.2 l (by
    rw [List.drop_eq_getElem_cons hplt]
    have := (List.getElem?_eq_some_iff.1 hl).2
    rw [this]
    exact List.mem_cons_self)
  have t1 : ((p : Int) == (s.L.length : Int)) = false := beq_eq_false_iff_ne.2 (by omega)
  have t2 : decide (l.cls < (c : Int)) = true := decide_eq_true hcl
  have q0 : ¬ ((p : Int) < 0) := by omega
  have q1 : (0 : Int) ≤ (p : Int) := by omega
  have q2 : (p : Int) < (s.L.length : Int) := by omega
  have HLV := Lib.hid (show ∀ W, Below w.heap.size w W → ∃ G : Nat, s.lA = some ⟨G, 0, none⟩ ∧ W.cell? ⟨G, p * 10, none⟩ = some (.int .i64 l.cls) from fun W hb => by
    have hW := h.wk.past hb
    rcases row_ownK hW.row with ⟨_, h9, _⟩ | ⟨G, cur, hA, _⟩
    · omega
    · obtain ⟨b', o', e, _, hcell⟩ := hW.lies.head (by omega)
      rw [hA] at e
      simp only [Option.some.injEq, Addr.mk.injEq, and_true] at e
      obtain ⟨rfl, rfl⟩ := e
      have := hcell p l hl 0 _ rfl
      rw [Nat.zero_add, Nat.add_zero] at this
      exact ⟨G, hA, this⟩)
  clear h hvb hvs hvo hc hno hlow hn0 hp h0 hpi hpl hl hcl hplt
  go_enter Tryz.func69, Tryz.ntmps69
  go_upto_region 1 with fail
  rw [← hV]
  clear hV
  go_wp2_with fail
  refine y1.out.mono ?_
  rintro _ w1 ⟨rfl, b1⟩
  obtain ⟨V2, hV2, hs2, hb2, ho2⟩ := boxd w1 [.int .i64 (c : Int)] 3
  have b12 := belows b1 hb2
  have H2 := Lib.hid (And.intro (belows HB.out.1 b12) (And.intro (HB.out.2.past b12 HB.out.2.inside) (And.intro ho2 (show w.heap.size < w1.heap.size from Nat.lt_of_lt_of_le HB.out.2.inside b1.size))))
  have k0 : V2.cell? ⟨w1.heap.size, 0, none⟩ = some (.int .i64 (c : Int)) := ho2.at_ 0
  clear b1 hs2 hb2 ho2 y1 d0 d1 b12
  go_upto_region 2 with fail
  rw [← hV2]
  clear hV2
  have g0 : V2.cell? ⟨g, 1, none⟩ = some (.slice s.lA s.L.length s.lc) := (H.out.wk.past H2.out.1).own.at_ 1
  have hgi : g < V2.heap.size := (H.out.wk.past H2.out.1).own.inside
  have z2 := y2 V2 w1.heap.size H2.out.1 ⟨k0, H2.out.2.2.1.inside⟩
  go_wp2_with fail
  refine z2.out.mono ?_
  rintro _ w3 ⟨rfl, b3⟩
  have H3 := Lib.hid (And.intro (belows H2.out.1 b3) (And.intro (H2.out.2.1.past b3 H2.out.2.1.inside) (And.intro (H2.out.2.2.1.past b3 H2.out.2.2.1.inside) (And.intro H2.out.2.2.2 (Nat.lt_of_lt_of_le H2.out.2.2.1.inside b3.size)))))
  have k1 : w3.cell? ⟨w1.heap.size, 0, none⟩ = some (.int .i64 (c : Int)) := (b3.cell (p := ⟨w1.heap.size, 0, none⟩) H2.out.2.2.1.inside).trans k0
  have g1 : w3.cell? ⟨g, 1, none⟩ = some (.slice s.lA s.L.length s.lc) := (b3.cell (p := ⟨g, 1, none⟩) hgi).trans g0
  have hgi3 : g < w3.heap.size := Nat.lt_of_lt_of_le hgi b3.size
  obtain ⟨e0, e1⟩ := own2 H3.out.2.1
  clear b3 z2 k0 g0 hgi
  obtain ⟨G, hGA, r0⟩ := HLV.out w3 H3.out.1
  have hGi : G < w3.heap.size := by
    have := (H.out.wk.past H3.out.1).lt G (.inr (by rw [hGA]; rfl))
    exact this.2
  have x1 := fun q : Past w3 => (q.h.cell (p := ⟨w1.heap.size, 0, none⟩) H3.out.2.2.2.2).trans k1
  have x3 := fun q : Past w3 => (q.h.cell (p := ⟨G, p * 10, none⟩) hGi).trans r0
  rw [hGA] at g1 ⊢
  have x2 := fun q : Past w3 => (q.h.cell (p := ⟨g, 1, none⟩) hgi3).trans g1
  go_upto_region 7 with fail
  refine wp_region_past w3 (by kernel_rfl) (by kernel_rfl) (Below.refl _ _) ?_
  repeat (first | go_big_quiet_step (fail) | quiet_step (fail))
  refine wpQuiet_nil ?_
  intro wz hw'
  obtain ⟨⟨wy, hbz⟩, hw''⟩ := hw'
  dsimp only at hw''
  subst hw''
  have HZ3 := Lib.hid (And.intro (belows H3.out.1 hbz) (And.intro (H3.out.2.1.past hbz H3.out.2.1.inside) (H3.out.2.2.1.past hbz H3.out.2.2.1.inside)))
  have HW1 := Lib.hid H3.out.2.2.2.1
  have g1 := x2 ⟨wz, hbz⟩
  have k1 := (hbz.cell (p := ⟨w1.heap.size, 0, none⟩) H3.out.2.2.2.2).trans k1
  have hgi3 : g < wz.heap.size := Nat.lt_of_lt_of_le hgi3 hbz.size
  obtain ⟨e0, e1⟩ := own2 (H3.out.2.1.past hbz H3.out.2.1.inside)
  dsimp only at g1
  clear x2 hbz
  go_upto_region 8 with fail
  rw [← hGA] at g1 ⊢
  clear hGA r0 x1 x3 hGi
  have a2 : (wz.alloc (.cells #[.int .i64 (c : Int), .bool false, .slice b.sA b.f.length b.sc, .slice b.uA b.l.length b.uc, .slice none 0 0, .slice none 0 0, .int .i64 0, .int .i64 0, .slice none 0 0, .slice none 0 0] 129)).cell? ⟨g, 1, none⟩ = some (.slice s.lA s.L.length s.lc) := ((lvbox1 wz b (c : Int)).1.cell (p := ⟨g, 1, none⟩) hgi3).trans g1
  go_region_with (go_at_call 110; refine (y3 wz HZ3.out.1 _ (lvbox1 wz b (c : Int)).1 (lvbox1 wz b (c : Int)).2).out.mono ?_; rintro _ w4 ⟨A', c', rfl, hr, hg, hA⟩; have o2 := HMID.out wz w4 HZ3.out.1 hg; have s0 : w4.cell? ⟨g, 1, none⟩ = some (.slice s.lA s.L.length s.lc) := o2.at_ 1; have s1 : w4.frozen? ⟨g, 1, none⟩ = false := o2.open_ 1; have HF := Lib.hid (HFIN.out wz w4 A' c' HZ3.out.1 hr hg hA); clear hr hg hA o2)
  all_goals
    go_wp2_with fail
    go_ret
    exact HF.out
set_option maxRecDepth 100000 in
set_option maxHeartbeats 12800000 in
theorem put_absent (base g : Nat) (s : Sp) (b : Bt) (w : World) (h : PutIn base g s b w) (hno : ∀ l ∈ s.L, l.cls ≠ (clsN b.l.length : Int)) :
    Calls Tryz.prog 69 #[.pointer (some ⟨g, 0, none⟩), b.val] w (PutNew base g s b w) := by
  obtain ⟨V, hV, hvb, hvs, hvo⟩ := btbox w b
  obtain ⟨c, hc⟩ : ∃ c : Nat, clsN b.l.length = c := ⟨_, rfl⟩
  have y1 := Lib.hid (class_any b.uA b.uc b.l.length V h.bok.l.n)
  rw [hc] at y1
  obtain ⟨d0, d1⟩ := own2 hvo
  have H := Lib.hid h
  have HB := Lib.hid (And.intro hvb hvo)
  have HC := Lib.hid hc
  have hcn : c ≤ 41 := by rw [← hc]; exact cls_pow (by have := h.bok.l.n; omega)
  have hpl := posC_le s.L (c : Int)
  have hfew := h.good.few h.wk.ok.each_
  have hlow : ∀ l ∈ s.L.drop (posC s.L (c : Int)), l.cls < (c : Int) := posC_after h.good.fall fun l hl e => hno l (List.mem_of_getElem? hl) (by rw [hc]; exact e)
  have HLOW := Lib.hid (And.intro (posC_before s.L (c : Int)) hlow)
  by_cases h0 : c = 0
  · rw [show b.val = .agg #[.slice b.sA b.f.length b.sc, .slice b.uA b.l.length b.uc] from rfl]
    have hn0 : b.l.length = 0 := cls_zero.1 (hc.trans h0)
    have HZ := Lib.hid hn0
    have t0 : ((c : Int) == 0) = true := by rw [h0]; rfl
    clear h hvb hvs hvo hc hno hpl hlow hfew hn0 h0
    go_enter Tryz.func69, Tryz.ntmps69
    go_upto_region 1 with fail
    rw [← hV]
    clear hV
    go_wp2_with fail
    refine y1.out.mono ?_
    rintro _ w1 ⟨rfl, b1⟩
    obtain ⟨V2, hV2, hs2, hb2, ho2⟩ := boxd w1 [.int .i64 (c : Int)] 3
    have b12 := belows b1 hb2
    have H2 := Lib.hid (And.intro (belows HB.out.1 b12) (And.intro (HB.out.2.past b12 HB.out.2.inside) (And.intro ho2 (show w.heap.size < w1.heap.size from Nat.lt_of_lt_of_le HB.out.2.inside b1.size))))
    have k0 : V2.cell? ⟨w1.heap.size, 0, none⟩ = some (.int .i64 (c : Int)) := ho2.at_ 0
    clear b1 hs2 hb2 ho2 y1 d0 d1 b12
    go_upto_region 2 with fail
    rw [← hV2]
    clear hV2
    go_wp2_with fail
    go_ret
    have hn : b.l = [] := List.eq_nil_of_length_eq_zero HZ.out
    exact ⟨rfl, KeptK.of_below H2.out.1 (Nat.le_refl _) _, s, ⟨H.out.wk.past H2.out.1, rfl, rfl, rfl, .inl rfl, by rw [hn]; exact PutTo.refl H.out.good 1 0, by rw [hn]; exact HasTo.refl _ _⟩, rfl⟩
  have hz : clsN b.l.length ≠ 0 := fun e => h0 (hc.symm.trans e)
  by_cases hq : posC s.L (clsN b.l.length : Int) = s.L.length
  · exact put_absent1 base g s b w h hno hz hq
  · exact put_absent2 base g s b w h hno hz hq
theorem full_end {m m' : Mg} {c E : Int} (h : WorkOk m m' 9223372036854775807 c E) (hm : MOk m) (ok : ∀ u ∈ m.o, UOk u) (na : m.a.length ≤ 274877906944) (nb : m.b.length ≤ 274877906944) :
    E = 0 ∧ leftM m' = 0 ∧ EndOk m' ∨ E = 10 ∧ consE [advL m.f (partsM m)] = 10 := by
  obtain ⟨k, hk, mok, hsum, hE, _, _⟩ := work_gen h hm ok
  rcases hE with ⟨e, h1, _⟩ | e
  · refine .inl ⟨e, ?_⟩
    have hl : leftM m ≤ 549755813888 := by unfold leftM; omega
    have h0 : leftM m' = 0 := by
      rcases h1 with h1 | h1
      · exact h1
      · omega
    refine ⟨h0, mok, ?_, ?_⟩
    · have h2 := mok.da.lo
      have h3 := mok.da.hi
      unfold leftM at h0
      omega
    · have h2 := mok.db.lo
      have h3 := mok.db.hi
      unfold leftM at h0
      omega
  · exact .inr e
theorem put_both {base g p : Nat} {s s2 s3 : Sp} {b e : Bt} {w w5 w6 w7 : World} (hgood : SpGood s.f s.L) (ht : TookOut s.f s.L p e) (o2 : PutOut base g ⟨s.sA, s.sc, s.f, s.lA, s.lc, s.L.eraseIdx p⟩ b.l 1 b.l.length w5 w6 s2) (hw : w.heap.size ≤ w5.heap.size) (hw6 : w.heap.size ≤ w6.heap.size) (o3 : PutOut base g s2 e.l 1 e.l.length w6 w7 s3) (hbn : busyN s2.L = busyN (s.L.eraseIdx p)) : PutOut base g s b.l 1 b.l.length w w7 s3 := by
  refine ⟨o3.wk, o3.h1.trans o2.h1, o3.h2.trans o2.h2, o3.h3.trans o2.h3, ?_, ?_, ⟨fun hb hq => o3.has.old (by have := ht.busy; omega) _ (o2.has.new (by have := ht.busy; show busyN (s.L.eraseIdx p) ≤ 1; omega) hq), fun h0 => by have := ht.busy; omega, fun h => by
    have h3 := o3.has.fr
    rw [show s2.f = s.f from o2.h3] at h3
    exact h3 (o2.has.fr fun l hl hb => h l (List.mem_of_mem_eraseIdx hl) hb)⟩⟩
  · rcases o3.lA with h | ⟨q, h, hq⟩
    · rcases o2.lA with h' | ⟨q, h', hq⟩
      · exact .inl (h.trans h')
      · exact .inr ⟨q, h.trans h', by omega⟩
    · exact .inr ⟨q, h, by omega⟩
  · have e2 := o2.put
    have e3 := o3.put
    have hf : s2.f = s.f := o2.h3
    rw [hf] at e3
    have q1 : EqS s.f (partsS s3.L) (partsS s2.L ++ e.l) := e3.eq
    have q2 : EqS s.f (partsS s2.L) (partsS (s.L.eraseIdx p) ++ b.l) := e2.eq
    have q3 : EqS s.f (partsS (s.L.eraseIdx p) ++ e.l) (partsS s.L) := ht.eq
    have hb : chkUs b.l = 0 := (chkUs_parts q2.r).2
    have he : chkUs e.l = 0 := (chkUs_parts q1.r).2
    have q4 : EqS s.f (partsS s2.L ++ e.l) ((partsS (s.L.eraseIdx p) ++ b.l) ++ e.l) := q2.app (EqS.refl he)
    have q5 : EqS s.f ((partsS (s.L.eraseIdx p) ++ b.l) ++ e.l) ((partsS (s.L.eraseIdx p) ++ e.l) ++ b.l) := EqS.perm q4.r (by
      rw [List.append_assoc, List.append_assoc]
      exact List.Perm.append_left _ List.perm_append_comm)
    have q6 : EqS s.f ((partsS (s.L.eraseIdx p) ++ e.l) ++ b.l) (partsS s.L ++ b.l) := q3.app (EqS.refl hb)
    refine ⟨e3.good, ((q1.trans q4).trans q5).trans q6, ?_, ?_⟩
    · have c1 : cntS s3.L ≤ cntS s2.L + 1 := e3.cnt
      have c2 : cntS s2.L ≤ cntS (s.L.eraseIdx p) + 1 := e2.cnt
      have c3 := ht.cnt
      omega
    · have c1 : wtS s3.L ≤ wtS s2.L + e.l.length := e3.wt
      have c2 : wtS s2.L ≤ wtS (s.L.eraseIdx p) + b.l.length := e2.wt
      have c3 := ht.wt
      omega
theorem first_in {base g p : Nat} {s : Sp} {b e : Bt} {w w4 : World} (h : PutIn base g s b w) (ht : TookOut s.f s.L p e) (hk : KeptK w w4 (SpS g s.lA)) (hwk : Wk w4 base g ⟨s.sA, s.sc, s.f, s.lA, s.lc, s.L.eraseIdx p⟩) : PutIn base g ⟨s.sA, s.sc, s.f, s.lA, s.lc, s.L.eraseIdx p⟩ b w4 :=
  ⟨hwk, ht.good, bt_kept h.bin h.boff hk, h.bok, h.boff, h.blo, h.right, h.later, by have h1 := ht.wt; have h2 := h.wt; show wtS (s.L.eraseIdx p) + b.l.length ≤ _; omega⟩
theorem second_in {base g p : Nat} {s s2 : Sp} {b e : Bt} {w w5 w6 : World} (h : PutIn base g s b w) (ht : TookOut s.f s.L p e) (o2 : PutOut base g ⟨s.sA, s.sc, s.f, s.lA, s.lc, s.L.eraseIdx p⟩ b.l 1 b.l.length w5 w6 s2) (hk : KeptK w5 w6 (SpS g s.lA)) (he : BtIn w5 w5.heap.size e) (eo : BtOk e) (ef : OfB (SpS g s.lA) e) (elo : BtLo base e) : PutIn base g s2 e w6 := by
  have hf : s2.f = s.f := o2.h3
  refine ⟨o2.wk, ?_, bt_kept he ef hk, eo, ?_, elo, ht.ok, ?_, ?_⟩
  · have := o2.put.good
    rw [hf]; exact this
  · refine (ef.or (bt_in he)).less fun k hk => ?_
    rcases hk with hk | hk
    · exact .inl (.inl hk)
    · rcases o2.lA with h' | ⟨q, h', hq⟩
      · exact .inl (.inr (by rw [← h']; exact hk))
      · rw [h'] at hk
        injection hk with hk
        exact .inr (by omega)
  · rw [hf]; exact ht.later
  · have c2 : wtS s2.L ≤ wtS (s.L.eraseIdx p) + b.l.length := o2.put.wt
    have c3 := ht.wt
    have c4 := h.wt
    omega
theorem spS_trans {g : Nat} {A A' : Option Addr} {w : World} (h : blkS A' = blkS A ∨ ∃ q, blkS A' = some q ∧ w.heap.size ≤ q) : ∀ b, b < w.heap.size → SpS g A' b → SpS g A b := fun b hb hs => by
  rcases hs with hs | hs
  · exact .inl hs
  · rcases h with h | ⟨q, h, hq⟩
    · exact .inr (by rw [← h]; exact hs)
    · rw [h] at hs
      injection hs with hs
      omega
theorem busy_pos {L : List Lv} {l : Lv} (h : l ∈ L) (hb : l.busy = true) : 0 < busyN L := by
  unfold busyN
  exact List.length_pos_of_mem (List.mem_filter.2 ⟨h, hb⟩)
theorem put_there {base g : Nat} {s : Sp} {b : Bt} {w : World} (h : PutIn base g s b w) (hno : ¬ ∀ l ∈ s.L, l.cls ≠ (clsN b.l.length : Int)) : ∃ l, s.L[posC s.L (clsN b.l.length : Int)]? = some l ∧ l.cls = (clsN b.l.length : Int) := by
  obtain ⟨l, hl⟩ : ∃ l, l ∈ s.L ∧ l.cls = (clsN b.l.length : Int) := by
    by_cases hx : ∃ l, l ∈ s.L ∧ l.cls = (clsN b.l.length : Int)
    · exact hx
    · exact absurd (fun l hl e => hx ⟨l, hl, e⟩) hno
  obtain ⟨i, hi⟩ := List.getElem?_of_mem hl.1
  have e : posC s.L (clsN b.l.length : Int) = i := by
    refine posC_is (fun x hx => ?_) hi (by omega)
    have h1 := h.good.fall
    have h2 := split_at' hi
    rw [h2] at h1
    have h3 := (List.pairwise_append.1 h1).2.2 x hx l List.mem_cons_self
    omega
  exact ⟨l, by rw [e]; exact hi, hl.2⟩
set_option maxRecDepth 100000 in
set_option maxHeartbeats 12800000 in
theorem put_busy (n base g : Nat) (s : Sp) (b : Bt) (l : Lv) (w : World) (h : PutIn base g s b w) (hl : s.L[posC s.L (clsN b.l.length : Int)]? = some l) (hcl : l.cls = (clsN b.l.length : Int)) (hbusy : l.busy = true) (hn : busyN s.L ≤ n + 1)
    (IH : ∀ (s : Sp) (b : Bt) (w : World), PutIn base g s b w → busyN s.L ≤ n → Calls Tryz.prog 69 #[.pointer (some ⟨g, 0, none⟩), b.val] w (PutSays base g s b w)) :
    Calls Tryz.prog 69 #[.pointer (some ⟨g, 0, none⟩), b.val] w (PutSays base g s b w) := by
  have HIH := Lib.hid IH
  have HBN := Lib.hid hn
  have HBU := Lib.hid hbusy
  obtain ⟨V, hV, hvb, hvs, hvo⟩ := btbox w b
  obtain ⟨c, hc⟩ : ∃ c : Nat, clsN b.l.length = c := ⟨_, rfl⟩
  have y1 := Lib.hid (class_any b.uA b.uc b.l.length V h.bok.l.n)
  rw [hc] at y1
  obtain ⟨d0, d1⟩ := own2 hvo
  have H := Lib.hid h
  have HB := Lib.hid (And.intro hvb hvo)
  have HC := Lib.hid hc
  have hcn : c ≤ 41 := by rw [← hc]; exact cls_pow (by have := h.bok.l.n; omega)
  have hpl := posC_le s.L (c : Int)
  have hfew := h.good.few h.wk.ok.each_
  obtain ⟨p, hp⟩ : ∃ p : Nat, posC s.L (c : Int) = p := ⟨_, rfl⟩
  rw [hc] at hl hcl
  rw [hp] at hl hpl
  have hplt : p < s.L.length := (List.getElem?_eq_some_iff.1 hl).1
  have hn0 : c ≠ 0 := by have := h.good.pos l (List.mem_of_getElem? hl); omega
  have t0 : ((c : Int) == 0) = false := beq_eq_false_iff_ne.2 (by omega)
  have hpi : posI s.L (c : Int) = (p : Int) := by unfold posI; rw [hp, if_neg (by omega)]
  have y2 := fun (V2 : World) (bx : Nat) (hb : Below w.heap.size w V2) (hk : Kin V2 bx (c : Int)) => Lib.hid (indexS_any s.lA s.lc s.L bx (c : Int) V2 (h.wk.past hb).lies.head h.wk.ok.n hk)
  rw [hpi] at y2
  have t1 : ((p : Int) == (s.L.length : Int)) = false := beq_eq_false_iff_ne.2 (by omega)
  have t2 : decide (l.cls < (c : Int)) = false := decide_eq_false (by omega)
  have q0 : ¬ ((p : Int) < 0) := by omega
  have q1 : (0 : Int) ≤ (p : Int) := by omega
  have q2 : (p : Int) < (s.L.length : Int) := by omega
  obtain ⟨G, hGA⟩ : ∃ G : Nat, s.lA = some ⟨G, 0, none⟩ := by
    rcases row_ownK h.wk.row with ⟨_, h9, _⟩ | ⟨G, cur, hA, _⟩
    · omega
    · exact ⟨G, hA⟩
  have hGi : G < w.heap.size := (h.wk.lt G (.inr (by rw [hGA]; rfl))).2
  have HLV := Lib.hid (show ∀ W, Below w.heap.size w W → (∀ (j : Nat) (u : Value), l.cells[j]? = some u → W.cell? ⟨G, p * 10 + j, none⟩ = some u) from fun W hb j u hj => by
    have hW := h.wk.past hb
    obtain ⟨b', o', e, _, hcell⟩ := hW.lies.head (by omega)
    rw [hGA] at e
    simp only [Option.some.injEq, Addr.mk.injEq, and_true] at e
    obtain ⟨rfl, rfl⟩ := e
    have := hcell p l hl j u hj
    rwa [Nat.zero_add] at this)
  have HGA := Lib.hid hGA
  have HIDX := Lib.hid (And.intro hl (And.intro hcl hplt))
  have hLn := h.wk.ok.n
  rw [hGA] at y2
  rw [show b.val = .agg #[.slice b.sA b.f.length b.sc, .slice b.uA b.l.length b.uc] from rfl]
  clear h hvb hvs hvo hc hp hpi hpl hl hcl hplt hfew hn0 hGA
  clear IH hn
  go_enter Tryz.func69, Tryz.ntmps69
  go_upto_region 1 with fail
  rw [← hV]
  clear hV
  go_wp2_with fail
  refine y1.out.mono ?_
  rintro _ w1 ⟨rfl, b1⟩
  obtain ⟨V2, hV2, hs2, hb2, ho2⟩ := boxd w1 [.int .i64 (c : Int)] 3
  have b12 := belows b1 hb2
  have H2 := Lib.hid (And.intro (belows HB.out.1 b12) (And.intro (HB.out.2.past b12 HB.out.2.inside) (And.intro ho2 (show w.heap.size < w1.heap.size from Nat.lt_of_lt_of_le HB.out.2.inside b1.size))))
  have k0 : V2.cell? ⟨w1.heap.size, 0, none⟩ = some (.int .i64 (c : Int)) := ho2.at_ 0
  clear b1 hs2 hb2 ho2 y1 d0 d1 b12
  go_upto_region 2 with fail
  rw [← hV2]
  clear hV2
  have g0 : V2.cell? ⟨g, 1, none⟩ = some (.slice (some ⟨G, 0, none⟩) s.L.length s.lc) := by rw [← HGA.out]; exact (H.out.wk.past H2.out.1).own.at_ 1
  have hgi : g < V2.heap.size := (H.out.wk.past H2.out.1).own.inside
  have z2 := y2 V2 w1.heap.size H2.out.1 ⟨k0, H2.out.2.2.1.inside⟩
  go_wp2_with fail
  refine z2.out.mono ?_
  rintro _ w3 ⟨rfl, b3⟩
  have H3 := Lib.hid (And.intro (belows H2.out.1 b3) (And.intro (H2.out.2.1.past b3 H2.out.2.1.inside) (And.intro (H2.out.2.2.1.past b3 H2.out.2.2.1.inside) (And.intro H2.out.2.2.2 (Nat.lt_of_lt_of_le H2.out.2.2.1.inside b3.size)))))
  have k1 : w3.cell? ⟨w1.heap.size, 0, none⟩ = some (.int .i64 (c : Int)) := (b3.cell (p := ⟨w1.heap.size, 0, none⟩) H2.out.2.2.1.inside).trans k0
  have g1 : w3.cell? ⟨g, 1, none⟩ = some (.slice (some ⟨G, 0, none⟩) s.L.length s.lc) := (b3.cell (p := ⟨g, 1, none⟩) hgi).trans g0
  have hgi3 : g < w3.heap.size := Nat.lt_of_lt_of_le hgi b3.size
  obtain ⟨e0, e1⟩ := own2 H3.out.2.1
  clear b3 z2 k0 g0 hgi
  have hGi3 : G < w3.heap.size := Nat.lt_of_lt_of_le hGi H3.out.1.size
  have x1 := fun q : Past w3 => (q.h.cell (p := ⟨w1.heap.size, 0, none⟩) H3.out.2.2.2.2).trans k1
  have x3 := fun q : Past w3 => HLV.out q.w (belows H3.out.1 q.h) 0 _ rfl
  simp only [Nat.add_zero] at x3
  have x2 := fun q : Past w3 => (q.h.cell (p := ⟨g, 1, none⟩) hgi3).trans g1
  go_upto_region 7 with fail
  refine wp_region_past w3 (by kernel_rfl) (by kernel_rfl) (Below.refl _ _) ?_
  repeat (first | go_big_quiet_step (fail) | quiet_step (fail))
  refine wpQuiet_nil ?_
  intro wz hw'
  obtain ⟨⟨wy, hbz⟩, hw''⟩ := hw'
  dsimp only at hw''
  subst hw''
  have HZ3 := Lib.hid (And.intro (belows H3.out.1 hbz) (And.intro (H3.out.2.1.past hbz H3.out.2.1.inside) (H3.out.2.2.1.past hbz H3.out.2.2.1.inside)))
  have HW1 := Lib.hid H3.out.2.2.2.1
  have g1 := x2 ⟨wz, hbz⟩
  have k1 := (hbz.cell (p := ⟨w1.heap.size, 0, none⟩) H3.out.2.2.2.2).trans k1
  have hgi3 : g < wz.heap.size := Nat.lt_of_lt_of_le hgi3 hbz.size
  obtain ⟨e0, e1⟩ := own2 (H3.out.2.1.past hbz H3.out.2.1.inside)
  dsimp only at g1
  clear x1 x2 x3 hbz hGi3
  go_upto_region 10 with fail
  obtain ⟨r0, r1, r2, r3, r4, r5, r6, r7, r8, r9⟩ := lv_ten (HLV.out wz HZ3.out.1)
  have hGz : G < wz.heap.size := Nat.lt_of_lt_of_le hGi HZ3.out.1.size
  obtain ⟨V5, hV5, hb5, hs5, ho5⟩ := lvbox wz l
  obtain ⟨f0, f1, f2, f3, f4, f5, f6, f7, f8, f9⟩ := own10 ho5
  have H5 := Lib.hid (And.intro (belows HZ3.out.1 hb5) (And.intro (HZ3.out.2.1.past hb5 HZ3.out.2.1.inside) (And.intro ho5 trivial)))
  rw [hbusy] at r1 f1 hV5
  go_upto_region 11 with fail
  rw [← hV5]
  clear hV5 r0 r1 r2 r3 r4 r5 r6 r7 r8 r9 e0 e1 g1 k1 hgi3
  have hwk5 := H.out.wk.past H5.out.1
  have hLl := List.mem_of_getElem? HIDX.out.1
  have hgd := (H.out.good.each l hLl).busy hbusy
  have hlv := hwk5.lev l hLl
  have hlo := hwk5.ok.each_ l hLl
  have hwt := H.out.wt
  have hwl := wt_le hLl
  have hwtl : wtL l = max (l.m.a.length + l.m.b.length) (partsM l.m).length := by unfold wtL; rw [if_pos hbusy]
  have hpo : l.m.o.length ≤ (partsM l.m).length := by unfold partsM; rw [List.length_append, List.length_append]; omega
  have na : l.m.a.length ≤ 274877906944 := by omega
  have nb : l.m.b.length ≤ 274877906944 := by omega
  have no : l.m.o.length ≤ 274877906944 := by omega
  have z := Lib.hid (work_any l.m 9223372036854775807 V5 hlv.m hlo.m na nb no)
  have HK5 := Lib.hid (And.intro hgd (And.intro hlo (And.intro na (And.intro nb no))))
  obtain ⟨r0, r1, r2, r3, r4, r5, r6, r7, r8, r9⟩ := lv_ten (HLV.out V5 H5.out.1)
  have g1 : V5.cell? ⟨g, 1, none⟩ = some (.slice (some ⟨G, 0, none⟩) s.L.length s.lc) := by rw [← HGA.out]; exact hwk5.own.at_ 1
  unfold Mg.val at z
  clear hwk5 hLl hgd hlv hlo hwt hwl hwtl hpo na nb no f0 f2 f3 f4 f5 f6 f7 f8 f9 hb5 ho5 hs5
  go_wp2_with fail
  refine z.out.mono ?_
  rintro _ w6 ⟨m', cc, E, rfl, hw, im, om, lm, b6⟩
  have hwork : WorkOk l.m m' 9223372036854775807 cc E := by
    rcases hw with ⟨h1, _⟩ | ⟨_, h1⟩
    · exact absurd HK5.out.1.2.2.1 h1
    · exact h1
  have hfe := full_end hwork HK5.out.1.2.2.1 HK5.out.2.1.m.o.ok HK5.out.2.2.1 HK5.out.2.2.2.1
  obtain ⟨V6, hV6, hb6, hs6, ho6⟩ := mgbox w6 m'
  have b66 := belows b6 hb6
  have H6 := Lib.hid (And.intro (belows H5.out.1 b66) (And.intro (H5.out.2.1.past b66 H5.out.2.1.inside) (And.intro ho6 (And.intro (im.keep hb6) (And.intro om (And.intro hwork (And.intro hs6 lm)))))))
  obtain ⟨d0, d1, d2, d3, d4, d5⟩ := own6 ho6
  unfold Mg.val
  clear hw im om lm b6 b66 hb6 hs6 ho6 hwork r0 r1 r2 r3 r4 r5 r6 r7 r8 r9 g1 z f1
  go_upto_region 16 with fail
  rw [← hV6]
  clear hV6
  by_cases hE : E = 0
  case neg =>
    have tE : (E != 0) = true := bne_iff_ne.2 hE
    have HE := Lib.hid (show E = 10 ∧ FailS s.L from by
      rcases hfe with ⟨h1, _⟩ | h1
      · exact absurd h1 hE
      · exact ⟨h1.1, by have := busy_pos (List.mem_of_getElem? HIDX.out.1) HBU.out; omega, fun _ => ⟨l, List.mem_of_getElem? HIDX.out.1, HBU.out, h1.2⟩⟩)
    clear hfe hE
    go_wp2_with fail
    go_ret
    exact ⟨E, rfl, KeptK.of_below H6.out.1 (Nat.le_refl _) _, .inr HE.out⟩
  subst hE
  have hfe2 : leftM m' = 0 ∧ EndOk m' := by
    rcases hfe with ⟨_, h1⟩ | h1
    · exact h1
    · exact absurd h1.1 (by decide)
  have hpo : m'.o.length ≤ 274877906944 := by
    obtain ⟨k, _, _, _, _, _, hlen⟩ := work_gen H6.out.2.2.2.2.2.1 HK5.out.1.2.2.1 HK5.out.2.1.m.o.ok
    have hwl := wt_le (List.mem_of_getElem? HIDX.out.1)
    have hwt := H.out.wt
    have hwtl : wtL l = max (l.m.a.length + l.m.b.length) (partsM l.m).length := by unfold wtL; rw [if_pos hbusy]
    have hp2 : m'.o.length ≤ (partsM m').length := by unfold partsM; rw [List.length_append, List.length_append]; omega
    omega
  have hof : OfM (SpS g s.lA) m' := H6.out.2.2.2.2.2.2.2.of fun k hk => ((H.out.wk.past H5.out.1).lt k hk).2
  have z := Lib.hid (ends_any base g p s m' V6 (H.out.wk.past H6.out.1) HIDX.out.2.2 H6.out.2.2.2.1 H6.out.2.2.2.2.1 hof hpo hfe2.2)
  have HF := Lib.hid hfe2
  unfold Mg.val at z
  clear hfe hfe2 hpo hof
  go_wp2_with fail
  refine z.out.mono ?_
  rintro _ w7 ⟨e, rfl, hwk7, hk7, hef, hel, ie, oe, le⟩
  have ht : TookOut s.f s.L p e := take_out H.out.good HIDX.out.1 HBU.out HK5.out.2.1.m.o.ok H6.out.2.2.2.2.2.1 rfl HF.out.1 hef hel
  have hkw : KeptK w w7 (SpS g s.lA) := (KeptK.of_below H6.out.1 (Nat.le_refl _) (SpS g s.lA)).trans hk7 (fun _ _ e => e)
  obtain ⟨V7, hV7, hb7, hs7, ho7⟩ := btbox w7 e
  have hin := (first_in (H.out) ht hkw hwk7).past hb7
  have hab : ∀ x ∈ s.L.eraseIdx p, x.cls ≠ (clsN b.l.length : Int) := fun x hx => by
    rw [HC.out]
    have h1 := H.out.good.fall
    have h2 := split_at' HIDX.out.1
    rw [h2] at h1
    have h3 := List.pairwise_append.1 h1
    rw [List.eraseIdx_eq_take_drop_succ] at hx
    have h4 := HIDX.out.2.1
    rcases List.mem_append.1 hx with hx | hx
    · have := h3.2.2 x hx l List.mem_cons_self; omega
    · have := (List.pairwise_cons.1 h3.2.1).1 x hx; omega
  have z2 := Lib.hid (put_absent base g _ b V7 hin hab)
  have ob7 := hk7.own H6.out.2.1 (fun hs => by have := ((H.out.wk).lt _ hs).2; omega)
  have ob8 := ob7.past hb7 ob7.inside
  obtain ⟨e0, e1⟩ := own2 ob8
  have H7 := Lib.hid (And.intro hkw (And.intro ht (And.intro (ie.keep hb7) (And.intro oe (And.intro (le.of (fun k hk => ((H.out.wk.past H6.out.1).lt k hk).2) : OfB (SpS g s.lA) e) (And.intro ho7 (And.intro hb7 (Nat.le_trans H6.out.1.size (hk7.size)))))))))
  have HLE := Lib.hid (le.mono (Nat.le_trans H.out.wk.base_ H6.out.1.size) : BtLo base e)
  unfold Bt.val at z2 ⊢
  clear hwk7 hk7 hef hel ie oe le ht hkw hb7 hs7 ho7 hin hab ob7 ob8 d0 d1 d2 d3 d4 d5 z
  go_upto_region 19 with fail
  rw [← hV7]
  clear hV7
  go_wp2_with fail
  refine z2.out.mono ?_
  rintro _ w8 ⟨rfl, hk8, s2, o2, hbn⟩
  have hin2 := second_in H.out H7.out.2.1 o2 hk8 H7.out.2.2.1 H7.out.2.2.2.1 H7.out.2.2.2.2.1 HLE.out
  have z3 := Lib.hid (HIH.out s2 e w8 hin2 (by have h1 := H7.out.2.1.busy; have h2 := HBN.out; rw [hbn]; show busyN (s.L.eraseIdx p) ≤ n; omega))
  have oe8 := hk8.own H7.out.2.2.2.2.2.1 (fun hs => by have := ((H.out.wk).lt _ hs).2; have := H7.out.2.2.2.2.2.2.2; omega)
  obtain ⟨d0, d1⟩ := own2 oe8
  have H8 := Lib.hid (And.intro o2 (And.intro hk8 hbn))
  unfold Bt.val at z3
  clear hk8 o2 hbn hin2 oe8 e0 e1 z2
  go_wp2_with fail
  refine z3.out.mono ?_
  rintro _ w9 ⟨E9, rfl, hk9, h9⟩
  have hw7 := H7.out.2.2.2.2.2.2.2
  have hw8 : w.heap.size ≤ w8.heap.size := Nat.le_trans (Nat.le_trans hw7 H7.out.2.2.2.2.2.2.1.size) H8.out.2.1.size
  have hk07 : KeptK w V7 (SpS g s.lA) := H7.out.1.trans (KeptK.of_below H7.out.2.2.2.2.2.2.1 (Nat.le_refl _) (SpS g s.lA)) (fun _ _ e => e)
  have hk08 : KeptK w w8 (SpS g s.lA) := hk07.trans H8.out.2.1 (fun _ _ e => e)
  have hlA : blkS s2.lA = blkS s.lA ∨ ∃ q, blkS s2.lA = some q ∧ w.heap.size ≤ q := by
    rcases H8.out.1.lA with h' | ⟨q, h', hq⟩
    · exact .inl h'
    · exact .inr ⟨q, h', Nat.le_trans (Nat.le_trans hw7 H7.out.2.2.2.2.2.2.1.size) hq⟩
  have hk09 : KeptK w w9 (SpS g s.lA) := hk08.trans hk9 (spS_trans hlA)
  have HZ := Lib.hid (show PutSays base g s b w (.returned (.int .i64 E9)) w9 from ⟨E9, rfl, hk09, by
    rcases h9 with ⟨h1, s3, o3⟩ | h1
    · exact .inl ⟨h1, s3, put_both H.out.good H7.out.2.1 H8.out.1 (Nat.le_trans hw7 H7.out.2.2.2.2.2.2.1.size) hw8 o3 H8.out.2.2⟩
    · exact .inr ⟨h1.1, by have := H7.out.2.1.busy; omega, fun hb1 => by have h2 := H7.out.2.1.busy; have h3 := H8.out.2.2; have h4 := h1.2.1; rw [h3] at h4; have h5 : busyN (s.L.eraseIdx p) ≠ 0 := h4; omega⟩⟩)
  clear hk9 h9 hw7 hw8 hk07 hk08 hlA hk09 d0 d1 z3
  go_wp2_with fail
  go_ret
  exact HZ.out
theorem put_any (base g : Nat) : ∀ (n : Nat) (s : Sp) (b : Bt) (w : World), PutIn base g s b w → busyN s.L ≤ n → Calls Tryz.prog 69 #[.pointer (some ⟨g, 0, none⟩), b.val] w (PutSays base g s b w) := by
  intro n
  induction n with
  | zero =>
    intro s b w h hn
    by_cases hno : ∀ l ∈ s.L, l.cls ≠ (clsN b.l.length : Int)
    · exact (put_absent base g s b w h hno).mono fun _ _ k => k.says
    · obtain ⟨l, hl, hcl⟩ := put_there h hno
      refine put_idle base g s b l w h hl hcl ?_
      cases hb : l.busy
      · rfl
      · have := busy_pos (List.mem_of_getElem? hl) hb; omega
  | succ n ih =>
    intro s b w h hn
    by_cases hno : ∀ l ∈ s.L, l.cls ≠ (clsN b.l.length : Int)
    · exact (put_absent base g s b w h hno).mono fun _ _ k => k.says
    · obtain ⟨l, hl, hcl⟩ := put_there h hno
      cases hb : l.busy
      · exact put_idle base g s b l w h hl hcl hb
      · exact put_busy n base g s b l w h hl hcl hb hn ih
set_option maxRecDepth 100000 in
set_option maxHeartbeats 3200000 in
theorem listS_any (A : Option Addr) (c : Nat) (l : List Lv) (w : World) (hl : Lies 10 Lv.cells w w.heap.size A l) (hn : l.length * 176 ≤ 140737488355328) :
    Calls Tryz.prog 62 #[.slice A l.length c] w fun x w' => ∃ A', x = .returned (.slice A' l.length l.length) ∧ (l = [] → A' = none ∧ w' = w) ∧ (0 < l.length → A' = some ⟨w.heap.size, 0, none⟩ ∧ Own w' w.heap.size 129 (l.flatMap Lv.cells)) ∧ Below w.heap.size w w' := by
  obtain ⟨i0, hi, hz0, hz1, hz2⟩ := info_parts infoLv
  have hU := Tryz.underlying34
  have hsz1 : (Tryz.prog.info? 129).map (·.size) = some 10 := by rw [hi]; simp [hz1]
  cases l with
  | nil =>
    clear hl hn hi hz0 hz1 hz2 hU hsz1
    go_enter Tryz.func62, Tryz.ntmps62
    go_wp2_with fail
    go_ret
    exact ⟨none, rfl, fun _ => ⟨rfl, rfl⟩, fun h => absurd h (by simp), Below.refl _ _⟩
  | cons t l =>
    obtain ⟨b, o, rfl, hB, hc⟩ := hl (by simp)
    obtain ⟨m, hm⟩ : ∃ m, m = t :: l := ⟨_, rfl⟩
    have hpos : 0 < m.length := by rw [hm]; simp
    have hne : m ≠ [] := by rw [hm]; simp
    rw [← hm] at hc hn ⊢
    have t1 : ((m.length : Int) == 0) = false := beq_eq_false_iff_ne.2 (by omega)
    have HC := Lib.hid hc
    have HNE := Lib.hid hne
    clear hc hm hl hne
    go_enter Tryz.func62, Tryz.ntmps62
    go_wp2_with (refine wpList_make_full _ rfl (.tmp 8) (.tmp 8) 34 rfl w.heap.size 129 i0 _ 10 hU hi hz0 hz1 .i64 .i64 _ _ m.length rfl rfl rfl rfl ?c1 ?c2 ?c3 ?_)
    case c1 => rw [hz2]; omega
    case c2 => unfold maxLen; omega
    case c3 => exact Nat.le_refl _
    intro w1 ho1 hg1
    obtain ⟨cur, ho1⟩ : ∃ cur, w1.ownsRow w.heap.size 129 10 (.slice (some ⟨w.heap.size, 0, none⟩) m.length m.length) m.length cur := ⟨_, ho1⟩
    have hm1 := own_made ho1
    have hb1 : Below w.heap.size w w1 := (Below.refl _ _).grown hg1 (Nat.le_refl _) (fun k h => by cases h)
    have hlen1 : cur.length = m.length * 10 := ho1.1
    have hcl : (m.flatMap Lv.cells).length = m.length * 10 := flat_size (size := 10) (cells := Lv.cells) (fun _ => rfl) m
    have hsrc : ∀ j v, (m.flatMap Lv.cells)[j]? = some v → w1.cell? ((⟨b, o, none⟩ : Addr).add j) = some v := fun j v hv => by
      obtain ⟨i, r, x, rfl, hx, hr⟩ := flat_back (size := 10) (cells := Lv.cells) (by decide) (fun _ => rfl) m j v hv
      have ea : (⟨b, o, none⟩ : Addr).add (i * 10 + r) = ⟨b, o + i * 10 + r, none⟩ := by unfold Addr.add; split <;> simp_all <;> omega
      rw [ea, hb1.cell (p := ⟨b, o + i * 10 + r, none⟩) hB]
      exact HC.out i x hx r v hr
    have hrun := fun ty => run_copy_all (P := Tryz.prog) w1 34 34 ty 129 w.heap.size m.length m.length c 10 ⟨b, o, none⟩ cur (m.flatMap Lv.cells) 129 hU hsz1 hm1 hcl hsrc (by rw [hcl, hlen1]) (fun v hv => by
      obtain ⟨x, _, hx⟩ := List.mem_flatMap.1 hv
      exact lcells_one x v hx)
    have ho2 : Own (w1.setRow w.heap.size (m.flatMap Lv.cells).toArray) w.heap.size 129 (m.flatMap Lv.cells) := own_setRow hm1
    have hb2 : Below w.heap.size w (w1.setRow w.heap.size (m.flatMap Lv.cells).toArray) := below_setRow hb1 (Nat.le_refl _) _
    have HR := Lib.hid hrun
    obtain ⟨w2, hw2⟩ : ∃ w2, w2 = w1.setRow w.heap.size (m.flatMap Lv.cells).toArray := ⟨_, rfl⟩
    rw [← hw2] at HR ho2 hb2
    have H2 := Lib.hid (And.intro ho2 hb2)
    clear hw2 hrun ho2 hb2 hsrc hcl hm1 hb1 hlen1 ho1 hg1 hU hsz1 hi hz0 hz1 hz2
    go_wp2_with (refine Lib.wpList_copy_run _ rfl _ _ 34 34 rfl _ _ rfl rfl (HR.out _) ?_)
    go_wp2_with fail
    go_ret
    exact ⟨_, rfl, fun h => absurd h HNE.out, fun _ => ⟨rfl, H2.out.1⟩, H2.out.2⟩

end Go.Proofs.YtjffohpdjicfpaaGreat
