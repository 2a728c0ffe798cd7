/- Part 10 of the texts on which SpineHolds rests: facts and contracts. -/
import Derived.Test.YtenjlhlighkenaaGreatSpineHoldsM9
namespace Go.Proofs.YtenjlhlighkenaaGreat
open Go Go.RowKit

def StartOk (f : List Tm) (a b : Bt) : Prop := BatchOk a.f a.l ∧ BatchOk b.f b.l ∧ FrontOk f ∧ LaterF f a.f ∧ LaterF f b.f
def Started (f : List Tm) (a b : Bt) (w : World) (x : Ending) (w' : World) : Prop :=
  ∃ (m : Mg) (E : Int), x = .returned (.tuple #[m.val, .int .i64 E]) ∧ (E = 0 ∧ StartOk f a b ∧ m.a.map Up.p = a.l.map Up.p ∧ m.b.map Up.p = b.l.map Up.p ∧ m.i = 0 ∧ m.j = 0 ∧ m.f = f ∧ m.o = [] ∨ E ≠ 0 ∧ m = Mg.nil ∧ ¬ StartOk f a b) ∧
    MgIn w' w'.heap.size m ∧ MgOk m ∧ MgLo w.heap.size m ∧ Below w.heap.size w w'
theorem st_box (w : World) (a b : Bt) : ∃ V, V = ((w.alloc (.cells #[.slice a.sA a.f.length a.sc, .slice a.uA a.l.length a.uc] 61)).alloc (.cells #[.slice b.sA b.f.length b.sc, .slice b.uA b.l.length b.uc] 61)).alloc (.cells #[.slice none 0 0, .slice none 0 0, .int .i64 0, .int .i64 0, .slice none 0 0, .slice none 0 0] 63) ∧
    Below w.heap.size w V ∧ Own V w.heap.size 61 a.cells ∧ Own V (w.heap.size + 1) 61 b.cells ∧ Own V (w.heap.size + 2) 63 Mg.nil.cells := by
  refine ⟨_, rfl, (((Below.refl _ _).alloc (Nat.le_refl _) _).alloc (by simp) _).alloc (by simp; omega) _, ((Own.made w 61 a.cells).more _).more _, ?_, ?_⟩
  · exact (own_next (w := w.alloc (.cells #[.slice a.sA a.f.length a.sc, .slice a.uA a.l.length a.uc] 61)) (l := b.cells) (by simp)).more _
  · exact own_next (w := (w.alloc (.cells #[.slice a.sA a.f.length a.sc, .slice a.uA a.l.length a.uc] 61)).alloc (.cells #[.slice b.sA b.f.length b.sc, .slice b.uA b.l.length b.uc] 61)) (l := Mg.nil.cells) (by simp)
end Go.Proofs.YtenjlhlighkenaaGreat
namespace Go.Proofs.YtenjlhlighkenaaGreat
open Go Go.RowKit

def codeSt (f : List Tm) (a b : Bt) (E : Int) : Prop := E = 4 ∧ ¬ (BatchOk a.f a.l ∧ BatchOk b.f b.l ∧ FrontOk f) ∨ E = 1 ∧ (BatchOk a.f a.l ∧ BatchOk b.f b.l ∧ FrontOk f)
def Started2 (f : List Tm) (a b : Bt) (w : World) (x : Ending) (w' : World) : Prop :=
  ∃ (m : Mg) (E : Int), x = .returned (.tuple #[m.val, .int .i64 E]) ∧ (E = 0 ∧ StartOk f a b ∧ m.a.map Up.p = a.l.map Up.p ∧ m.b.map Up.p = b.l.map Up.p ∧ m.i = 0 ∧ m.j = 0 ∧ m.f = f ∧ m.o = [] ∨ codeSt f a b E ∧ m = Mg.nil ∧ ¬ StartOk f a b) ∧
    MgIn w' w'.heap.size m ∧ MgOk m ∧ MgLo w.heap.size m ∧ Below w.heap.size w w'
end Go.Proofs.YtenjlhlighkenaaGreat
namespace Go.Proofs.YtenjlhlighkenaaGreat
open Go Go.RowKit

def Started2C (f : List Tm) (a b : Bt) (w : World) (x : Ending) (w' : World) : Prop :=
  ∃ (m : Mg) (E : Int), x = .returned (.tuple #[m.val, .int .i64 E]) ∧ (E = 0 ∧ StartOk f a b ∧ m.a.map Up.p = a.l.map Up.p ∧ m.b.map Up.p = b.l.map Up.p ∧ m.i = 0 ∧ m.j = 0 ∧ m.f = f ∧ m.o = [] ∨ codeSt f a b E ∧ m = Mg.nil ∧ ¬ StartOk f a b) ∧
    MgIn w' w'.heap.size m ∧ MgOk m ∧ MgLo w.heap.size m ∧ Below w.heap.size w w' ∧ m.ac = m.a.length ∧ m.bc = m.b.length
set_option maxRecDepth 100000 in
set_option maxHeartbeats 12800000 in
theorem start_any2C (A : Option Addr) (c : Nat) (f : List Tm) (a b : Bt) (w : World) (hf : Times w w.heap.size A f) (hfo : TsOk f c) (ha : BtIn w w.heap.size a) (oa : BtOk a) (na : a.l.length ≤ 274877906944) (hb : BtIn w w.heap.size b) (ob : BtOk b) (nb : b.l.length ≤ 274877906944) :
    Calls Tryz.prog 52 #[.slice A f.length c, a.val, b.val] w (Started2C f a b w) := by
  obtain ⟨V, hV, hvb, hv1, hv2, hv3⟩ := st_box w a b
  have hX := fun p : Past V => own2 (hv1.past p.h hv1.inside)
  have hY := fun p : Past V => own2 (hv2.past p.h hv2.inside)
  have hZ := fun p : Past V => hv3.past p.h hv3.inside
  have hia := ha.keep hvb
  have hib := hb.keep hvb
  have hif := (hf.past hvb (Nat.le_refl _)).wide hvb.size
  have hfV := fun p : Past V => (hif.past p.h (Nat.le_refl _)).wide p.h.size
  obtain ⟨ca, hca⟩ := code_of (BatchOk a.f a.l) 4
  obtain ⟨cb, hcb⟩ := code_of (BatchOk b.f b.l) 4
  obtain ⟨bf, hbf⟩ := bool_of (FrontOk f)
  obtain ⟨la, hla⟩ := bool_of (LaterF f a.f)
  obtain ⟨lb, hlb⟩ := bool_of (LaterF f b.f)
  have n1 := hfo.n
  have m1 : f.length ≤ maxLen := Nat.le_trans hfo.le hfo.c_
  have m2 : a.f.length ≤ maxLen := Nat.le_trans oa.f.le oa.f.c_
  have m3 : b.f.length ≤ maxLen := Nat.le_trans ob.f.le ob.f.c_
  have u1 := fun p : Past V => calls_past ((bcheck_any a p.w (hia.keep p.h) oa).mono fun x w' h => codes_is hca h)
  have u2 := fun p : Past V => calls_past ((bcheck_any b p.w (hib.keep p.h) ob).mono fun x w' h => codes_is hcb h)
  have u3 := fun p : Past V => calls_past ((bfrontier_any A c f p.w (hfV p) (by omega)).mono fun x w' h => tells_is hbf h)
  have u4 := fun p : Past V => calls_past ((later_any A c f a.sA a.sc a.f p.w (hfV p) m1 (hia.keep p.h).since m2).mono fun x w' h => tells_is hla h)
  have u5 := fun p : Past V => calls_past ((later_any A c f b.sA b.sc b.f p.w (hfV p) m1 (hib.keep p.h).since m3).mono fun x w' h => tells_is hlb h)
  have HB := Lib.hid hvb
  have HI := Lib.hid (And.intro hia (And.intro hib hif))
  have HZ := Lib.hid hZ
  have HC := Lib.hid (And.intro hca (And.intro hcb (And.intro hbf (And.intro hla hlb))))
  have HOK := Lib.hid (And.intro hfo (And.intro oa (And.intro na (And.intro ob nb))))
  have HG := Lib.hid hv3.inside
  have hA : a.val = .agg #[.slice a.sA a.f.length a.sc, .slice a.uA a.l.length a.uc] := rfl
  have hB : b.val = .agg #[.slice b.sA b.f.length b.sc, .slice b.uA b.l.length b.uc] := rfl
  rw [hA, hB]
  rw [hA] at u1
  rw [hB] at u2
  have HF := Lib.hid (show ∀ (E : Int) (x : Ending) (w' : World), codeSt f a b E → ¬ StartOk f a b → x = .returned (.tuple #[Mg.nil.val, .int .i64 E]) → Below w.heap.size w w' → Started2C f a b w x w' from fun E x w' h1 h2 h3 h4 => ⟨Mg.nil, E, h3, .inr ⟨h1, rfl, h2⟩, mg_nil_in _ _, mg_nil_ok, mg_nil_lo _, h4, rfl, rfl⟩)
  have HP := Lib.hid (show ∀ (m : Mg) (x : Ending) (w' : World), StartOk f a b → x = .returned (.tuple #[m.val, .int .i64 0]) → m.a.map Up.p = a.l.map Up.p ∧ m.b.map Up.p = b.l.map Up.p ∧ m.i = 0 ∧ m.j = 0 ∧ m.f = f ∧ m.o = [] → MgIn w' w'.heap.size m → MgOk m → MgLo w.heap.size m → Below w.heap.size w w' → m.ac = m.a.length ∧ m.bc = m.b.length → Started2C f a b w x w' from fun m x w' h1 h2 h3 h4 h5 h6 h7 h8 => ⟨m, 0, h2, .inl ⟨rfl, h1, h3⟩, h4, h5, h6, h7, h8⟩)
  clear hf hfo ha oa hb ob hvb hv1 hv2 hv3 hia hib hif hfV hca hcb hbf hla hlb n1 m1 m2 m3 hZ hA hB na nb
  go_enter Tryz.func52, Tryz.ntmps52
  go_upto_region 1 with fail
  rw [← hV]
  clear hV
  obtain ⟨a0, a1⟩ := hX ⟨V, Below.refl _ _⟩
  obtain ⟨b0, b1⟩ := hY ⟨V, Below.refl _ _⟩
  dsimp only at a0 a1 b0 b1
  go_wp2_with fail
  refine (u1 ⟨V, Below.refl _ _⟩).mono ?_
  rintro _ _ ⟨rfl, ⟨p1, rfl⟩⟩
  clear a0 a1 b0 b1 u1
  obtain ⟨a0, a1⟩ := hX p1
  obtain ⟨b0, b1⟩ := hY p1
  by_cases h1 : ca = 0
  case neg =>
    have t1 : (ca != 0) = true := bne_iff_ne.2 h1
    have hz := HZ.out p1
    obtain ⟨f0, f1, f2, f3, f4, f5⟩ := own_frozen6 hz
    obtain ⟨z0, z1, z2, z3, z4, z5⟩ := own6 hz
    obtain ⟨X, hX', hXo, hXb, hXs, hXh⟩ := own_six hz (.slice none 0 0) (.slice none 0 0) (.int .i64 0) (.int .i64 0) (.slice none 0 0) (.slice none 0 0)
    have HX := Lib.hid (And.intro (hXb w.heap.size w (HB.out.trans (p1.h.mono HB.out.size)) (by omega)) hXo)
    have HN := Lib.hid (show ¬ StartOk f a b from fun h => by rcases HC.out.1 with ⟨_, e⟩ | ⟨e, _⟩; exact h1 e; exact e h.1)
    have HCD := Lib.hid (show codeSt f a b 4 from .inl ⟨rfl, fun h => by rcases HC.out.1 with ⟨_, e⟩ | ⟨e, _⟩; exact h1 e; exact e h.1⟩)
    have HR := Lib.hid hX'
    clear hz hXo hXb hXs hXh hX' h1 u2 u3 u4 u5
    go_wp2_with fail
    rw [← HR.out]
    obtain ⟨x0, x1, x2, x3, x4, x5⟩ := own6 HX.out.2
    exact bodyPost_ret (v := .tuple #[.agg #[.slice none 0 0, .slice none 0 0, .int .i64 0, .int .i64 0, .slice none 0 0, .slice none 0 0], .int .i64 4]) (by simp [results, Tryz.results52, go_sem, x0, x1, x2, x3, x4, x5]) rfl (HF.out 4 _ _ HCD.out HN.out rfl HX.out.1)
  subst h1
  go_wp2_with fail
  refine (u2 p1).mono ?_
  rintro _ _ ⟨rfl, ⟨p2, rfl⟩⟩
  clear a0 a1 b0 b1 u2
  obtain ⟨a0, a1⟩ := hX p2
  obtain ⟨b0, b1⟩ := hY p2
  by_cases h2 : cb = 0
  case neg =>
    have t1 : (cb != 0) = true := bne_iff_ne.2 h2
    have hz := HZ.out p2
    obtain ⟨f0, f1, f2, f3, f4, f5⟩ := own_frozen6 hz
    obtain ⟨z0, z1, z2, z3, z4, z5⟩ := own6 hz
    obtain ⟨X, hX', hXo, hXb, hXs, hXh⟩ := own_six hz (.slice none 0 0) (.slice none 0 0) (.int .i64 0) (.int .i64 0) (.slice none 0 0) (.slice none 0 0)
    have HX := Lib.hid (And.intro (hXb w.heap.size w (HB.out.trans (p2.h.mono HB.out.size)) (by omega)) hXo)
    have HN := Lib.hid (show ¬ StartOk f a b from fun h => by rcases HC.out.2.1 with ⟨_, e⟩ | ⟨e, _⟩; exact h2 e; exact e h.2.1)
    have HCD := Lib.hid (show codeSt f a b 4 from .inl ⟨rfl, fun h => by rcases HC.out.2.1 with ⟨_, e⟩ | ⟨e, _⟩; exact h2 e; exact e h.2.1⟩)
    have HR := Lib.hid hX'
    clear hz hXo hXb hXs hXh hX' h2 u3 u4 u5
    go_wp2_with fail
    rw [← HR.out]
    obtain ⟨x0, x1, x2, x3, x4, x5⟩ := own6 HX.out.2
    exact bodyPost_ret (v := .tuple #[.agg #[.slice none 0 0, .slice none 0 0, .int .i64 0, .int .i64 0, .slice none 0 0, .slice none 0 0], .int .i64 4]) (by simp [results, Tryz.results52, go_sem, x0, x1, x2, x3, x4, x5]) rfl (HF.out 4 _ _ HCD.out HN.out rfl HX.out.1)
  subst h2
  go_wp2_with fail
  refine (u3 p2).mono ?_
  rintro _ _ ⟨rfl, ⟨p3, rfl⟩⟩
  clear a0 a1 b0 b1 u3
  obtain ⟨a0, a1⟩ := hX p3
  obtain ⟨b0, b1⟩ := hY p3
  cases bf with
  | false =>
    have hz := HZ.out p3
    obtain ⟨f0, f1, f2, f3, f4, f5⟩ := own_frozen6 hz
    obtain ⟨z0, z1, z2, z3, z4, z5⟩ := own6 hz
    obtain ⟨X, hX', hXo, hXb, hXs, hXh⟩ := own_six hz (.slice none 0 0) (.slice none 0 0) (.int .i64 0) (.int .i64 0) (.slice none 0 0) (.slice none 0 0)
    have HX := Lib.hid (And.intro (hXb w.heap.size w (HB.out.trans (p3.h.mono HB.out.size)) (by omega)) hXo)
    have HN := Lib.hid (show ¬ StartOk f a b from fun h => by have := HC.out.2.2.1.2 h.2.2.1; cases this)
    have HCD := Lib.hid (show codeSt f a b 4 from .inl ⟨rfl, fun h => by have := HC.out.2.2.1.2 h.2.2; cases this⟩)
    have HR := Lib.hid hX'
    clear hz hXo hXb hXs hXh hX' u4 u5
    go_wp2_with fail
    rw [← HR.out]
    obtain ⟨x0, x1, x2, x3, x4, x5⟩ := own6 HX.out.2
    exact bodyPost_ret (v := .tuple #[.agg #[.slice none 0 0, .slice none 0 0, .int .i64 0, .int .i64 0, .slice none 0 0, .slice none 0 0], .int .i64 4]) (by simp [results, Tryz.results52, go_sem, x0, x1, x2, x3, x4, x5]) rfl (HF.out 4 _ _ HCD.out HN.out rfl HX.out.1)
  | true =>
  go_wp2_with fail
  refine (u4 p3).mono ?_
  rintro _ _ ⟨rfl, ⟨p4, rfl⟩⟩
  clear a0 a1 b0 b1 u4
  obtain ⟨a0, a1⟩ := hX p4
  obtain ⟨b0, b1⟩ := hY p4
  cases la with
  | false =>
    have hz := HZ.out p4
    obtain ⟨f0, f1, f2, f3, f4, f5⟩ := own_frozen6 hz
    obtain ⟨z0, z1, z2, z3, z4, z5⟩ := own6 hz
    obtain ⟨X, hX', hXo, hXb, hXs, hXh⟩ := own_six hz (.slice none 0 0) (.slice none 0 0) (.int .i64 0) (.int .i64 0) (.slice none 0 0) (.slice none 0 0)
    have HX := Lib.hid (And.intro (hXb w.heap.size w (HB.out.trans (p4.h.mono HB.out.size)) (by omega)) hXo)
    have HN := Lib.hid (show ¬ StartOk f a b from fun h => by have := HC.out.2.2.2.1.2 h.2.2.2.1; cases this)
    have HCD := Lib.hid (show codeSt f a b 1 from .inr ⟨rfl, by rcases HC.out.1 with ⟨e, _⟩ | ⟨_, e⟩; exact e; omega, by rcases HC.out.2.1 with ⟨e, _⟩ | ⟨_, e⟩; exact e; omega, HC.out.2.2.1.1 (by first | trivial | rfl)⟩)
    have HR := Lib.hid hX'
    clear hz hXo hXb hXs hXh hX' u5
    go_wp2_with fail
    rw [← HR.out]
    obtain ⟨x0, x1, x2, x3, x4, x5⟩ := own6 HX.out.2
    exact bodyPost_ret (v := .tuple #[.agg #[.slice none 0 0, .slice none 0 0, .int .i64 0, .int .i64 0, .slice none 0 0, .slice none 0 0], .int .i64 1]) (by simp [results, Tryz.results52, go_sem, x0, x1, x2, x3, x4, x5]) rfl (HF.out 1 _ _ HCD.out HN.out rfl HX.out.1)
  | true =>
  go_wp2_with fail
  refine (u5 p4).mono ?_
  rintro _ _ ⟨rfl, ⟨p5, rfl⟩⟩
  clear a0 a1 b0 b1 u5
  obtain ⟨a0, a1⟩ := hX p5
  obtain ⟨b0, b1⟩ := hY p5
  cases lb with
  | false =>
    have hz := HZ.out p5
    obtain ⟨f0, f1, f2, f3, f4, f5⟩ := own_frozen6 hz
    obtain ⟨z0, z1, z2, z3, z4, z5⟩ := own6 hz
    obtain ⟨X, hX', hXo, hXb, hXs, hXh⟩ := own_six hz (.slice none 0 0) (.slice none 0 0) (.int .i64 0) (.int .i64 0) (.slice none 0 0) (.slice none 0 0)
    have HX := Lib.hid (And.intro (hXb w.heap.size w (HB.out.trans (p5.h.mono HB.out.size)) (by omega)) hXo)
    have HN := Lib.hid (show ¬ StartOk f a b from fun h => by have := HC.out.2.2.2.2.2 h.2.2.2.2; cases this)
    have HCD := Lib.hid (show codeSt f a b 1 from .inr ⟨rfl, by rcases HC.out.1 with ⟨e, _⟩ | ⟨_, e⟩; exact e; omega, by rcases HC.out.2.1 with ⟨e, _⟩ | ⟨_, e⟩; exact e; omega, HC.out.2.2.1.1 (by first | trivial | rfl)⟩)
    have HR := Lib.hid hX'
    clear hz hXo hXb hXs hXh hX' hX
    go_wp2_with fail
    rw [← HR.out]
    obtain ⟨x0, x1, x2, x3, x4, x5⟩ := own6 HX.out.2
    exact bodyPost_ret (v := .tuple #[.agg #[.slice none 0 0, .slice none 0 0, .int .i64 0, .int .i64 0, .slice none 0 0, .slice none 0 0], .int .i64 1]) (by simp [results, Tryz.results52, go_sem, x0, x1, x2, x3, x4, x5]) rfl (HF.out 1 _ _ HCD.out HN.out rfl HX.out.1)
  | true =>
  have hst : StartOk f a b := by
    refine ⟨?_, ?_, HC.out.2.2.1.1 trivial, HC.out.2.2.2.1.1 trivial, HC.out.2.2.2.2.1 rfl⟩
    · rcases HC.out.1 with ⟨e, _⟩ | ⟨_, e⟩
      · exact e
      · omega
    · rcases HC.out.2.1 with ⟨e, _⟩ | ⟨_, e⟩
      · exact e
      · omega
  obtain ⟨U, hU⟩ : ∃ U, U = p5.w := ⟨_, rfl⟩
  have hUb : Below V.heap.size V U := hU ▸ p5.h
  have hza := HI.out.1.keep hUb
  have hzb := HI.out.2.1.keep hUb
  have hzf := (HI.out.2.2.past hUb (Nat.le_refl _)).wide hUb.size
  have hzz : Own U (w.heap.size + 2) 63 Mg.nil.cells := hU ▸ HZ.out p5
  rw [← hU] at a0 a1 b0 b1
  have y1 := fun W (h : Bl U W) => Lib.hid (copyUps_any a.uA a.uc a.l W (hza.keep h).ups HOK.out.2.1.l hst.1.2.1.2.2 HOK.out.2.2.1)
  have y2 := fun W (h : Bl U W) => Lib.hid (copyUps_any b.uA b.uc b.l W (hzb.keep h).ups HOK.out.2.2.2.1.l hst.2.1.2.1.2.2 HOK.out.2.2.2.2)
  have y3 := fun W (h : Bl U W) => Lib.hid (listT_times A c f W ((hzf.past h (Nat.le_refl _)).wide h.size) (by have := HOK.out.1.n; omega))
  have HS := Lib.hid (fun W (h : Bm (w.heap.size + 2) U W) => And.intro ((Below.cell (p := ⟨w.heap.size, 1, none⟩) h (by show w.heap.size < _; omega)).trans a1) ((Below.cell (p := ⟨w.heap.size + 1, 1, none⟩) h (by show w.heap.size + 1 < _; omega)).trans b1))
  have hbs : w.heap.size + 2 ≤ U.heap.size := Nat.le_of_lt hzz.inside
  have HT := Lib.hid (fun W (h : Bl U W) => hzz.past h hzz.inside)
  have HU := Lib.hid (And.intro (HB.out.trans (hUb.mono HB.out.size)) (And.intro hst hzz.inside))
  have hself := Bl.refl U
  clear hza hzb hzf hzz hUb hst hX hY a0 b0
  go_upto_region 5 with fail
  rw [← hU]
  clear hU
  go_region_held3 (fun w' => Bm (w.heap.size + 2) U w' ∧ (w'.cell? ⟨w.heap.size, 1, none⟩ = some (.slice a.uA a.l.length a.uc) ∧ w'.cell? ⟨w.heap.size + 1, 1, none⟩ = some (.slice b.uA b.l.length b.uc)))
    ((refine (fun h => And.intro h (HS.out _ h)) ?_; repeat (first | with_reducible exact Bm.of hb3 hbs | with_reducible exact Bm.of hb2 hbs | with_reducible exact Bm.of hb1 hbs | with_reducible exact Bm.of hself hbs | with_reducible refine Bm.set ?_ (Nat.le_refl _) _ _ | with_reducible refine Bm.more ?_ hbs _ | with_reducible refine Bm.drew ?_)))
    (first | (go_at_call 26; refine (y3 _ hb2).out.mono ?_; rintro _ w3 ⟨A3, rfl, v3, n3, b3⟩; have hb3 : Bl U w3 := Bl.call hb2 b3; have v1 := v1.keep b3; have v2 := v2.keep b3; obtain ⟨f0, f1, f2, f3, f4, f5⟩ := own_frozen6 (HT.out _ hb3); obtain ⟨e0, e1, e2, e3, e4, e5⟩ := own6 (HT.out _ hb3)) | (go_at_call 72; have hq := hb1; refine (y2 _ hb1).out.mono ?_; rintro _ w2 ⟨A2, l2, rfl, p2', v2, o2, n2, b2, _⟩; have hb2 : Bl U w2 := Bl.call hb1 b2; have v1 := v1.keep b2) | (go_at_call 72; refine (y1 _ hself.drew).out.mono ?_; rintro _ w1 ⟨A1, l1, rfl, p1', v1, o1, n1, b1', _⟩; have hb1 : Bl U w1 := Bl.call hself.drew b1'))
  obtain ⟨X, hX', hXo, hXb, hXs, hXh⟩ := own_six (HT.out _ hb3) (.slice A1 l1.length l1.length) (.slice A2 l2.length l2.length) (.int .i64 0) (.int .i64 0) (.slice A3 f.length f.length) (.slice none 0 0)
  have s1 : U.heap.size ≤ w1.heap.size := hb1.below.size
  have s2 : U.heap.size ≤ w2.heap.size := hb2.below.size
  have s0 : w.heap.size + 2 < U.heap.size := HU.out.2.2
  have n1' : U.drew.heap.size = U.heap.size := rfl
  have HX := Lib.hid (And.intro (hXb w.heap.size w (HU.out.1.trans (hb3.below.mono HU.out.1.size)) (by omega)) hXo)
  have HQ := Lib.hid (show MgIn X X.heap.size ⟨A1, l1.length, l1, A2, l2.length, l2, 0, 0, A3, f.length, f, none, 0, []⟩ from ⟨ups_other v1 (n1.mono (by omega)) hXs hXh, ups_other v2 (n2.mono (by omega)) hXs hXh, times_other v3 (fun b o e => by have h1 := (n3 b o e).1; omega) hXs hXh, ⟨Lies.nil_, fun u hu => by cases hu⟩⟩)
  have HN := Lib.hid (show MgLo w.heap.size ⟨A1, l1.length, l1, A2, l2.length, l2, 0, 0, A3, f.length, f, none, 0, []⟩ from ⟨n1.mono (by omega), n2.mono (by omega), fun b o e => (by have h1 := (n3 b o e).1; omega), lo_nil _⟩)
  have HK := Lib.hid (show MgOk ⟨A1, l1.length, l1, A2, l2.length, l2, 0, 0, A3, f.length, f, none, 0, []⟩ from ⟨⟨by show l1.length ≤ _; rw [len_p p1']; exact HOK.out.2.1.l.n, o1⟩, ⟨by show l2.length ≤ _; rw [len_p p2']; exact HOK.out.2.2.2.1.l.n, o2⟩, ⟨HOK.out.1.n, Nat.le_refl _, Nat.le_trans HOK.out.1.le HOK.out.1.c_⟩, us_nil, ⟨by show -9223372036854775808 ≤ (0 : Int); omega, by show (0 : Int) ≤ 9223372036854775807; omega⟩, ⟨by show -9223372036854775808 ≤ (0 : Int); omega, by show (0 : Int) ≤ 9223372036854775807; omega⟩⟩)
  have HM := Lib.hid (And.intro p1' p2')
  have HR := Lib.hid hX'
  clear hX' hXo hXb hXs hXh e0 e1 e2 e3 e4 e5 v1 v2 v3 n1 n2 n3 o1 o2 p1' p2' s1 s2 s0 n1' y1 y2 y3 hq a1 b1
  go_wp2_with fail
  rw [← HR.out]
  obtain ⟨x0, x1, x2, x3, x4, x5⟩ := own6 HX.out.2
  exact bodyPost_ret (v := .tuple #[.agg #[.slice A1 l1.length l1.length, .slice A2 l2.length l2.length, .int .i64 0, .int .i64 0, .slice A3 f.length f.length, .slice none 0 0], .int .i64 0]) (by simp [results, Tryz.results52, go_sem, x0, x1, x2, x3, x4, x5]) rfl (HP.out ⟨A1, l1.length, l1, A2, l2.length, l2, 0, 0, A3, f.length, f, none, 0, []⟩ _ _ HU.out.2.1 rfl ⟨HM.out.1, HM.out.2, rfl, rfl, rfl, rfl⟩ HQ.out HK.out HN.out HX.out.1 ⟨rfl, rfl⟩)
end Go.Proofs.YtenjlhlighkenaaGreat
namespace Go.Proofs.YtenjlhlighkenaaGreat
open Go Go.RowKit

theorem cls_pow {n k : Nat} (h : n < 2 ^ k) : clsN n ≤ k := by
  unfold clsN
  split
  · omega
  · rename_i h0
    have := (Nat.log2_lt h0).2 h
    omega
theorem ofm_nil (S : Nat → Prop) : OfM S Mg.nil := ⟨⟨fun hp => absurd hp (by decide), fun u hu => (by cases hu)⟩, ⟨fun hp => absurd hp (by decide), fun u hu => (by cases hu)⟩, fun hp => absurd hp (by decide), ⟨fun hp => absurd hp (by decide), fun u hu => (by cases hu)⟩⟩
theorem ofb_nil (S : Nat → Prop) : OfB S Bt.nil := ⟨fun hp => absurd hp (by decide), ⟨fun hp => absurd hp (by decide), fun u hu => (by cases hu)⟩⟩
theorem fall_len : ∀ {L : List Lv} {c : Int}, L.Pairwise (fun x y => y.cls < x.cls) → (∀ l ∈ L, 1 ≤ l.cls) → (∀ l ∈ L, l.cls ≤ c) → 0 ≤ c → (L.length : Int) ≤ c
  | [], c, _, _, _, h => h
  | x :: L, c, h, hp, hc, _ => by
    have h1 := List.pairwise_cons.1 h
    have h2 := hp x List.mem_cons_self
    have h3 := hc x List.mem_cons_self
    have := fall_len (c := x.cls - 1) h1.2 (fun l hl => hp l (List.mem_cons_of_mem _ hl)) (fun l hl => by have := h1.1 l hl; omega) (by omega)
    rw [List.length_cons]
    omega
theorem SpGood.cls_ {f : List Tm} {L : List Lv} (h : SpGood f L) (ok : ∀ l ∈ L, LvOk l) : ∀ l ∈ L, l.cls ≤ 41 := fun l hl => by
  have g := h.each l hl
  have o := ok l hl
  cases hb : l.busy
  · have := (g.idle hb).2.2.1
    have := cls_pow (n := l.b.l.length) (k := 41) (by have := o.b.l.n; omega)
    omega
  · have := (g.busy hb).2.2.2.1
    have := cls_pow (n := l.m.a.length) (k := 41) (by have := o.m.a.n; omega)
    omega
theorem SpGood.few {f : List Tm} {L : List Lv} (h : SpGood f L) (ok : ∀ l ∈ L, LvOk l) : L.length ≤ 41 := by
  have := fall_len h.fall h.pos (h.cls_ ok) (by decide)
  omega
theorem wt_le {L : List Lv} {l : Lv} (h : l ∈ L) : wtL l ≤ wtS L := by
  unfold wtS
  induction L with
  | nil => cases h
  | cons x L ih =>
    rw [List.map_cons, List.sum_cons]
    rcases List.mem_cons.1 h with rfl | h
    · exact Nat.le_add_right _ _
    · have := ih h; omega
def AllFr (f : List Tm) (L : List Lv) : Prop := ∀ l ∈ L, l.busy = true → l.m.i = 0 ∧ l.m.j = 0 ∧ l.m.o = [] ∧ l.m.f = f
def FailS (L : List Lv) : Prop := busyN L ≠ 0 ∧ (busyN L ≤ 1 → ∃ l ∈ L, l.busy = true ∧ consE [advL l.m.f (partsM l.m)] = 10)
def HasB (L : List Lv) (n : Nat) : Prop := ∃ l ∈ L, (l.busy = false ∧ l.b.l.length = n) ∨ (l.busy = true ∧ (l.m.a.length = n ∨ l.m.b.length = n))
structure HasTo (f : List Tm) (L L' : List Lv) (q : Nat) : Prop where
  new : busyN L ≤ 1 → q ≠ 0 → HasB L' q
  old : busyN L = 0 → ∀ n, HasB L n → HasB L' n
  fr : AllFr f L → AllFr f L'
theorem HasTo.refl (f : List Tm) (L : List Lv) : HasTo f L L 0 := ⟨fun _ h => absurd rfl h, fun _ _ h => h, fun h => h⟩
theorem has_new (f : List Tm) (L : List Lv) (i : Nat) (b : Bt) (c : Int) : HasTo f L (L.take i ++ ⟨c, false, b, Mg.nil⟩ :: L.drop i) b.l.length := ⟨fun _ _ => ⟨_, List.mem_append_right _ List.mem_cons_self, .inl ⟨rfl, rfl⟩⟩, fun _ n ⟨l, hl, h⟩ => ⟨l, by
  rw [← List.take_append_drop i L] at hl
  rcases List.mem_append.1 hl with hl | hl
  · exact List.mem_append_left _ hl
  · exact List.mem_append_right _ (List.mem_cons_of_mem _ hl), h⟩, fun h l hl hb => by
  rcases List.mem_append.1 hl with hl | hl
  · exact h l (List.mem_of_mem_take hl) hb
  · rcases List.mem_cons.1 hl with rfl | hl
    · cases hb
    · exact h l (List.mem_of_mem_drop hl) hb⟩
theorem has_start {f : List Tm} {L : List Lv} {p : Nat} {l : Lv} {m : Mg} {q : Nat} (hl : L[p]? = some l) (hidle : l.busy = false) (ha : m.a.length = l.b.l.length) (hb : m.b.length = q) (h0 : m.i = 0) (h1 : m.j = 0) (h2 : m.o = []) (h3 : m.f = f) : HasTo f L (L.set p ⟨l.cls, true, Bt.nil, m⟩) q := by
  have hlt := (List.getElem?_eq_some_iff.1 hl).1
  have hmem : (⟨l.cls, true, Bt.nil, m⟩ : Lv) ∈ L.set p ⟨l.cls, true, Bt.nil, m⟩ := List.mem_of_getElem? (i := p) (by rw [List.getElem?_set_self hlt])
  refine ⟨fun _ _ => ⟨_, hmem, .inr ⟨rfl, .inr hb⟩⟩, fun _ n ⟨x, hx, h⟩ => ?_, fun h x hx hb => by
    rcases List.mem_or_eq_of_mem_set hx with hx | rfl
    · exact h x hx hb
    · exact ⟨h0, h1, h2, h3⟩⟩
  obtain ⟨i, hi⟩ := List.getElem?_of_mem hx
  by_cases e : i = p
  · subst e
    rw [hl] at hi
    injection hi with hi
    subst hi
    rcases h with ⟨_, h⟩ | ⟨h, _⟩
    · exact ⟨_, hmem, .inr ⟨rfl, .inl (ha.trans h)⟩⟩
    · rw [hidle] at h; cases h
  · exact ⟨x, List.mem_of_getElem? (i := i) (by rw [List.getElem?_set_ne (Ne.symm e)]; exact hi), h⟩
structure PutOut (base g : Nat) (s : Sp) (X : List Up) (n wt : Nat) (w w' : World) (s' : Sp) : Prop where
  wk : Wk w' base g s'
  h1 : s'.sA = s.sA
  h2 : s'.sc = s.sc
  h3 : s'.f = s.f
  lA : blkS s'.lA = blkS s.lA ∨ ∃ q, blkS s'.lA = some q ∧ w.heap.size ≤ q
  put : PutTo s.f s.L s'.L X n wt
  has : HasTo s.f s.L s'.L X.length
def PutSays (base g : Nat) (s : Sp) (b : Bt) (w : World) (x : Ending) (w' : World) : Prop :=
  ∃ E : Int, x = .returned (.int .i64 E) ∧ KeptK w w' (SpS g s.lA) ∧ (E = 0 ∧ (∃ s', PutOut base g s b.l 1 b.l.length w w' s') ∨ E = 10 ∧ FailS s.L)
structure PutIn (base g : Nat) (s : Sp) (b : Bt) (w : World) : Prop where
  wk : Wk w base g s
  good : SpGood s.f s.L
  bin : BtIn w w.heap.size b
  bok : BtOk b
  boff : OfB (SpS g s.lA) b
  blo : BtLo base b
  right : BatchOk b.f b.l
  later : LaterF s.f b.f
  wt : wtS s.L + b.l.length ≤ 274877906944
theorem PutIn.past {base g : Nat} {s : Sp} {b : Bt} {w w' : World} (h : PutIn base g s b w) (hb : Below w.heap.size w w') : PutIn base g s b w' := ⟨h.wk.past hb, h.good, h.bin.keep hb, h.bok, h.boff, h.blo, h.right, h.later, h.wt⟩
theorem PutSays.first {base g : Nat} {s : Sp} {b : Bt} {w w1 w2 : World} {x : Ending} (hb : Below w.heap.size w w1) (h : PutSays base g s b w1 x w2) : PutSays base g s b w x w2 := by
  obtain ⟨E, h1, h2, h3⟩ := h
  refine ⟨E, h1, (KeptK.of_below hb (Nat.le_refl _) (SpS g s.lA)).trans h2 (fun _ _ e => e), ?_⟩
  rcases h3 with ⟨h0, s', k⟩ | h0
  · refine .inl ⟨h0, s', k.wk, k.h1, k.h2, k.h3, ?_, k.put, k.has⟩
    rcases k.lA with e | ⟨q, e, hq⟩
    · exact .inl e
    · exact .inr ⟨q, e, Nat.le_trans hb.size hq⟩
  · exact .inr h0
theorem put_level {base g i c' : Nat} {s : Sp} {b : Bt} {c : Int} {W V W2 : World} {A' : Option Addr} (h : PutIn base g s b W) (hi : i ≤ s.L.length) (hc : (clsN b.l.length : Int) = c) (hb1 : ∀ l ∈ s.L.take i, c < l.cls) (hb2 : ∀ l ∈ s.L.drop i, l.cls < c) (h0 : b.l.length ≠ 0) (hV : Below W.heap.size W V)
    (hr : W2.ownsRow base 65 10 (.slice A' (s.L.length + 1) c') (s.L.length + 1) ((s.L.flatMap Lv.cells).take (i * 10) ++ (⟨c, false, b, Mg.nil⟩ : Lv).cells ++ (s.L.flatMap Lv.cells).drop (i * 10))) (hg : V.grownBy W2 (Value.slice s.lA s.L.length s.lc).ownBlock)
    (hA : (Value.slice A' (s.L.length + 1) c').ownBlock = (Value.slice s.lA s.L.length s.lc).ownBlock ∨ (Value.slice A' (s.L.length + 1) c').ownBlock = some V.heap.size) :
    KeptK W (W2.setCell ⟨g, 1, none⟩ (.slice A' (s.L.length + 1) c')) (SpS g s.lA) ∧ ∃ s', PutOut base g s b.l 1 b.l.length W (W2.setCell ⟨g, 1, none⟩ (.slice A' (s.L.length + 1) c')) s' ∧ busyN s'.L = busyN s.L := by
  have hcn : clsN b.l.length ≤ 41 := cls_pow (by have := h.bok.l.n; omega)
  have h1 : 1 ≤ clsN b.l.length := by have := (cls_zero (n := b.l.length)).1; omega
  have hin : LvIn W W.heap.size ⟨c, false, b, Mg.nil⟩ := ⟨h.bin, mg_nil_in _ _⟩
  have hof : OfL (SpS g s.lA) ⟨c, false, b, Mg.nil⟩ := ⟨h.boff, ofm_nil _⟩
  have hok : LvOk ⟨c, false, b, Mg.nil⟩ := ⟨by show _ ≤ c ∧ c ≤ _; omega, h.bok, mg_nil_ok, mc_nil⟩
  have hfew := h.good.few h.wk.ok.each_
  obtain ⟨k1, k2, k3⟩ := h.wk.insert hin hof hok ⟨h.blo, mg_nil_lo _⟩ (by omega) hi hV hr hg hA
  refine ⟨k2, _, ⟨k1, rfl, rfl, rfl, k3, put_new h.good h.right h.later hc (by omega) hb1 hb2, has_new s.f s.L i b c⟩, ?_⟩
  have e : busyN s.L = busyN (s.L.take i) + busyN (s.L.drop i) := by rw [← busyN_app, List.take_append_drop]
  show busyN (s.L.take i ++ ⟨c, false, b, Mg.nil⟩ :: s.L.drop i) = _
  rw [busyN_app, busyN_cons, e]
  show _ + ((if false = true then 1 else 0) + _) = _
  rw [if_neg (by decide)]
  omega
structure NewM (f : List Tm) (a b : Bt) (m : Mg) : Prop where
  a_ : m.a.map Up.p = a.l.map Up.p
  b_ : m.b.map Up.p = b.l.map Up.p
  i_ : m.i = 0
  j_ : m.j = 0
  f_ : m.f = f
  o_ : m.o = []
theorem start_good (A : Option Addr) (c : Nat) (f : List Tm) (a b : Bt) (w : World) (hf : Times w w.heap.size A f) (hfo : TsOk f c) (ha : BtIn w w.heap.size a) (oa : BtOk a) (na : a.l.length ≤ 274877906944) (hb : BtIn w w.heap.size b) (ob : BtOk b) (nb : b.l.length ≤ 274877906944) (hs : StartOk f a b) :
    Calls Tryz.prog 52 #[.slice A f.length c, a.val, b.val] w fun x w' => ∃ m : Mg, x = .returned (.tuple #[m.val, .int .i64 0]) ∧ NewM f a b m ∧ MgIn w' w'.heap.size m ∧ MgOk m ∧ MgLo w.heap.size m ∧ Below w.heap.size w w' ∧ McOk m :=
  (start_any2C A c f a b w hf hfo ha oa na hb ob nb).mono fun x w' ⟨m, E, h1, h2, h3, h4, h5, h6, h7⟩ => by
    rcases h2 with ⟨rfl, _, k1, k2, k3, k4, k5, k6⟩ | ⟨_, _, k⟩
    · exact ⟨m, h1, ⟨k1, k2, k3, k4, k5, k6⟩, h3, h4, h5, h6, mc_of h4 h7⟩
    · exact absurd hs k
theorem put_merge {base g p G : Nat} {s : Sp} {b : Bt} {l : Lv} {m : Mg} {W : World} (h : PutIn base g s b W) (hl : s.L[p]? = some l) (hidle : l.busy = false) (hcl : l.cls = (clsN b.l.length : Int)) (hn : NewM s.f l.b b m) (im : MgIn W W.heap.size m) (om : MgOk m) (hof : OfM (SpS g s.lA) m) (lom : MgLo base m) (cm : McOk m) (hA : s.lA = some ⟨G, 0, none⟩) :
    KeptK W (setsAt W G (p * 10) (⟨l.cls, true, Bt.nil, m⟩ : Lv).cells) (SpS g s.lA) ∧ ∃ s', PutOut base g s b.l 1 b.l.length W (setsAt W G (p * 10) (⟨l.cls, true, Bt.nil, m⟩ : Lv).cells) s' := by
  have hlt := (List.getElem?_eq_some_iff.1 hl).1
  obtain ⟨k1, k2⟩ := h.wk.level (i := p) (l := ⟨l.cls, true, Bt.nil, m⟩) ⟨bt_nil_in _ _, im⟩ ⟨ofb_nil _, hof⟩ ⟨(h.wk.ok.each_ l (List.mem_of_getElem? hl)).c, bt_nil_ok, om, cm⟩ ⟨bt_nil_lo _, lom⟩ hlt hA
  exact ⟨k2, _, k1, rfl, rfl, rfl, .inl rfl, put_start h.good hl hidle h.right h.later hcl.symm hn.a_ hn.b_ hn.i_ hn.j_ hn.f_ hn.o_, has_start hl hidle (len_p hn.a_) (len_p hn.b_) hn.i_ hn.j_ hn.o_ hn.f_⟩
theorem PutOut.first {base g n wt : Nat} {s s' : Sp} {X : List Up} {w w1 w2 : World} (hb : Below w.heap.size w w1) (k : PutOut base g s X n wt w1 w2 s') : PutOut base g s X n wt w w2 s' := by
  refine ⟨k.wk, k.h1, k.h2, k.h3, ?_, k.put, k.has⟩
  rcases k.lA with e | ⟨q, e, hq⟩
  · exact .inl e
  · exact .inr ⟨q, e, Nat.le_trans hb.size hq⟩
theorem lvbox1 (w : World) (b : Bt) (c : Int) : Below w.heap.size w (w.alloc (.cells #[.int .i64 c, .bool false, .slice b.sA b.f.length b.sc, .slice b.uA b.l.length b.uc, .slice none 0 0, .slice none 0 0, .int .i64 0, .int .i64 0, .slice none 0 0, .slice none 0 0] 65)).drew ∧ Own (w.alloc (.cells #[.int .i64 c, .bool false, .slice b.sA b.f.length b.sc, .slice b.uA b.l.length b.uc, .slice none 0 0, .slice none 0 0, .int .i64 0, .int .i64 0, .slice none 0 0, .slice none 0 0] 65)).drew w.heap.size 65 (⟨c, false, b, Mg.nil⟩ : Lv).cells :=
  ⟨Below.drew ((Below.refl _ _).alloc (Nat.le_refl _) _), Own.made w _ _⟩
def PutNew (base g : Nat) (s : Sp) (b : Bt) (w : World) (x : Ending) (w' : World) : Prop :=
  x = .returned (.int .i64 0) ∧ KeptK w w' (SpS g s.lA) ∧ ∃ s', PutOut base g s b.l 1 b.l.length w w' s' ∧ busyN s'.L = busyN s.L
theorem PutNew.says {base g : Nat} {s : Sp} {b : Bt} {w w' : World} {x : Ending} (h : PutNew base g s b w x w') : PutSays base g s b w x w' := by
  obtain ⟨h1, h2, s', h3, _⟩ := h
  exact ⟨0, h1, h2, .inl ⟨rfl, s', h3⟩⟩
end Go.Proofs.YtenjlhlighkenaaGreat
namespace Go.Proofs.YtenjlhlighkenaaGreat
open Go Go.RowKit

def leftL (l : Lv) : Nat := if l.busy = true then leftM l.m else 0
def leftS (L : List Lv) : Nat := (L.map leftL).sum
def partsD (D : List Bt) : List Up := D.flatMap fun b => b.l
theorem leftS_app (L M : List Lv) : leftS (L ++ M) = leftS L + leftS M := by unfold leftS; rw [List.map_append, List.sum_append]
theorem leftS_cons (l : Lv) (L : List Lv) : leftS (l :: L) = leftL l + leftS L := by unfold leftS; rw [List.map_cons, List.sum_cons]
theorem partsD_app (D E : List Bt) : partsD (D ++ E) = partsD D ++ partsD E := List.flatMap_append ..
theorem partsD_cons (b : Bt) (D : List Bt) : partsD (b :: D) = b.l ++ partsD D := List.flatMap_cons ..
theorem partsD_one (b : Bt) : partsD [b] = b.l := by rw [partsD_cons]; exact List.append_nil _
theorem left_wt (L : List Lv) : leftS L ≤ wtS L := by
  induction L with
  | nil => exact Nat.le_refl _
  | cons l L ih =>
    rw [leftS_cons, wtS_cons]
    have : leftL l ≤ wtL l := by
      unfold leftL wtL
      split
      · have : leftM l.m ≤ l.m.a.length + l.m.b.length := by unfold leftM; omega
        omega
      · omega
    omega
structure WkSt (f : List Tm) (L : List Lv) (fuel : Int) (p : Nat) (L1 : List Lv) (D : List Bt) (c : Nat) : Prop where
  good : SpGood f L1
  le : p ≤ L.length
  pre : L1.take p = L.take p
  eq : EqS f (partsS L1 ++ partsD D) (partsS L)
  cnt : cntS L1 + 2 * D.length = cntS L
  wt : wtS L1 + (partsD D).length ≤ wtS L
  each : ∀ b ∈ D, BatchOk b.f b.l ∧ LaterF f b.f
  busy : busyN L1 + D.length = busyN L
  cost : busyN L ≤ busyN (L.take p) + c
  left : c + leftS L1 ≤ leftS L
  few : L1.length ≤ L.length
  fin : (leftS L : Int) < fuel → busyN L1 = busyN (L.take p)
theorem WkSt.start {f : List Tm} {L : List Lv} (fuel : Int) (h : SpGood f L) : WkSt f L fuel L.length L [] 0 :=
  ⟨h, Nat.le_refl _, rfl, by show EqS f (partsS L ++ []) (partsS L); rw [List.append_nil]; exact EqS.refl h.chk, rfl, Nat.le_refl _, fun b hb => (by cases hb), rfl, by rw [List.take_length]; exact Nat.le_refl _, by omega, Nat.le_refl _, fun _ => by rw [List.take_length]⟩
section
variable {f : List Tm} {L L1 : List Lv} {fuel : Int} {p c : Nat} {D : List Bt} {l : Lv}
theorem takeW_one (h : L[p]? = some l) : L.take (p + 1) = L.take p ++ [l] := by rw [List.take_add_one, h]; rfl
theorem pre_less (h : L1.take (p + 1) = L.take (p + 1)) : L1.take p = L.take p := by
  have := congrArg (List.take p) h
  rwa [List.take_take, List.take_take, Nat.min_eq_left (by omega)] at this
theorem pre_at (h : L1.take (p + 1) = L.take (p + 1)) (hl : L[p]? = some l) : L1[p]? = some l := by
  have h1 : (L1.take (p + 1))[p]? = some l := by rw [h, List.getElem?_take_of_lt (by omega)]; exact hl
  rwa [List.getElem?_take_of_lt (by omega)] at h1
theorem busyN_take (hl : L[p]? = some l) : busyN (L.take (p + 1)) = busyN (L.take p) + (if l.busy = true then 1 else 0) := by
  rw [takeW_one hl, busyN_app, busyN_cons]
  show _ + (_ + 0) = _
  omega
theorem WkSt.skip (h : WkSt f L fuel (p + 1) L1 D c) (hl : L[p]? = some l) (hb : l.busy = false) : WkSt f L fuel p L1 D c := by
  have e : busyN (L.take (p + 1)) = busyN (L.take p) := by
    have := busyN_take hl
    rw [if_neg (by rw [hb]; decide)] at this
    omega
  exact ⟨h.good, by have := h.le; omega, pre_less h.pre, h.eq, h.cnt, h.wt, h.each, h.busy, by rw [← e]; exact h.cost, h.left, h.few, fun hf => by rw [← e]; exact h.fin hf⟩
theorem partsD_chk (h : ∀ b ∈ D, BatchOk b.f b.l ∧ LaterF f b.f) : chkUs (partsD D) = 0 := chkUs_all.2 fun u hu => by
  obtain ⟨b, hb, hu⟩ := List.mem_flatMap.1 hu
  exact chkUs_all.1 (h b hb).1.2.1.2.2 u hu
theorem WkSt.took (h : WkSt f L fuel (p + 1) L1 D c) (hl : L[p]? = some l) (hb : l.busy = true) {e : Bt} {k : Nat} (T : TookOut f L1 p e) (hk : k = leftM l.m) (hk1 : 0 < k) : WkSt f L fuel p (L1.eraseIdx p) (D ++ [e]) (c + k) := by
  have he := busyN_take hl
  rw [if_pos hb] at he
  have hl1 := pre_at h.pre hl
  have hL := split_at' hl1
  have her : L1.eraseIdx p = L1.take p ++ L1.drop (p + 1) := List.eraseIdx_eq_take_drop_succ ..
  have hleft : leftS (L1.eraseIdx p) + leftM l.m = leftS L1 := by
    have h1 : leftS L1 = leftS (L1.take p) + (leftM l.m + leftS (L1.drop (p + 1))) := by
      conv => lhs; rw [hL]
      rw [leftS_app, leftS_cons]
      unfold leftL
      rw [if_pos hb]
    rw [her, leftS_app, h1]
    omega
  have hT1 := T.cnt
  have hT2 := T.wt
  have hT3 := T.busy
  have h1 := h.cnt
  have h2 := h.wt
  have h3 := h.busy
  have h4 := h.cost
  have h5 := h.left
  have hlt := (List.getElem?_eq_some_iff.1 hl1).1
  have ck := partsD_chk h.each
  refine ⟨T.good, by have := h.le; omega, ?_, ?_, ?_, ?_, ?_, ?_, ?_, by omega, by have := h.few; rw [List.length_eraseIdx]; split <;> omega, ?_⟩
  · rw [her, List.take_append_of_le_length (by rw [List.length_take]; omega), List.take_take, Nat.min_self]
    exact pre_less h.pre
  · rw [partsD_app, partsD_one]
    refine EqS.trans (Y := (partsS (L1.eraseIdx p) ++ e.l) ++ partsD D) ?_ ((EqS.app T.eq (EqS.refl ck)).trans h.eq)
    refine EqS.perm (chkUs_join T.good.chk (chkUs_join ck T.ok.2.1.2.2)) ?_
    rw [List.append_assoc]
    exact List.Perm.append_left _ List.perm_append_comm
  · rw [List.length_append]; show _ + 2 * (_ + 1) = _; omega
  · rw [partsD_app, partsD_one, List.length_append]; omega
  · intro b hb
    rcases List.mem_append.1 hb with hb | hb
    · exact h.each b hb
    · obtain rfl := List.mem_singleton.1 hb
      exact ⟨T.ok, T.later⟩
  · rw [List.length_append]; show _ + (_ + 1) = _; omega
  · omega
  · intro hf
    have := h.fin hf
    omega
theorem WkSt.went (h : WkSt f L fuel (p + 1) L1 D c) (hl : L[p]? = some l) (hb : l.busy = true) {m' : Mg} {k : Nat} (pa : m'.a.map Up.p = l.m.a.map Up.p) (pb : m'.b.map Up.p = l.m.b.map Up.p) (pf : m'.f = l.m.f) (mok : MOk m') (hk : k + leftM m' = leftM l.m) (hk1 : 0 < k) (hlm : 0 < leftM m')
    (hst : leftM m' = 0 ∨ fuel - (c : Int) ≤ (k : Int)) (heq : EqS l.m.f (partsM m') (partsM l.m)) (hlen : (partsM m').length ≤ (partsM l.m).length) : WkSt f L fuel p (L1.set p ⟨l.cls, true, l.b, m'⟩) D (c + k) := by
  have he := busyN_take hl
  rw [if_pos hb] at he
  have hl1 := pre_at h.pre hl
  have hL := split_at' hl1
  have hlt := (List.getElem?_eq_some_iff.1 hl1).1
  have hset : L1.set p ⟨l.cls, true, l.b, m'⟩ = L1.take p ++ ⟨l.cls, true, l.b, m'⟩ :: L1.drop (p + 1) := List.set_eq_take_append_cons_drop .. |>.trans (if_pos hlt)
  have hm := List.mem_of_getElem? hl1
  have gi := (h.good.each l hm).busy hb
  have hla := len_p pa
  have hlb := len_p pb
  have hgl : LvGood f ⟨l.cls, true, l.b, m'⟩ := ⟨fun _ => ⟨gi.1, gi.2.1, mok, by rw [hla]; exact gi.2.2.2.1, by rw [hlb]; exact gi.2.2.2.2.1, by rw [pf]; exact gi.2.2.2.2.2.1, hlm⟩, fun h => (by cases h)⟩
  have hfl := h.good.fall
  rw [hL] at hfl
  have hfl := List.pairwise_append.1 hfl
  have hfc := List.pairwise_cons.1 hfl.2.1
  have hmem : ∀ x ∈ L1.take p ++ (⟨l.cls, true, l.b, m'⟩ : Lv) :: L1.drop (p + 1), x = ⟨l.cls, true, l.b, m'⟩ ∨ x ∈ L1 := fun x hx => by
    rcases List.mem_append.1 hx with hx | hx
    · exact .inr (List.mem_of_mem_take hx)
    · rcases List.mem_cons.1 hx with hx | hx
      · exact .inl hx
      · exact .inr (List.mem_of_mem_drop hx)
  have hg : SpGood f (L1.take p ++ ⟨l.cls, true, l.b, m'⟩ :: L1.drop (p + 1)) := by
    refine ⟨h.good.front, fun x hx => ?_, ?_, fun x hx => ?_⟩
    · rcases hmem x hx with rfl | hx
      · exact h.good.pos l hm
      · exact h.good.pos x hx
    · refine List.pairwise_append.2 ⟨hfl.1, List.pairwise_cons.2 ⟨hfc.1, hfc.2⟩, fun x hx y hy => ?_⟩
      rcases List.mem_cons.1 hy with rfl | hy
      · exact hfl.2.2 x hx l List.mem_cons_self
      · exact hfl.2.2 x hx y (List.mem_cons_of_mem _ hy)
    · rcases hmem x hx with rfl | hx
      · exact hgl
      · exact h.good.each x hx
  have cks := h.good.chk
  have eL : partsS L1 = partsS (L1.take p) ++ (partsM l.m ++ partsS (L1.drop (p + 1))) := by
    conv => lhs; rw [hL]
    rw [partsS_app, partsS_cons]
    unfold partsL
    rw [if_pos hb]
  have eM : partsS (L1.take p ++ ⟨l.cls, true, l.b, m'⟩ :: L1.drop (p + 1)) = partsS (L1.take p) ++ (partsM m' ++ partsS (L1.drop (p + 1))) := by
    rw [partsS_app, partsS_cons]
    rfl
  have e1 : EqS f (partsM m') (partsM l.m) := EqS.later heq gi.2.2.1.front.right gi.2.2.2.2.2.1
  rw [eL] at cks
  have c1 := chkUs_parts cks
  have c2 := chkUs_parts c1.2
  have hse : EqS f (partsS (L1.take p ++ ⟨l.cls, true, l.b, m'⟩ :: L1.drop (p + 1))) (partsS L1) := by
    rw [eM, eL]
    exact EqS.app (EqS.refl c1.1) (EqS.app e1 (EqS.refl c2.2))
  have h1 := h.cnt
  have h2 := h.wt
  have h3 := h.busy
  have h4 := h.cost
  have h5 := h.left
  have n1 : cntS (L1.take p ++ ⟨l.cls, true, l.b, m'⟩ :: L1.drop (p + 1)) = cntS L1 := by
    conv => rhs; rw [hL]
    rw [cntS_app, cntS_cons, cntS_app, cntS_cons]
    unfold cntL
    rw [if_pos rfl, if_pos hb]
  have n2 : busyN (L1.take p ++ ⟨l.cls, true, l.b, m'⟩ :: L1.drop (p + 1)) = busyN L1 := by
    conv => rhs; rw [hL]
    rw [busyN_app, busyN_cons, busyN_app, busyN_cons, if_pos rfl, if_pos hb]
  have n3 : wtS (L1.take p ++ ⟨l.cls, true, l.b, m'⟩ :: L1.drop (p + 1)) ≤ wtS L1 := by
    conv => rhs; rw [hL]
    rw [wtS_app, wtS_cons, wtS_app, wtS_cons]
    have : wtL ⟨l.cls, true, l.b, m'⟩ ≤ wtL l := by
      unfold wtL
      rw [if_pos rfl, if_pos hb]
      show max (m'.a.length + m'.b.length) (partsM m').length ≤ _
      rw [hla, hlb]
      omega
    omega
  have n4 : leftS (L1.take p ++ ⟨l.cls, true, l.b, m'⟩ :: L1.drop (p + 1)) + k = leftS L1 := by
    conv => rhs; rw [hL]
    rw [leftS_app, leftS_cons, leftS_app, leftS_cons]
    unfold leftL
    rw [if_pos rfl, if_pos hb]
    show _ + (leftM m' + _) + _ = _
    omega
  rw [hset]
  refine ⟨hg, by have := h.le; omega, ?_, (EqS.app hse (EqS.refl (partsD_chk h.each))).trans h.eq, by omega, by omega, h.each, by omega, by omega, by omega, by have := h.few; rw [← hset, List.length_set]; exact this, fun hf => ?_⟩
  · rw [List.take_append_of_le_length (by rw [List.length_take]; omega), List.take_take, Nat.min_self]
    exact pre_less h.pre
  · rcases hst with h0 | h0
    · omega
    · omega
end
structure PtSt (f : List Tm) (L : List Lv) (D : List Bt) (j : Nat) (L1 L2 : List Lv) : Prop where
  good : SpGood f L2
  eq : EqS f (partsS L2 ++ partsD (D.drop j)) (partsS L)
  cnt : cntS L2 ≤ cntS L1 + j
  wt : wtS L2 + (partsD (D.drop j)).length ≤ wtS L
  none_ : j = 0 → L2 = L1
theorem WkSt.puts {f : List Tm} {L L1 : List Lv} {fuel : Int} {p c : Nat} {D : List Bt} (h : WkSt f L fuel p L1 D c) : PtSt f L D 0 L1 L1 := ⟨h.good, h.eq, Nat.le_refl _, h.wt, fun _ => rfl⟩
theorem PtSt.next {f : List Tm} {L L1 L2 L3 : List Lv} {D : List Bt} {j : Nat} {b : Bt} (h : PtSt f L D j L1 L2) (hb : D[j]? = some b) (hp : PutTo f L2 L3 b.l 1 b.l.length) : PtSt f L D (j + 1) L1 L3 := by
  have hlt := (List.getElem?_eq_some_iff.1 hb)
  have hd : D.drop j = b :: D.drop (j + 1) := by rw [← hlt.2]; exact List.drop_eq_getElem_cons hlt.1
  have he := h.eq
  have hw := h.wt
  rw [hd, partsD_cons] at he hw
  rw [List.length_append] at hw
  have ck := (chkUs_parts (chkUs_parts he.l).2).2
  have h1 := hp.cnt
  have h2 := hp.wt
  have h3 := h.cnt
  refine ⟨hp.good, (EqS.app hp.eq (EqS.refl ck)).trans (by rw [List.append_assoc]; exact he), by omega, by omega, fun h0 => by omega⟩
structure WkFin (f : List Tm) (L : List Lv) (fuel : Int) (L2 : List Lv) (c : Nat) : Prop where
  good : SpGood f L2
  eq : EqS f (partsS L2) (partsS L)
  cnt : cntS L2 ≤ cntS L
  wt : wtS L2 ≤ wtS L
  left : c ≤ wtS L
  full : (wtS L : Int) < fuel → cntS L2 + busyN L ≤ cntS L ∧ (busyN L2 ≠ 0 → 0 < c ∧ busyN L ≠ 0)
theorem WkSt.done {f : List Tm} {L L1 L2 : List Lv} {fuel : Int} {p c : Nat} {D : List Bt} (h : WkSt f L fuel p L1 D c) (hp : p = 0 ∨ fuel ≤ (c : Int)) (k : PtSt f L D D.length L1 L2) : WkFin f L fuel L2 c := by
  have hd : D.drop D.length = [] := List.drop_length
  have he := k.eq
  have hw := k.wt
  rw [hd] at he hw
  have he : EqS f (partsS L2 ++ []) (partsS L) := he
  rw [List.append_nil] at he
  have h1 := h.cnt
  have h2 := k.cnt
  have h5 := h.left
  have hlw := left_wt L
  refine ⟨k.good, he, by omega, by omega, by omega, fun hf => ?_⟩
  have h3 := h.fin (by omega)
  have h4 := h.busy
  rcases hp with rfl | hp
  · rw [List.take_zero] at h3
    have h3 : busyN L1 = 0 := h3
    refine ⟨by omega, fun hb => ?_⟩
    have h6 := h.cost
    rw [List.take_zero] at h6
    have h6 : busyN L ≤ 0 + c := h6
    by_cases h0 : D.length = 0
    · have := k.none_ h0
      rw [this, h3] at hb
      exact absurd rfl hb
    · exact ⟨by omega, by omega⟩
  · omega
end Go.Proofs.YtenjlhlighkenaaGreat
namespace Go.Proofs.YtenjlhlighkenaaGreat
open Go Go.RowKit

set_option maxRecDepth 100000 in
set_option maxHeartbeats 25600000 in
theorem rightB_any (cl : Int) (b : Bt) (m : Mg) (A : Option Addr) (c : Nat) (f : List Tm) (w : World) (hl : LvIn w w.heap.size ⟨cl, true, b, m⟩) (ol : LvOk ⟨cl, true, b, m⟩) (hf : Times w w.heap.size A f) (hfo : TsOk f c) :
    Calls Tryz.prog 28 #[(⟨cl, true, b, m⟩ : Lv).val, .slice A f.length c] w (Tells (LvGood f ⟨cl, true, b, m⟩) w) := by
  obtain ⟨V, hV, hvb, hvs, hvo⟩ := lvbox w ⟨cl, true, b, m⟩
  obtain ⟨a0, a1, a2, a3, a4, a5, a6, a7, a8, a9⟩ := own10 hvo
  have hin := hl.keep hvb
  have hfV := (hf.past hvb (Nat.le_refl _)).wide hvb.size
  have HL := Lib.hid (And.intro hin.b (And.intro hin.m (And.intro ol.b (And.intro ol.m (And.intro hfV hfo)))))
  have HB := Lib.hid (And.intro hvb hvo)
  have hlt : w.heap.size < V.heap.size := hvo.inside
  rw [show (⟨cl, true, b, m⟩ : Lv).val = .agg #[.int .i64 cl, .bool true, .slice b.sA b.f.length b.sc, .slice b.uA b.l.length b.uc, .slice m.aA m.a.length m.ac, .slice m.bA m.b.length m.bc, .int .i64 m.i, .int .i64 m.j, .slice m.sA m.f.length m.sc, .slice m.oA m.o.length m.oc] from rfl]
  dsimp only at hV a0 a1 a2 a3 a4 a5 a6 a7 a8 a9
  clear hl ol hf hfo hvb hvs hvo hin hfV
  go_enter Tryz.func28, Tryz.ntmps28
  go_upto_region 1 with fail
  rw [← hV]
  clear hV
  go_cut [5, 6] (fun s5 s6 wx => ∃ P Q : Nat, s5 = .pointer (some ⟨P, 0, none⟩) ∧ s6 = .pointer (some ⟨Q, 0, none⟩) ∧ Own wx P 61 b.cells ∧ Own wx Q 63 m.cells ∧ Below V.heap.size V wx)
  case first =>
    go_region
    all_goals
      go_wp2_with fail
      go_meet
    · obtain ⟨x1, x2, x3⟩ := two_alloc V 61 63 b.cells m.cells
      exact ⟨_, _, rfl, rfl, x1, x2, x3⟩
    · obtain ⟨x1, x2, x3⟩ := two_alloc V 63 61 m.cells b.cells
      exact ⟨_, _, rfl, rfl, x2, x1, x3⟩
  case rest =>
    obtain ⟨P, Q, rfl, rfl, hP, hQ, hb⟩ := hcut
    have oL := HB.out.2.past hb HB.out.2.inside
    have hX := fun p : Past wc => own10 (oL.past p.h oL.inside)
    have hP2 := fun p : Past wc => own2 (hP.past p.h hP.inside)
    have hQ6 := fun p : Past wc => own6 (hQ.past p.h hQ.inside)
    dsimp only at hX
    have HW := Lib.hid (belows HB.out.1 hb)
    obtain ⟨ib, im, ob, om, hfV, hfo⟩ := HL.out
    have ib := ib.keep hb
    have im := im.keep hb
    have hfV := (hfV.past hb (Nat.le_refl _)).wide hb.size
    have n1 := hfo.n
    have m1 : f.length ≤ maxLen := Nat.le_trans hfo.le hfo.c_
    have n2 := om.f.n
    have n3 := om.a.n
    have n4 := om.b.n
    obtain ⟨z1, hz1⟩ : ∃ z : Bool, ((b.f.length : Int) == 0) = z := ⟨_, rfl⟩
    obtain ⟨z2, hz2⟩ : ∃ z : Bool, ((b.l.length : Int) == 0) = z := ⟨_, rfl⟩
    obtain ⟨c1, hc1⟩ : ∃ z : Bool, ((clsN m.a.length : Int) == cl) = z := ⟨_, rfl⟩
    obtain ⟨c2, hc2⟩ : ∃ z : Bool, ((clsN m.b.length : Int) == cl) = z := ⟨_, rfl⟩
    obtain ⟨K, hK⟩ := code_of (MOk m) 8
    obtain ⟨z3, hz3⟩ : ∃ z : Bool, (K == 0) = z := ⟨_, rfl⟩
    obtain ⟨bl, hbl⟩ := bool_of (LaterF f m.f)
    obtain ⟨lf, hlf⟩ := bool_of (m.i < (m.a.length : Int) ∨ m.j < (m.b.length : Int))
    have u1 := fun p : Past wc => calls_past ((checkM_any m p.w (im.keep p.h) om).mono fun x w' h => codes_is hK h)
    have u2 := fun p : Past wc => calls_past (class_any m.aA m.ac m.a.length p.w n3)
    have u3 := fun p : Past wc => calls_past (class_any m.bA m.bc m.b.length p.w n4)
    have u4 := fun p : Past wc => calls_past ((later_any A c f m.sA m.sc m.f p.w ((hfV.past p.h (Nat.le_refl _)).wide p.h.size) m1 (im.keep p.h).f (Nat.le_trans om.f.le om.f.c_)).mono fun x w' h => tells_is hbl h)
    have u5 := fun p : Past wc => calls_past ((left_anyS m p.w).mono fun x w' h => tells_is hlf h)
    have HE := Lib.hid (show LvGood f ⟨cl, true, b, m⟩ ↔ (z1 = true ∧ z2 = true ∧ z3 = true ∧ c1 = true ∧ c2 = true ∧ bl = true ∧ lf = true) from by
      have e3 : z3 = true ↔ MOk m := by
        rw [← hz3]
        rcases hK with ⟨h1, h2⟩ | ⟨h1, h2⟩
        · rw [h2]; exact ⟨fun _ => h1, fun _ => rfl⟩
        · rw [h2]; exact ⟨fun h => (by cases h), fun h => absurd h h1⟩
      have e1 : z1 = true ↔ b.f = [] := by rw [← hz1, beq_iff_eq, ← List.length_eq_zero_iff]; omega
      have e2 : z2 = true ↔ b.l = [] := by rw [← hz2, beq_iff_eq, ← List.length_eq_zero_iff]; omega
      have e4 : c1 = true ↔ (clsN m.a.length : Int) = cl := by rw [← hc1, beq_iff_eq]
      have e5 : c2 = true ↔ (clsN m.b.length : Int) = cl := by rw [← hc2, beq_iff_eq]
      rw [e1, e2, e3, e4, e5, hbl, hlf]
      constructor
      · intro h
        obtain ⟨h1, h2, h3, h4, h5, h6, h7⟩ := h.busy rfl
        refine ⟨h1, h2, h3, h4, h5, h6, ?_⟩
        have k1 := h3.da.lo
        have k2 := h3.db.lo
        have h7 : 0 < (m.a.length - m.i.toNat) + (m.b.length - m.j.toNat) := h7
        omega
      · rintro ⟨h1, h2, h3, h4, h5, h6, h7⟩
        refine ⟨fun _ => ⟨h1, h2, h3, h4, h5, h6, ?_⟩, fun h => (by cases h)⟩
        have k1 := h3.da.lo
        have k2 := h3.db.lo
        show 0 < (m.a.length - m.i.toNat) + (m.b.length - m.j.toNat)
        omega)
    obtain ⟨a0, a1, a2, a3, a4, a5, a6, a7, a8, a9⟩ := hX ⟨wc, Below.refl _ _⟩
    obtain ⟨b0, b1⟩ := hP2 ⟨wc, Below.refl _ _⟩
    dsimp only at a0 a1 a2 a3 a4 a5 a6 a7 a8 a9 b0 b1
    clear hbl hlf hK HL HB oL hP hQ hb ib im ob om hfV hfo m1 n1 n2 n3 n4
    unfold Mg.val at u1 u5
    cases z1 with
    | false =>
      go_upto_region 4 with fail
      clear a0 a1 a2 a3 a4 a5 a6 a7 a8 a9 b0 b1
      refine wp_region_past wc (by kernel_rfl) (by kernel_rfl) (Below.refl _ _) ?_
      repeat (first | go_big_quiet_step (fail) | quiet_step (fail))
      refine wpQuiet_nil ?_
      intro wz hw'
      obtain ⟨⟨wy, hbz⟩, hw''⟩ := hw'
      dsimp only at hw''
      subst hw''
      have HZ := Lib.hid (belows HW.out hbz)
      clear hX hP2 hQ6 hbz
      go_wp2_with fail
      go_ret
      exact ⟨false, rfl, (HE.out.trans (by simp)).symm, HZ.out⟩
    | true =>
    cases z2 with
    | false =>
      go_upto_region 4 with fail
      clear a0 a1 a2 a3 a4 a5 a6 a7 a8 a9 b0 b1
      refine wp_region_past wc (by kernel_rfl) (by kernel_rfl) (Below.refl _ _) ?_
      repeat (first | go_big_quiet_step (fail) | quiet_step (fail))
      refine wpQuiet_nil ?_
      intro wz hw'
      obtain ⟨⟨wy, hbz⟩, hw''⟩ := hw'
      dsimp only at hw''
      subst hw''
      have HZ := Lib.hid (belows HW.out hbz)
      clear hX hP2 hQ6 hbz
      go_wp2_with fail
      go_ret
      exact ⟨false, rfl, (HE.out.trans (by simp)).symm, HZ.out⟩
    | true =>
    cases z3 with
    | false =>
      go_upto_region 4 with fail
      clear a0 a1 a2 a3 a4 a5 a6 a7 a8 a9 b0 b1
      refine wp_region_past wc (by kernel_rfl) (by kernel_rfl) (Below.refl _ _) ?_
      repeat (first | go_big_quiet_step (fail) | quiet_step (fail))
      quiet_step ((go_at_call 60; exact u1 _))
      repeat (first | go_big_quiet_step (fail) | quiet_step (fail))
      refine wpQuiet_nil ?_
      intro wz hw'
      obtain ⟨⟨wy, hbz⟩, hw''⟩ := hw'
      dsimp only at hw''
      subst hw''
      have HZ := Lib.hid (belows HW.out hbz)
      clear hX hP2 hQ6 hbz
      go_wp2_with fail
      go_ret
      exact ⟨false, rfl, (HE.out.trans (by simp)).symm, HZ.out⟩
    | true =>
    cases c1 with
    | false =>
      go_upto_region 4 with fail
      clear a0 a1 a2 a3 a4 a5 a6 a7 a8 a9 b0 b1
      refine wp_region_past wc (by kernel_rfl) (by kernel_rfl) (Below.refl _ _) ?_
      repeat (first | go_big_quiet_step (fail) | quiet_step (fail))
      quiet_step ((go_at_call 60; exact u1 _))
      repeat (first | go_big_quiet_step (fail) | quiet_step (fail))
      quiet_step ((go_at_call 48; exact u2 _))
      repeat (first | go_big_quiet_step (fail) | quiet_step (fail))
      refine wpQuiet_nil ?_
      intro wz hw'
      obtain ⟨⟨wy, hbz⟩, hw''⟩ := hw'
      dsimp only at hw''
      subst hw''
      have HZ := Lib.hid (belows HW.out hbz)
      clear hX hP2 hQ6 hbz
      go_wp2_with fail
      go_ret
      exact ⟨false, rfl, (HE.out.trans (by simp)).symm, HZ.out⟩
    | true =>
    cases c2 with
    | false =>
      go_upto_region 4 with fail
      clear a0 a1 a2 a3 a4 a5 a6 a7 a8 a9 b0 b1
      refine wp_region_past wc (by kernel_rfl) (by kernel_rfl) (Below.refl _ _) ?_
      repeat (first | go_big_quiet_step (fail) | quiet_step (fail))
      quiet_step ((go_at_call 60; exact u1 _))
      repeat (first | go_big_quiet_step (fail) | quiet_step (fail))
      quiet_step ((go_at_call 48; exact u2 _))
      repeat (first | go_big_quiet_step (fail) | quiet_step (fail))
      quiet_step ((go_at_call 48; exact u3 _))
      repeat (first | go_big_quiet_step (fail) | quiet_step (fail))
      refine wpQuiet_nil ?_
      intro wz hw'
      obtain ⟨⟨wy, hbz⟩, hw''⟩ := hw'
      dsimp only at hw''
      subst hw''
      have HZ := Lib.hid (belows HW.out hbz)
      clear hX hP2 hQ6 hbz
      go_wp2_with fail
      go_ret
      exact ⟨false, rfl, (HE.out.trans (by simp)).symm, HZ.out⟩
    | true =>
    cases bl with
    | false =>
      go_upto_region 4 with fail
      clear a0 a1 a2 a3 a4 a5 a6 a7 a8 a9 b0 b1
      refine wp_region_past wc (by kernel_rfl) (by kernel_rfl) (Below.refl _ _) ?_
      repeat (first | go_big_quiet_step (fail) | quiet_step (fail))
      quiet_step ((go_at_call 60; exact u1 _))
      repeat (first | go_big_quiet_step (fail) | quiet_step (fail))
      quiet_step ((go_at_call 48; exact u2 _))
      repeat (first | go_big_quiet_step (fail) | quiet_step (fail))
      quiet_step ((go_at_call 48; exact u3 _))
      repeat (first | go_big_quiet_step (fail) | quiet_step (fail))
      quiet_step ((go_at_call 25; exact u4 _))
      repeat (first | go_big_quiet_step (fail) | quiet_step (fail))
      refine wpQuiet_nil ?_
      intro wz hw'
      obtain ⟨⟨wy, hbz⟩, hw''⟩ := hw'
      dsimp only at hw''
      subst hw''
      have HZ := Lib.hid (belows HW.out hbz)
      clear hX hP2 hQ6 hbz
      go_wp2_with fail
      go_ret
      exact ⟨false, rfl, (HE.out.trans (by simp)).symm, HZ.out⟩
    | true =>
    cases lf with
    | false =>
      go_upto_region 4 with fail
      clear a0 a1 a2 a3 a4 a5 a6 a7 a8 a9 b0 b1
      refine wp_region_past wc (by kernel_rfl) (by kernel_rfl) (Below.refl _ _) ?_
      repeat (first | go_big_quiet_step (fail) | quiet_step (fail))
      quiet_step ((go_at_call 60; exact u1 _))
      repeat (first | go_big_quiet_step (fail) | quiet_step (fail))
      quiet_step ((go_at_call 48; exact u2 _))
      repeat (first | go_big_quiet_step (fail) | quiet_step (fail))
      quiet_step ((go_at_call 48; exact u3 _))
      repeat (first | go_big_quiet_step (fail) | quiet_step (fail))
      quiet_step ((go_at_call 25; exact u4 _))
      repeat (first | go_big_quiet_step (fail) | quiet_step (fail))
      quiet_step ((go_at_call 56; exact u5 _))
      repeat (first | go_big_quiet_step (fail) | quiet_step (fail))
      refine wpQuiet_nil ?_
      intro wz hw'
      obtain ⟨⟨wy, hbz⟩, hw''⟩ := hw'
      dsimp only at hw''
      subst hw''
      have HZ := Lib.hid (belows HW.out hbz)
      clear hX hP2 hQ6 hbz
      go_wp2_with fail
      go_ret
      exact ⟨false, rfl, (HE.out.trans (by simp)).symm, HZ.out⟩
    | true =>
      go_upto_region 4 with fail
      clear a0 a1 a2 a3 a4 a5 a6 a7 a8 a9 b0 b1
      refine wp_region_past wc (by kernel_rfl) (by kernel_rfl) (Below.refl _ _) ?_
      repeat (first | go_big_quiet_step (fail) | quiet_step (fail))
      quiet_step ((go_at_call 60; exact u1 _))
      repeat (first | go_big_quiet_step (fail) | quiet_step (fail))
      quiet_step ((go_at_call 48; exact u2 _))
      repeat (first | go_big_quiet_step (fail) | quiet_step (fail))
      quiet_step ((go_at_call 48; exact u3 _))
      repeat (first | go_big_quiet_step (fail) | quiet_step (fail))
      quiet_step ((go_at_call 25; exact u4 _))
      repeat (first | go_big_quiet_step (fail) | quiet_step (fail))
      quiet_step ((go_at_call 56; exact u5 _))
      repeat (first | go_big_quiet_step (fail) | quiet_step (fail))
      refine wpQuiet_nil ?_
      intro wz hw'
      obtain ⟨⟨wy, hbz⟩, hw''⟩ := hw'
      dsimp only at hw''
      subst hw''
      have HZ := Lib.hid (belows HW.out hbz)
      clear hX hP2 hQ6 hbz
      go_wp2_with fail
      go_ret
      exact ⟨true, rfl, (HE.out.trans (by simp)).symm, HZ.out⟩
end Go.Proofs.YtenjlhlighkenaaGreat
namespace Go.Proofs.YtenjlhlighkenaaGreat
open Go Go.RowKit

set_option maxRecDepth 100000 in
set_option maxHeartbeats 25600000 in
theorem rightI_any (cl : Int) (b : Bt) (m : Mg) (A : Option Addr) (c : Nat) (f : List Tm) (w : World) (hl : LvIn w w.heap.size ⟨cl, false, b, m⟩) (ol : LvOk ⟨cl, false, b, m⟩) (hf : Times w w.heap.size A f) (hfo : TsOk f c) :
    Calls Tryz.prog 28 #[(⟨cl, false, b, m⟩ : Lv).val, .slice A f.length c] w (Tells (LvGood f ⟨cl, false, b, m⟩) w) := by
  obtain ⟨V, hV, hvb, hvs, hvo⟩ := lvbox w ⟨cl, false, b, m⟩
  obtain ⟨a0, a1, a2, a3, a4, a5, a6, a7, a8, a9⟩ := own10 hvo
  have hin := hl.keep hvb
  have hfV := (hf.past hvb (Nat.le_refl _)).wide hvb.size
  have HL := Lib.hid (And.intro hin.b (And.intro hin.m (And.intro ol.b (And.intro ol.m (And.intro hfV hfo)))))
  have HB := Lib.hid (And.intro hvb hvo)
  have hlt : w.heap.size < V.heap.size := hvo.inside
  rw [show (⟨cl, false, b, m⟩ : Lv).val = .agg #[.int .i64 cl, .bool false, .slice b.sA b.f.length b.sc, .slice b.uA b.l.length b.uc, .slice m.aA m.a.length m.ac, .slice m.bA m.b.length m.bc, .int .i64 m.i, .int .i64 m.j, .slice m.sA m.f.length m.sc, .slice m.oA m.o.length m.oc] from rfl]
  dsimp only at hV a0 a1 a2 a3 a4 a5 a6 a7 a8 a9
  clear hl ol hf hfo hvb hvs hvo hin hfV
  go_enter Tryz.func28, Tryz.ntmps28
  go_upto_region 1 with fail
  rw [← hV]
  clear hV
  go_cut [5, 6] (fun s5 s6 wx => ∃ P Q : Nat, s5 = .pointer (some ⟨P, 0, none⟩) ∧ s6 = .pointer (some ⟨Q, 0, none⟩) ∧ Own wx P 61 b.cells ∧ Own wx Q 63 m.cells ∧ Below V.heap.size V wx)
  case first =>
    go_region
    all_goals
      go_wp2_with fail
      go_meet
    · obtain ⟨x1, x2, x3⟩ := two_alloc V 61 63 b.cells m.cells
      exact ⟨_, _, rfl, rfl, x1, x2, x3⟩
    · obtain ⟨x1, x2, x3⟩ := two_alloc V 63 61 m.cells b.cells
      exact ⟨_, _, rfl, rfl, x2, x1, x3⟩
  case rest =>
    obtain ⟨P, Q, rfl, rfl, hP, hQ, hb⟩ := hcut
    have oL := HB.out.2.past hb HB.out.2.inside
    have hX := fun p : Past wc => own10 (oL.past p.h oL.inside)
    have hP2 := fun p : Past wc => own2 (hP.past p.h hP.inside)
    have hQ6 := fun p : Past wc => own6 (hQ.past p.h hQ.inside)
    dsimp only at hX
    have HW := Lib.hid (belows HB.out.1 hb)
    obtain ⟨ib, im, ob, om, hfV, hfo⟩ := HL.out
    have ib := ib.keep hb
    have im := im.keep hb
    have hfV := (hfV.past hb (Nat.le_refl _)).wide hb.size
    have n1 := hfo.n
    have m1 : f.length ≤ maxLen := Nat.le_trans hfo.le hfo.c_
    have n2 := ob.f.n
    have n3 := ob.l.n
    obtain ⟨y1, hy1⟩ : ∃ z : Bool, ((m.a.length : Int) == 0) = z := ⟨_, rfl⟩
    obtain ⟨y2, hy2⟩ : ∃ z : Bool, ((m.b.length : Int) == 0) = z := ⟨_, rfl⟩
    obtain ⟨y3, hy3⟩ : ∃ z : Bool, (m.i == 0) = z := ⟨_, rfl⟩
    obtain ⟨y4, hy4⟩ : ∃ z : Bool, (m.j == 0) = z := ⟨_, rfl⟩
    obtain ⟨y5, hy5⟩ : ∃ z : Bool, ((m.f.length : Int) == 0) = z := ⟨_, rfl⟩
    obtain ⟨y6, hy6⟩ : ∃ z : Bool, ((m.o.length : Int) == 0) = z := ⟨_, rfl⟩
    obtain ⟨c1, hc1⟩ : ∃ z : Bool, ((clsN b.l.length : Int) == cl) = z := ⟨_, rfl⟩
    obtain ⟨K, hK⟩ := code_of (BatchOk b.f b.l) 4
    obtain ⟨z3, hz3⟩ : ∃ z : Bool, (K == 0) = z := ⟨_, rfl⟩
    obtain ⟨bl, hbl⟩ := bool_of (LaterF f b.f)
    have u1 := fun p : Past wc => calls_past ((bcheck_any b p.w (ib.keep p.h) ob).mono fun x w' h => codes_is hK h)
    have u2 := fun p : Past wc => calls_past (class_any b.uA b.uc b.l.length p.w n3)
    have u4 := fun p : Past wc => calls_past ((later_any A c f b.sA b.sc b.f p.w ((hfV.past p.h (Nat.le_refl _)).wide p.h.size) m1 (ib.keep p.h).since (Nat.le_trans ob.f.le ob.f.c_)).mono fun x w' h => tells_is hbl h)
    have HE := Lib.hid (show LvGood f ⟨cl, false, b, m⟩ ↔ (y1 = true ∧ y2 = true ∧ y3 = true ∧ y4 = true ∧ y5 = true ∧ y6 = true ∧ z3 = true ∧ c1 = true ∧ bl = true) from by
      have e3 : z3 = true ↔ BatchOk b.f b.l := by
        rw [← hz3]
        rcases hK with ⟨h1, h2⟩ | ⟨h1, h2⟩
        · rw [h2]; exact ⟨fun _ => h1, fun _ => rfl⟩
        · rw [h2]; exact ⟨fun h => (by cases h), fun h => absurd h h1⟩
      have e1 : y1 = true ↔ m.a = [] := by rw [← hy1, beq_iff_eq, ← List.length_eq_zero_iff]; omega
      have e2 : y2 = true ↔ m.b = [] := by rw [← hy2, beq_iff_eq, ← List.length_eq_zero_iff]; omega
      have e4 : y3 = true ↔ m.i = 0 := by rw [← hy3, beq_iff_eq]
      have e5 : y4 = true ↔ m.j = 0 := by rw [← hy4, beq_iff_eq]
      have e6 : y5 = true ↔ m.f = [] := by rw [← hy5, beq_iff_eq, ← List.length_eq_zero_iff]; omega
      have e7 : y6 = true ↔ m.o = [] := by rw [← hy6, beq_iff_eq, ← List.length_eq_zero_iff]; omega
      have e8 : c1 = true ↔ (clsN b.l.length : Int) = cl := by rw [← hc1, beq_iff_eq]
      rw [e1, e2, e3, e4, e5, e6, e7, e8, hbl]
      constructor
      · intro h
        obtain ⟨⟨h1, h2, h3, h4, h5, h6⟩, h7, h8, h9⟩ := h.idle rfl
        exact ⟨h1, h2, h3, h4, h5, h6, h7, h8, h9⟩
      · rintro ⟨h1, h2, h3, h4, h5, h6, h7, h8, h9⟩
        exact ⟨fun h => (by cases h), fun _ => ⟨⟨h1, h2, h3, h4, h5, h6⟩, h7, h8, h9⟩⟩)
    obtain ⟨a0, a1, a2, a3, a4, a5, a6, a7, a8, a9⟩ := hX ⟨wc, Below.refl _ _⟩
    obtain ⟨b0, b1, b2, b3, b4, b5⟩ := hQ6 ⟨wc, Below.refl _ _⟩
    dsimp only at a0 a1 a2 a3 a4 a5 a6 a7 a8 a9 b0 b1 b2 b3 b4 b5
    clear hbl hK HL HB oL hP hQ hb ib im ob om hfV hfo m1 n1 n2 n3
    unfold Bt.val at u1
    cases y1 with
    | false =>
      go_upto_region 6 with fail
      clear a0 a1 a2 a3 a4 a5 a6 a7 a8 a9 b0 b1 b2 b3 b4 b5
      refine wp_region_past wc (by kernel_rfl) (by kernel_rfl) (Below.refl _ _) ?_
      repeat (first | go_big_quiet_step (fail) | quiet_step (fail))
      refine wpQuiet_nil ?_
      intro wz hw'
      obtain ⟨⟨wy, hbz⟩, hw''⟩ := hw'
      dsimp only at hw''
      subst hw''
      have HZ := Lib.hid (belows HW.out hbz)
      clear hX hP2 hQ6 hbz
      go_wp2_with fail
      go_ret
      exact ⟨false, rfl, (HE.out.trans (by simp)).symm, HZ.out⟩
    | true =>
    cases y2 with
    | false =>
      go_upto_region 6 with fail
      clear a0 a1 a2 a3 a4 a5 a6 a7 a8 a9 b0 b1 b2 b3 b4 b5
      refine wp_region_past wc (by kernel_rfl) (by kernel_rfl) (Below.refl _ _) ?_
      repeat (first | go_big_quiet_step (fail) | quiet_step (fail))
      refine wpQuiet_nil ?_
      intro wz hw'
      obtain ⟨⟨wy, hbz⟩, hw''⟩ := hw'
      dsimp only at hw''
      subst hw''
      have HZ := Lib.hid (belows HW.out hbz)
      clear hX hP2 hQ6 hbz
      go_wp2_with fail
      go_ret
      exact ⟨false, rfl, (HE.out.trans (by simp)).symm, HZ.out⟩
    | true =>
    cases y3 with
    | false =>
      go_upto_region 6 with fail
      clear a0 a1 a2 a3 a4 a5 a6 a7 a8 a9 b0 b1 b2 b3 b4 b5
      refine wp_region_past wc (by kernel_rfl) (by kernel_rfl) (Below.refl _ _) ?_
      repeat (first | go_big_quiet_step (fail) | quiet_step (fail))
      refine wpQuiet_nil ?_
      intro wz hw'
      obtain ⟨⟨wy, hbz⟩, hw''⟩ := hw'
      dsimp only at hw''
      subst hw''
      have HZ := Lib.hid (belows HW.out hbz)
      clear hX hP2 hQ6 hbz
      go_wp2_with fail
      go_ret
      exact ⟨false, rfl, (HE.out.trans (by simp)).symm, HZ.out⟩
    | true =>
    cases y4 with
    | false =>
      go_upto_region 6 with fail
      clear a0 a1 a2 a3 a4 a5 a6 a7 a8 a9 b0 b1 b2 b3 b4 b5
      refine wp_region_past wc (by kernel_rfl) (by kernel_rfl) (Below.refl _ _) ?_
      repeat (first | go_big_quiet_step (fail) | quiet_step (fail))
      refine wpQuiet_nil ?_
      intro wz hw'
      obtain ⟨⟨wy, hbz⟩, hw''⟩ := hw'
      dsimp only at hw''
      subst hw''
      have HZ := Lib.hid (belows HW.out hbz)
      clear hX hP2 hQ6 hbz
      go_wp2_with fail
      go_ret
      exact ⟨false, rfl, (HE.out.trans (by simp)).symm, HZ.out⟩
    | true =>
    cases y5 with
    | false =>
      go_upto_region 6 with fail
      clear a0 a1 a2 a3 a4 a5 a6 a7 a8 a9 b0 b1 b2 b3 b4 b5
      refine wp_region_past wc (by kernel_rfl) (by kernel_rfl) (Below.refl _ _) ?_
      repeat (first | go_big_quiet_step (fail) | quiet_step (fail))
      refine wpQuiet_nil ?_
      intro wz hw'
      obtain ⟨⟨wy, hbz⟩, hw''⟩ := hw'
      dsimp only at hw''
      subst hw''
      have HZ := Lib.hid (belows HW.out hbz)
      clear hX hP2 hQ6 hbz
      go_wp2_with fail
      go_ret
      exact ⟨false, rfl, (HE.out.trans (by simp)).symm, HZ.out⟩
    | true =>
    cases y6 with
    | false =>
      go_upto_region 6 with fail
      clear a0 a1 a2 a3 a4 a5 a6 a7 a8 a9 b0 b1 b2 b3 b4 b5
      refine wp_region_past wc (by kernel_rfl) (by kernel_rfl) (Below.refl _ _) ?_
      repeat (first | go_big_quiet_step (fail) | quiet_step (fail))
      refine wpQuiet_nil ?_
      intro wz hw'
      obtain ⟨⟨wy, hbz⟩, hw''⟩ := hw'
      dsimp only at hw''
      subst hw''
      have HZ := Lib.hid (belows HW.out hbz)
      clear hX hP2 hQ6 hbz
      go_wp2_with fail
      go_ret
      exact ⟨false, rfl, (HE.out.trans (by simp)).symm, HZ.out⟩
    | true =>
    cases z3 with
    | false =>
      go_upto_region 6 with fail
      clear a0 a1 a2 a3 a4 a5 a6 a7 a8 a9 b0 b1 b2 b3 b4 b5
      refine wp_region_past wc (by kernel_rfl) (by kernel_rfl) (Below.refl _ _) ?_
      repeat (first | go_big_quiet_step (fail) | quiet_step (fail))
      quiet_step ((go_at_call 57; exact u1 _))
      repeat (first | go_big_quiet_step (fail) | quiet_step (fail))
      refine wpQuiet_nil ?_
      intro wz hw'
      obtain ⟨⟨wy, hbz⟩, hw''⟩ := hw'
      dsimp only at hw''
      subst hw''
      have HZ := Lib.hid (belows HW.out hbz)
      clear hX hP2 hQ6 hbz
      go_wp2_with fail
      go_ret
      exact ⟨false, rfl, (HE.out.trans (by simp)).symm, HZ.out⟩
    | true =>
    cases c1 with
    | false =>
      go_upto_region 6 with fail
      clear a0 a1 a2 a3 a4 a5 a6 a7 a8 a9 b0 b1 b2 b3 b4 b5
      refine wp_region_past wc (by kernel_rfl) (by kernel_rfl) (Below.refl _ _) ?_
      repeat (first | go_big_quiet_step (fail) | quiet_step (fail))
      quiet_step ((go_at_call 57; exact u1 _))
      repeat (first | go_big_quiet_step (fail) | quiet_step (fail))
      quiet_step ((go_at_call 48; exact u2 _))
      repeat (first | go_big_quiet_step (fail) | quiet_step (fail))
      refine wpQuiet_nil ?_
      intro wz hw'
      obtain ⟨⟨wy, hbz⟩, hw''⟩ := hw'
      dsimp only at hw''
      subst hw''
      have HZ := Lib.hid (belows HW.out hbz)
      clear hX hP2 hQ6 hbz
      go_wp2_with fail
      go_ret
      exact ⟨false, rfl, (HE.out.trans (by simp)).symm, HZ.out⟩
    | true =>
    cases bl with
    | false =>
      go_upto_region 6 with fail
      clear a0 a1 a2 a3 a4 a5 a6 a7 a8 a9 b0 b1 b2 b3 b4 b5
      refine wp_region_past wc (by kernel_rfl) (by kernel_rfl) (Below.refl _ _) ?_
      repeat (first | go_big_quiet_step (fail) | quiet_step (fail))
      quiet_step ((go_at_call 57; exact u1 _))
      repeat (first | go_big_quiet_step (fail) | quiet_step (fail))
      quiet_step ((go_at_call 48; exact u2 _))
      repeat (first | go_big_quiet_step (fail) | quiet_step (fail))
      quiet_step ((go_at_call 25; exact u4 _))
      repeat (first | go_big_quiet_step (fail) | quiet_step (fail))
      refine wpQuiet_nil ?_
      intro wz hw'
      obtain ⟨⟨wy, hbz⟩, hw''⟩ := hw'
      dsimp only at hw''
      subst hw''
      have HZ := Lib.hid (belows HW.out hbz)
      clear hX hP2 hQ6 hbz
      go_wp2_with fail
      go_ret
      exact ⟨false, rfl, (HE.out.trans (by simp)).symm, HZ.out⟩
    | true =>
      go_upto_region 6 with fail
      clear a0 a1 a2 a3 a4 a5 a6 a7 a8 a9 b0 b1 b2 b3 b4 b5
      refine wp_region_past wc (by kernel_rfl) (by kernel_rfl) (Below.refl _ _) ?_
      repeat (first | go_big_quiet_step (fail) | quiet_step (fail))
      quiet_step ((go_at_call 57; exact u1 _))
      repeat (first | go_big_quiet_step (fail) | quiet_step (fail))
      quiet_step ((go_at_call 48; exact u2 _))
      repeat (first | go_big_quiet_step (fail) | quiet_step (fail))
      quiet_step ((go_at_call 25; exact u4 _))
      repeat (first | go_big_quiet_step (fail) | quiet_step (fail))
      refine wpQuiet_nil ?_
      intro wz hw'
      obtain ⟨⟨wy, hbz⟩, hw''⟩ := hw'
      dsimp only at hw''
      subst hw''
      have HZ := Lib.hid (belows HW.out hbz)
      clear hX hP2 hQ6 hbz
      go_wp2_with fail
      go_ret
      exact ⟨true, rfl, (HE.out.trans (by simp)).symm, HZ.out⟩
end Go.Proofs.YtenjlhlighkenaaGreat
