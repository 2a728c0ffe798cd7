/- Part 8 of the texts on which BatchSteps rests: facts and contracts. -/
import Derived.Test.YtbccdmpnojdldaaGreatBatchStepsM7
import Derived.BigQuiet
import Derived.Test.YtbccdmpnojdldaaGreatRows
namespace Go.Proofs.YtbccdmpnojdldaaGreat
open Go Go.RowKit

/-- the list that is asked lies in a variable -/
structure Kpt (w : World) (bx : Nat) (A : Option Addr) (n c : Nat) : Prop where
  cell : w.cell? ⟨bx, 0, none⟩ = some (.slice A n c)
  inside : bx < w.heap.size
theorem Kpt.past {w w' : World} {bx n c : Nat} {A : Option Addr} (h : Kpt w bx A n c) (hb : Below w.heap.size w w') : Kpt w' bx A n c :=
  ⟨(hb.cell (p := ⟨bx, 0, none⟩) h.inside).trans h.cell, Nat.lt_of_lt_of_le h.inside hb.size⟩
set_option maxRecDepth 100000 in
set_option maxHeartbeats 3200000 in
theorem early_any (t : Tm) (bx : Nat) (A : Option Addr) (c : Nat) (l : List Tm) (w : World) (hk : Kpt w bx A l.length c) (hl : Times w w.heap.size A l) (hn : l.length ≤ maxLen) :
    Calls Tryz.prog 48 #[t.val, .pointer (some ⟨bx, 0, none⟩)] w fun e w' => e = .returned (.bool (!beyond l t)) ∧ Below w.heap.size w w' := by
  obtain ⟨V, hV, hvb, hvs, hvo⟩ := tm_box w t
  have k0 := (hk.past hvb).cell
  have y1 := Lib.hid (beyond_any A c l t V ((hl.past hvb (Nat.le_refl _)).wide hvb.size) hn)
  obtain ⟨d0, d1, d2⟩ := own3 hvo
  have HB := Lib.hid hvb
  rw [show t.val = .agg #[.int .u64 (t.e : Int), .int .u64 (t.a : Int), .int .u64 (t.b : Int)] from rfl] at y1 ⊢
  generalize beyond l t = B at *
  clear hk hl hn hvb hvs hvo
  go_enter Tryz.func48, Tryz.ntmps48
  go_upto_region 1 with fail
  rw [← hV]
  clear hV
  go_wp2_with fail
  refine y1.out.mono ?_
  rintro _ w2 ⟨rfl, b2⟩
  have H2 := Lib.hid (HB.out.trans (b2.mono HB.out.size))
  clear b2 d0 d1 d2 k0
  go_wp2_with fail
  go_ret
  exact ⟨rfl, H2.out⟩
def someEarly (l f : List Tm) : Bool := l.any fun t => !beyond f t
theorem early_next {l f : List Tm} {k : Nat} {t : Tm} (h : l[k]? = some t) : someEarly (l.take (k + 1)) f = (someEarly (l.take k) f || !beyond f t) := by
  unfold someEarly
  rw [List.take_add_one, h]; simp
theorem early_hit {l f : List Tm} {k : Nat} {t : Tm} (h : l[k]? = some t) (hb : (!beyond f t) = true) : someEarly l f = true := List.any_eq_true.2 ⟨t, List.mem_of_getElem? h, hb⟩
set_option maxRecDepth 100000 in
set_option maxHeartbeats 3200000 in
theorem indexT_any (A : Option Addr) (c : Nat) (l : List Tm) (bx : Nat) (A' : Option Addr) (c' : Nat) (f : List Tm) (w : World) (hl : Times w w.heap.size A l) (hn : l.length ≤ maxLen) (hk : Kpt w bx A' f.length c') (hf : Times w w.heap.size A' f) (hfn : f.length ≤ maxLen) :
    Calls Tryz.prog 88 #[.slice A l.length c, .func (.func 48) #[] #[.pointer (some ⟨bx, 0, none⟩)]] w fun x w' => ∃ r : Int, x = .returned (.int .i64 r) ∧ decide (0 ≤ r) = someEarly l f ∧ Below w.heap.size w w' := by
  unfold maxLen at hn
  have Hl := Lib.hid (And.intro hl (And.intro hk hf))
  have hu := fun t W h1 h2 => Lib.hid (early_any t bx A' c' f W h1 h2 hfn)
  unfold Tm.val at hu
  clear hl hk hf
  go_enter Tryz.func88, Tryz.ntmps88
  go_wp2_with fail
  go_loopw [8] (fun i wr => ∃ k : Nat, i = .int .i64 (k : Int) ∧ k ≤ l.length ∧ Below w.heap.size w wr ∧ someEarly (l.take k) f = false)
    (fun i _ => l.length - (intOf i).toNat)
  case atStart => exact ⟨0, rfl, by omega, Below.refl _ _, rfl⟩
  case round =>
    obtain ⟨k, rfl, hk, hb, he⟩ := hrel
    by_cases hlt : k < l.length
    · have hx : l[k]? = some l[k] := List.getElem?_eq_getElem hlt
      obtain ⟨b, o, rfl, hB, hc⟩ := Hl.out.1 (by omega)
      obtain ⟨c0, c1, c2⟩ := (hc k _ hx).past hb hB
      have hnx := early_next (f := f) hx
      have hit := early_hit (f := f) hx
      generalize l[k] = t at *
      have hut := hu t wr (Hl.out.2.1.past hb) ((Hl.out.2.2.past hb (Nat.le_refl _)).wide hb.size)
      have HH := Lib.hid (And.intro hb (And.intro he (And.intro hnx hit)))
      have q0 : (0 : Int) ≤ (k : Int) := by omega
      have q1 : (k : Int) < (l.length : Int) := by omega
      clear hb he hx hc hnx hit hu
      obtain ⟨B, hB'⟩ : ∃ B, (!beyond f t) = B := ⟨_, rfl⟩
      rw [hB'] at hut
      have HT := Lib.hid hB'
      clear hB'
      cases B with
      | true =>
        go_wp2_with fail
        refine hut.out.mono ?_
        rintro _ w2 ⟨rfl, b2⟩
        have H2 := Lib.hid (HH.out.1.trans (b2.mono HH.out.1.size))
        clear b2 c0 c1 c2
        go_wp2_with fail
        go_ret
        exact ⟨_, rfl, by rw [HH.out.2.2.2 HT.out]; simp, H2.out⟩
      | false =>
        go_wp2_with fail
        refine hut.out.mono ?_
        rintro _ w2 ⟨rfl, b2⟩
        have H2 := Lib.hid (HH.out.1.trans (b2.mono HH.out.1.size))
        clear b2 c0 c1 c2
        go_wp2_with fail
        go_roundw
        case rel => exact ⟨k + 1, by go_num, by omega, H2.out, by rw [HH.out.2.2.1, HH.out.2.1, HT.out]; rfl⟩
        case measure => simp [intOf]; omega
    · have hk2 : k = l.length := by omega
      subst hk2
      rw [List.take_length] at he
      have HH := Lib.hid (And.intro hb he)
      clear hb he
      go_wp2_with fail
      go_ret
      exact ⟨_, rfl, by rw [HH.out.2]; decide, HH.out.1⟩
set_option maxRecDepth 100000 in
set_option maxHeartbeats 1600000 in
theorem containsT_any (A : Option Addr) (c : Nat) (l : List Tm) (bx : Nat) (A' : Option Addr) (c' : Nat) (f : List Tm) (w : World) (hl : Times w w.heap.size A l) (hn : l.length ≤ maxLen) (hk : Kpt w bx A' f.length c') (hf : Times w w.heap.size A' f) (hfn : f.length ≤ maxLen) :
    Calls Tryz.prog 50 #[.slice A l.length c, .func (.func 48) #[] #[.pointer (some ⟨bx, 0, none⟩)]] w fun x w' => x = .returned (.bool (someEarly l f)) ∧ Below w.heap.size w w' := by
  have hi := Lib.hid (indexT_any A c l bx A' c' f w hl hn hk hf hfn)
  clear hl hn hk hf
  generalize someEarly l f = B at *
  go_enter Tryz.func50, Tryz.ntmps50
  go_wp2_with fail
  refine hi.out.mono ?_
  rintro _ w2 ⟨r, rfl, hr, b2⟩
  have H2 := Lib.hid b2
  clear b2
  go_wp2_with fail
  go_ret
  exact ⟨rfl, H2.out⟩
theorem later_iff {g f : List Tm} (hf : f ≠ []) : LaterF g f ↔ g ≠ [] ∧ someEarly g f = false := by
  unfold LaterF someEarly
  constructor
  · rintro (h | ⟨h1, h2⟩)
    · exact absurd h hf
    · refine ⟨h1, ?_⟩
      rw [List.any_eq_false]
      intro x hx
      rw [h2 x hx]
      simp
  · rintro ⟨h1, h2⟩
    refine .inr ⟨h1, fun x hx => ?_⟩
    rw [List.any_eq_false] at h2
    simpa using h2 x hx
set_option maxRecDepth 100000 in
set_option maxHeartbeats 3200000 in
theorem later_any (A : Option Addr) (c : Nat) (g : List Tm) (A' : Option Addr) (c' : Nat) (f : List Tm) (w : World) (hg : Times w w.heap.size A g) (hgn : g.length ≤ maxLen) (hf : Times w w.heap.size A' f) (hfn : f.length ≤ maxLen) :
    Calls Tryz.prog 15 #[.slice A g.length c, .slice A' f.length c'] w (Tells (LaterF g f) w) := by
  obtain ⟨V, hV, hvs, hvb, hvo⟩ := boxd w [.slice A' f.length c'] 22
  have d0 := hvo.at_ 0
  simp only [List.getElem?_cons_zero] at d0
  by_cases h0 : f = []
  · subst h0
    simp only [List.length_nil] at hV d0
    have HL := Lib.hid (show LaterF g [] from .inl rfl)
    have HB := Lib.hid hvb
    clear hg hf hgn hfn hvs hvb hvo
    go_enter Tryz.func15, Tryz.ntmps15
    go_upto_region 1 with fail
    rw [← hV]
    clear hV
    go_wp2_with fail
    go_ret
    exact ⟨true, rfl, ⟨fun _ => HL.out, fun _ => rfl⟩, HB.out⟩
  have hfp : 0 < f.length := List.length_pos_iff.2 h0
  have t0 : ((f.length : Int) == 0) = false := beq_eq_false_iff_ne.2 (by omega)
  have hit := later_iff (g := g) h0
  by_cases h1 : g = []
  · have HL := Lib.hid (show ¬ LaterF g f from fun h => (hit.1 h).1 h1)
    subst h1
    have HB := Lib.hid hvb
    clear hg hf hgn hfn hvs hvb hvo hit h0
    go_enter Tryz.func15, Tryz.ntmps15
    go_upto_region 1 with fail
    rw [← hV]
    clear hV
    go_wp2_with fail
    go_ret
    exact ⟨false, rfl, ⟨fun h => (by cases h), fun h => absurd h HL.out⟩, HB.out⟩
  have hgp : 0 < g.length := List.length_pos_iff.2 h1
  have t1 : decide (0 < g.length) = true := decide_eq_true hgp
  have t2 : decide ((0 : Int) < (g.length : Int)) = true := decide_eq_true (by omega)
  have y1 := Lib.hid (containsT_any A c g w.heap.size A' c' f V ((hg.past hvb (Nat.le_refl _)).wide hvb.size) hgn ⟨d0, hvo.inside⟩ ((hf.past hvb (Nat.le_refl _)).wide hvb.size) hfn)
  have HIT := Lib.hid (And.intro hit h1)
  have HB := Lib.hid hvb
  obtain ⟨B, hB⟩ : ∃ B, someEarly g f = B := ⟨_, rfl⟩
  rw [hB] at y1
  have HBB := Lib.hid hB
  clear hg hf hgn hfn hvs hvb hvo hit h0 h1 hB hfp hgp
  go_enter Tryz.func15, Tryz.ntmps15
  go_upto_region 1 with fail
  rw [← hV]
  clear hV
  go_wp2_with fail
  refine y1.out.mono ?_
  rintro _ w2 ⟨rfl, b2⟩
  have H2 := Lib.hid (HB.out.trans (b2.mono HB.out.size))
  clear b2 d0 y1
  cases B with
  | true =>
    go_wp2_with fail
    go_ret
    exact ⟨false, rfl, ⟨fun h => (by cases h), fun h => (by have := (HIT.out.1.1 h).2; rw [HBB.out] at this; cases this)⟩, H2.out⟩
  | false =>
    go_wp2_with fail
    go_ret
    exact ⟨true, rfl, ⟨fun _ => HIT.out.1.2 ⟨HIT.out.2, HBB.out⟩, fun _ => rfl⟩, H2.out⟩
end Go.Proofs.YtbccdmpnojdldaaGreat
namespace Go.Proofs.YtbccdmpnojdldaaGreat
open Go Go.RowKit

def StartOk (f : List Tm) (a b : Bt) : Prop := BatchOk a.f a.l ∧ BatchOk b.f b.l ∧ FrontOk f ∧ LaterF f a.f ∧ LaterF f b.f
def Started (f : List Tm) (a b : Bt) (w : World) (x : Ending) (w' : World) : Prop :=
  ∃ (m : Mg) (E : Int), x = .returned (.tuple #[m.val, .int .i64 E]) ∧ (E = 0 ∧ StartOk f a b ∧ m.a.map Up.p = a.l.map Up.p ∧ m.b.map Up.p = b.l.map Up.p ∧ m.i = 0 ∧ m.j = 0 ∧ m.f = f ∧ m.o = [] ∨ E ≠ 0 ∧ m = Mg.nil ∧ ¬ StartOk f a b) ∧
    MgIn w' w'.heap.size m ∧ MgOk m ∧ MgLo w.heap.size m ∧ Below w.heap.size w w'
theorem st_box (w : World) (a b : Bt) : ∃ V, V = ((w.alloc (.cells #[.slice a.sA a.f.length a.sc, .slice a.uA a.l.length a.uc] 26)).alloc (.cells #[.slice b.sA b.f.length b.sc, .slice b.uA b.l.length b.uc] 26)).alloc (.cells #[.slice none 0 0, .slice none 0 0, .int .i64 0, .int .i64 0, .slice none 0 0, .slice none 0 0] 43) ∧
    Below w.heap.size w V ∧ Own V w.heap.size 26 a.cells ∧ Own V (w.heap.size + 1) 26 b.cells ∧ Own V (w.heap.size + 2) 43 Mg.nil.cells := by
  refine ⟨_, rfl, (((Below.refl _ _).alloc (Nat.le_refl _) _).alloc (by simp) _).alloc (by simp; omega) _, ((Own.made w 26 a.cells).more _).more _, ?_, ?_⟩
  · exact (own_next (w := w.alloc (.cells #[.slice a.sA a.f.length a.sc, .slice a.uA a.l.length a.uc] 26)) (l := b.cells) (by simp)).more _
  · exact own_next (w := (w.alloc (.cells #[.slice a.sA a.f.length a.sc, .slice a.uA a.l.length a.uc] 26)).alloc (.cells #[.slice b.sA b.f.length b.sc, .slice b.uA b.l.length b.uc] 26)) (l := Mg.nil.cells) (by simp)
set_option maxRecDepth 100000 in
set_option maxHeartbeats 12800000 in
theorem start_any (A : Option Addr) (c : Nat) (f : List Tm) (a b : Bt) (w : World) (hf : Times w w.heap.size A f) (hfo : TsOk f c) (ha : BtIn w w.heap.size a) (oa : BtOk a) (na : a.l.length ≤ 274877906944) (hb : BtIn w w.heap.size b) (ob : BtOk b) (nb : b.l.length ≤ 274877906944) :
    Calls Tryz.prog 27 #[.slice A f.length c, a.val, b.val] w (Started f a b w) := by
  obtain ⟨V, hV, hvb, hv1, hv2, hv3⟩ := st_box w a b
  have hX := fun p : Past V => own2 (hv1.past p.h hv1.inside)
  have hY := fun p : Past V => own2 (hv2.past p.h hv2.inside)
  have hZ := fun p : Past V => hv3.past p.h hv3.inside
  have hia := ha.keep hvb
  have hib := hb.keep hvb
  have hif := (hf.past hvb (Nat.le_refl _)).wide hvb.size
  have hfV := fun p : Past V => (hif.past p.h (Nat.le_refl _)).wide p.h.size
  obtain ⟨ca, hca⟩ := code_of (BatchOk a.f a.l) 4
  obtain ⟨cb, hcb⟩ := code_of (BatchOk b.f b.l) 4
  obtain ⟨bf, hbf⟩ := bool_of (FrontOk f)
  obtain ⟨la, hla⟩ := bool_of (LaterF f a.f)
  obtain ⟨lb, hlb⟩ := bool_of (LaterF f b.f)
  have n1 := hfo.n
  have m1 : f.length ≤ maxLen := Nat.le_trans hfo.le hfo.c_
  have m2 : a.f.length ≤ maxLen := Nat.le_trans oa.f.le oa.f.c_
  have m3 : b.f.length ≤ maxLen := Nat.le_trans ob.f.le ob.f.c_
  have u1 := fun p : Past V => calls_past ((bcheck_any a p.w (hia.keep p.h) oa).mono fun x w' h => codes_is hca h)
  have u2 := fun p : Past V => calls_past ((bcheck_any b p.w (hib.keep p.h) ob).mono fun x w' h => codes_is hcb h)
  have u3 := fun p : Past V => calls_past ((bfrontier_any A c f p.w (hfV p) (by omega)).mono fun x w' h => tells_is hbf h)
  have u4 := fun p : Past V => calls_past ((later_any A c f a.sA a.sc a.f p.w (hfV p) m1 (hia.keep p.h).since m2).mono fun x w' h => tells_is hla h)
  have u5 := fun p : Past V => calls_past ((later_any A c f b.sA b.sc b.f p.w (hfV p) m1 (hib.keep p.h).since m3).mono fun x w' h => tells_is hlb h)
  have HB := Lib.hid hvb
  have HI := Lib.hid (And.intro hia (And.intro hib hif))
  have HZ := Lib.hid hZ
  have HC := Lib.hid (And.intro hca (And.intro hcb (And.intro hbf (And.intro hla hlb))))
  have HOK := Lib.hid (And.intro hfo (And.intro oa (And.intro na (And.intro ob nb))))
  have HG := Lib.hid hv3.inside
  have hA : a.val = .agg #[.slice a.sA a.f.length a.sc, .slice a.uA a.l.length a.uc] := rfl
  have hB : b.val = .agg #[.slice b.sA b.f.length b.sc, .slice b.uA b.l.length b.uc] := rfl
  rw [hA, hB]
  rw [hA] at u1
  rw [hB] at u2
  have HF := Lib.hid (show ∀ (E : Int) (x : Ending) (w' : World), E ≠ 0 → ¬ StartOk f a b → x = .returned (.tuple #[Mg.nil.val, .int .i64 E]) → Below w.heap.size w w' → Started f a b w x w' from fun E x w' h1 h2 h3 h4 => ⟨Mg.nil, E, h3, .inr ⟨h1, rfl, h2⟩, mg_nil_in _ _, mg_nil_ok, mg_nil_lo _, h4⟩)
  have HP := Lib.hid (show ∀ (m : Mg) (x : Ending) (w' : World), StartOk f a b → x = .returned (.tuple #[m.val, .int .i64 0]) → m.a.map Up.p = a.l.map Up.p ∧ m.b.map Up.p = b.l.map Up.p ∧ m.i = 0 ∧ m.j = 0 ∧ m.f = f ∧ m.o = [] → MgIn w' w'.heap.size m → MgOk m → MgLo w.heap.size m → Below w.heap.size w w' → Started f a b w x w' from fun m x w' h1 h2 h3 h4 h5 h6 h7 => ⟨m, 0, h2, .inl ⟨rfl, h1, h3⟩, h4, h5, h6, h7⟩)
  clear hf hfo ha oa hb ob hvb hv1 hv2 hv3 hia hib hif hfV hca hcb hbf hla hlb n1 m1 m2 m3 hZ hA hB na nb
  go_enter Tryz.func27, Tryz.ntmps27
  go_upto_region 1 with fail
  rw [← hV]
  clear hV
  obtain ⟨a0, a1⟩ := hX ⟨V, Below.refl _ _⟩
  obtain ⟨b0, b1⟩ := hY ⟨V, Below.refl _ _⟩
  dsimp only at a0 a1 b0 b1
  go_wp2_with fail
  refine (u1 ⟨V, Below.refl _ _⟩).mono ?_
  rintro _ _ ⟨rfl, ⟨p1, rfl⟩⟩
  clear a0 a1 b0 b1 u1
  obtain ⟨a0, a1⟩ := hX p1
  obtain ⟨b0, b1⟩ := hY p1
  by_cases h1 : ca = 0
  case neg =>
    have t1 : (ca != 0) = true := bne_iff_ne.2 h1
    have hz := HZ.out p1
    obtain ⟨f0, f1, f2, f3, f4, f5⟩ := own_frozen6 hz
    obtain ⟨z0, z1, z2, z3, z4, z5⟩ := own6 hz
    obtain ⟨X, hX', hXo, hXb, hXs, hXh⟩ := own_six hz (.slice none 0 0) (.slice none 0 0) (.int .i64 0) (.int .i64 0) (.slice none 0 0) (.slice none 0 0)
    have HX := Lib.hid (And.intro (hXb w.heap.size w (HB.out.trans (p1.h.mono HB.out.size)) (by omega)) hXo)
    have HN := Lib.hid (show ¬ StartOk f a b from fun h => by rcases HC.out.1 with ⟨_, e⟩ | ⟨e, _⟩; exact h1 e; exact e h.1)
    have HR := Lib.hid hX'
    clear hz hXo hXb hXs hXh hX' h1 u2 u3 u4 u5
    go_wp2_with fail
    rw [← HR.out]
    obtain ⟨x0, x1, x2, x3, x4, x5⟩ := own6 HX.out.2
    exact bodyPost_ret (v := .tuple #[.agg #[.slice none 0 0, .slice none 0 0, .int .i64 0, .int .i64 0, .slice none 0 0, .slice none 0 0], .int .i64 4]) (by simp [results, Tryz.results27, go_sem, x0, x1, x2, x3, x4, x5]) rfl (HF.out 4 _ _ (by decide) HN.out rfl HX.out.1)
  subst h1
  go_wp2_with fail
  refine (u2 p1).mono ?_
  rintro _ _ ⟨rfl, ⟨p2, rfl⟩⟩
  clear a0 a1 b0 b1 u2
  obtain ⟨a0, a1⟩ := hX p2
  obtain ⟨b0, b1⟩ := hY p2
  by_cases h2 : cb = 0
  case neg =>
    have t1 : (cb != 0) = true := bne_iff_ne.2 h2
    have hz := HZ.out p2
    obtain ⟨f0, f1, f2, f3, f4, f5⟩ := own_frozen6 hz
    obtain ⟨z0, z1, z2, z3, z4, z5⟩ := own6 hz
    obtain ⟨X, hX', hXo, hXb, hXs, hXh⟩ := own_six hz (.slice none 0 0) (.slice none 0 0) (.int .i64 0) (.int .i64 0) (.slice none 0 0) (.slice none 0 0)
    have HX := Lib.hid (And.intro (hXb w.heap.size w (HB.out.trans (p2.h.mono HB.out.size)) (by omega)) hXo)
    have HN := Lib.hid (show ¬ StartOk f a b from fun h => by rcases HC.out.2.1 with ⟨_, e⟩ | ⟨e, _⟩; exact h2 e; exact e h.2.1)
    have HR := Lib.hid hX'
    clear hz hXo hXb hXs hXh hX' h2 u3 u4 u5
    go_wp2_with fail
    rw [← HR.out]
    obtain ⟨x0, x1, x2, x3, x4, x5⟩ := own6 HX.out.2
    exact bodyPost_ret (v := .tuple #[.agg #[.slice none 0 0, .slice none 0 0, .int .i64 0, .int .i64 0, .slice none 0 0, .slice none 0 0], .int .i64 4]) (by simp [results, Tryz.results27, go_sem, x0, x1, x2, x3, x4, x5]) rfl (HF.out 4 _ _ (by decide) HN.out rfl HX.out.1)
  subst h2
  go_wp2_with fail
  refine (u3 p2).mono ?_
  rintro _ _ ⟨rfl, ⟨p3, rfl⟩⟩
  clear a0 a1 b0 b1 u3
  obtain ⟨a0, a1⟩ := hX p3
  obtain ⟨b0, b1⟩ := hY p3
  cases bf with
  | false =>
    have hz := HZ.out p3
    obtain ⟨f0, f1, f2, f3, f4, f5⟩ := own_frozen6 hz
    obtain ⟨z0, z1, z2, z3, z4, z5⟩ := own6 hz
    obtain ⟨X, hX', hXo, hXb, hXs, hXh⟩ := own_six hz (.slice none 0 0) (.slice none 0 0) (.int .i64 0) (.int .i64 0) (.slice none 0 0) (.slice none 0 0)
    have HX := Lib.hid (And.intro (hXb w.heap.size w (HB.out.trans (p3.h.mono HB.out.size)) (by omega)) hXo)
    have HN := Lib.hid (show ¬ StartOk f a b from fun h => by have := HC.out.2.2.1.2 h.2.2.1; cases this)
    have HR := Lib.hid hX'
    clear hz hXo hXb hXs hXh hX' u4 u5
    go_wp2_with fail
    rw [← HR.out]
    obtain ⟨x0, x1, x2, x3, x4, x5⟩ := own6 HX.out.2
    exact bodyPost_ret (v := .tuple #[.agg #[.slice none 0 0, .slice none 0 0, .int .i64 0, .int .i64 0, .slice none 0 0, .slice none 0 0], .int .i64 4]) (by simp [results, Tryz.results27, go_sem, x0, x1, x2, x3, x4, x5]) rfl (HF.out 4 _ _ (by decide) HN.out rfl HX.out.1)
  | true =>
  go_wp2_with fail
  refine (u4 p3).mono ?_
  rintro _ _ ⟨rfl, ⟨p4, rfl⟩⟩
  clear a0 a1 b0 b1 u4
  obtain ⟨a0, a1⟩ := hX p4
  obtain ⟨b0, b1⟩ := hY p4
  cases la with
  | false =>
    have hz := HZ.out p4
    obtain ⟨f0, f1, f2, f3, f4, f5⟩ := own_frozen6 hz
    obtain ⟨z0, z1, z2, z3, z4, z5⟩ := own6 hz
    obtain ⟨X, hX', hXo, hXb, hXs, hXh⟩ := own_six hz (.slice none 0 0) (.slice none 0 0) (.int .i64 0) (.int .i64 0) (.slice none 0 0) (.slice none 0 0)
    have HX := Lib.hid (And.intro (hXb w.heap.size w (HB.out.trans (p4.h.mono HB.out.size)) (by omega)) hXo)
    have HN := Lib.hid (show ¬ StartOk f a b from fun h => by have := HC.out.2.2.2.1.2 h.2.2.2.1; cases this)
    have HR := Lib.hid hX'
    clear hz hXo hXb hXs hXh hX' u5
    go_wp2_with fail
    rw [← HR.out]
    obtain ⟨x0, x1, x2, x3, x4, x5⟩ := own6 HX.out.2
    exact bodyPost_ret (v := .tuple #[.agg #[.slice none 0 0, .slice none 0 0, .int .i64 0, .int .i64 0, .slice none 0 0, .slice none 0 0], .int .i64 1]) (by simp [results, Tryz.results27, go_sem, x0, x1, x2, x3, x4, x5]) rfl (HF.out 1 _ _ (by decide) HN.out rfl HX.out.1)
  | true =>
  go_wp2_with fail
  refine (u5 p4).mono ?_
  rintro _ _ ⟨rfl, ⟨p5, rfl⟩⟩
  clear a0 a1 b0 b1 u5
  obtain ⟨a0, a1⟩ := hX p5
  obtain ⟨b0, b1⟩ := hY p5
  cases lb with
  | false =>
    have hz := HZ.out p5
    obtain ⟨f0, f1, f2, f3, f4, f5⟩ := own_frozen6 hz
    obtain ⟨z0, z1, z2, z3, z4, z5⟩ := own6 hz
    obtain ⟨X, hX', hXo, hXb, hXs, hXh⟩ := own_six hz (.slice none 0 0) (.slice none 0 0) (.int .i64 0) (.int .i64 0) (.slice none 0 0) (.slice none 0 0)
    have HX := Lib.hid (And.intro (hXb w.heap.size w (HB.out.trans (p5.h.mono HB.out.size)) (by omega)) hXo)
    have HN := Lib.hid (show ¬ StartOk f a b from fun h => by have := HC.out.2.2.2.2.2 h.2.2.2.2; cases this)
    have HR := Lib.hid hX'
    clear hz hXo hXb hXs hXh hX' hX
    go_wp2_with fail
    rw [← HR.out]
    obtain ⟨x0, x1, x2, x3, x4, x5⟩ := own6 HX.out.2
    exact bodyPost_ret (v := .tuple #[.agg #[.slice none 0 0, .slice none 0 0, .int .i64 0, .int .i64 0, .slice none 0 0, .slice none 0 0], .int .i64 1]) (by simp [results, Tryz.results27, go_sem, x0, x1, x2, x3, x4, x5]) rfl (HF.out 1 _ _ (by decide) HN.out rfl HX.out.1)
  | true =>
  have hst : StartOk f a b := by
    refine ⟨?_, ?_, HC.out.2.2.1.1 trivial, HC.out.2.2.2.1.1 trivial, HC.out.2.2.2.2.1 rfl⟩
    · rcases HC.out.1 with ⟨e, _⟩ | ⟨_, e⟩
      · exact e
      · omega
    · rcases HC.out.2.1 with ⟨e, _⟩ | ⟨_, e⟩
      · exact e
      · omega
  obtain ⟨U, hU⟩ : ∃ U, U = p5.w := ⟨_, rfl⟩
  have hUb : Below V.heap.size V U := hU ▸ p5.h
  have hza := HI.out.1.keep hUb
  have hzb := HI.out.2.1.keep hUb
  have hzf := (HI.out.2.2.past hUb (Nat.le_refl _)).wide hUb.size
  have hzz : Own U (w.heap.size + 2) 43 Mg.nil.cells := hU ▸ HZ.out p5
  rw [← hU] at a0 a1 b0 b1
  have y1 := fun W (h : Bl U W) => Lib.hid (copyUps_any a.uA a.uc a.l W (hza.keep h).ups HOK.out.2.1.l hst.1.2.1.2.2 HOK.out.2.2.1)
  have y2 := fun W (h : Bl U W) => Lib.hid (copyUps_any b.uA b.uc b.l W (hzb.keep h).ups HOK.out.2.2.2.1.l hst.2.1.2.1.2.2 HOK.out.2.2.2.2)
  have y3 := fun W (h : Bl U W) => Lib.hid (listT_times A c f W ((hzf.past h (Nat.le_refl _)).wide h.size) (by have := HOK.out.1.n; omega))
  have HS := Lib.hid (fun W (h : Bm (w.heap.size + 2) U W) => And.intro ((Below.cell (p := ⟨w.heap.size, 1, none⟩) h (by show w.heap.size < _; omega)).trans a1) ((Below.cell (p := ⟨w.heap.size + 1, 1, none⟩) h (by show w.heap.size + 1 < _; omega)).trans b1))
  have hbs : w.heap.size + 2 ≤ U.heap.size := Nat.le_of_lt hzz.inside
  have HT := Lib.hid (fun W (h : Bl U W) => hzz.past h hzz.inside)
  have HU := Lib.hid (And.intro (HB.out.trans (hUb.mono HB.out.size)) (And.intro hst hzz.inside))
  have hself := Bl.refl U
  clear hza hzb hzf hzz hUb hst hX hY a0 b0
  go_upto_region 5 with fail
  rw [← hU]
  clear hU
  go_region_held3 (fun w' => Bm (w.heap.size + 2) U w' ∧ (w'.cell? ⟨w.heap.size, 1, none⟩ = some (.slice a.uA a.l.length a.uc) ∧ w'.cell? ⟨w.heap.size + 1, 1, none⟩ = some (.slice b.uA b.l.length b.uc)))
    ((refine (fun h => And.intro h (HS.out _ h)) ?_; repeat (first | with_reducible exact Bm.of hb3 hbs | with_reducible exact Bm.of hb2 hbs | with_reducible exact Bm.of hb1 hbs | with_reducible exact Bm.of hself hbs | with_reducible refine Bm.set ?_ (Nat.le_refl _) _ _ | with_reducible refine Bm.more ?_ hbs _ | with_reducible refine Bm.drew ?_)))
    (first | (go_at_call 37; refine (y3 _ hb2).out.mono ?_; rintro _ w3 ⟨A3, rfl, v3, n3, b3⟩; have hb3 : Bl U w3 := Bl.call hb2 b3; have v1 := v1.keep b3; have v2 := v2.keep b3; obtain ⟨f0, f1, f2, f3, f4, f5⟩ := own_frozen6 (HT.out _ hb3); obtain ⟨e0, e1, e2, e3, e4, e5⟩ := own6 (HT.out _ hb3)) | (go_at_call 56; have hq := hb1; refine (y2 _ hb1).out.mono ?_; rintro _ w2 ⟨A2, l2, rfl, p2', v2, o2, n2, b2, _⟩; have hb2 : Bl U w2 := Bl.call hb1 b2; have v1 := v1.keep b2) | (go_at_call 56; refine (y1 _ hself.drew).out.mono ?_; rintro _ w1 ⟨A1, l1, rfl, p1', v1, o1, n1, b1', _⟩; have hb1 : Bl U w1 := Bl.call hself.drew b1'))
  obtain ⟨X, hX', hXo, hXb, hXs, hXh⟩ := own_six (HT.out _ hb3) (.slice A1 l1.length l1.length) (.slice A2 l2.length l2.length) (.int .i64 0) (.int .i64 0) (.slice A3 f.length f.length) (.slice none 0 0)
  have s1 : U.heap.size ≤ w1.heap.size := hb1.below.size
  have s2 : U.heap.size ≤ w2.heap.size := hb2.below.size
  have s0 : w.heap.size + 2 < U.heap.size := HU.out.2.2
  have n1' : U.drew.heap.size = U.heap.size := rfl
  have HX := Lib.hid (And.intro (hXb w.heap.size w (HU.out.1.trans (hb3.below.mono HU.out.1.size)) (by omega)) hXo)
  have HQ := Lib.hid (show MgIn X X.heap.size ⟨A1, l1.length, l1, A2, l2.length, l2, 0, 0, A3, f.length, f, none, 0, []⟩ from ⟨ups_other v1 (n1.mono (by omega)) hXs hXh, ups_other v2 (n2.mono (by omega)) hXs hXh, times_other v3 (fun b o e => by have h1 := (n3 b o e).1; omega) hXs hXh, ⟨Lies.nil_, fun u hu => by cases hu⟩⟩)
  have HN := Lib.hid (show MgLo w.heap.size ⟨A1, l1.length, l1, A2, l2.length, l2, 0, 0, A3, f.length, f, none, 0, []⟩ from ⟨n1.mono (by omega), n2.mono (by omega), fun b o e => (by have h1 := (n3 b o e).1; omega), lo_nil _⟩)
  have HK := Lib.hid (show MgOk ⟨A1, l1.length, l1, A2, l2.length, l2, 0, 0, A3, f.length, f, none, 0, []⟩ from ⟨⟨by show l1.length ≤ _; rw [len_p p1']; exact HOK.out.2.1.l.n, o1⟩, ⟨by show l2.length ≤ _; rw [len_p p2']; exact HOK.out.2.2.2.1.l.n, o2⟩, ⟨HOK.out.1.n, Nat.le_refl _, Nat.le_trans HOK.out.1.le HOK.out.1.c_⟩, us_nil, ⟨by show -9223372036854775808 ≤ (0 : Int); omega, by show (0 : Int) ≤ 9223372036854775807; omega⟩, ⟨by show -9223372036854775808 ≤ (0 : Int); omega, by show (0 : Int) ≤ 9223372036854775807; omega⟩⟩)
  have HM := Lib.hid (And.intro p1' p2')
  have HR := Lib.hid hX'
  clear hX' hXo hXb hXs hXh e0 e1 e2 e3 e4 e5 v1 v2 v3 n1 n2 n3 o1 o2 p1' p2' s1 s2 s0 n1' y1 y2 y3 hq a1 b1
  go_wp2_with fail
  rw [← HR.out]
  obtain ⟨x0, x1, x2, x3, x4, x5⟩ := own6 HX.out.2
  exact bodyPost_ret (v := .tuple #[.agg #[.slice A1 l1.length l1.length, .slice A2 l2.length l2.length, .int .i64 0, .int .i64 0, .slice A3 f.length f.length, .slice none 0 0], .int .i64 0]) (by simp [results, Tryz.results27, go_sem, x0, x1, x2, x3, x4, x5]) rfl (HP.out ⟨A1, l1.length, l1, A2, l2.length, l2, 0, 0, A3, f.length, f, none, 0, []⟩ _ _ HU.out.2.1 rfl ⟨HM.out.1, HM.out.2, rfl, rfl, rfl, rfl⟩ HQ.out HK.out HN.out HX.out.1)
end Go.Proofs.YtbccdmpnojdldaaGreat
namespace Go.Proofs.YtbccdmpnojdldaaGreat
open Go Go.RowKit

theorem take_same {l m : List Tm} {s t : Tm} {k : Nat} (h : l[k]? = some s) (h' : m[k]? = some t) (he : l.take k = m.take k) (hst : s = t) : l.take (k + 1) = m.take (k + 1) := by
  rw [List.take_add_one, List.take_add_one, h, h', he, hst]

set_option maxRecDepth 100000 in
set_option maxHeartbeats 1600000 in
theorem same_any (A A' : Option Addr) (c c' : Nat) (l m : List Tm) (w : World) (hl : Times w w.heap.size A l) (hm : Times w w.heap.size A' m) (hn : l.length ≤ maxLen) (hn' : m.length ≤ maxLen) :
    Calls Tryz.prog 43 #[.slice A l.length c, .slice A' m.length c'] w fun e w' => e = .returned (.bool (decide (l = m))) ∧ Below w.heap.size w w' := by
  unfold maxLen at hn hn'
  by_cases hlen : l.length = m.length
  · have hlb : ((l.length : Int) != (m.length : Int)) = false := by simp [hlen]
    have hn2 : (l.length : Int) = (m.length : Int) → True := fun _ => trivial
    have Hl := Lib.hid (And.intro hlen (And.intro hl hm))
    clear hl hm hlen hn2
    go_enter Tryz.func43, Tryz.ntmps43
    go_wp2_with fail
    go_loopw [13] (fun i wr => ∃ k : Nat, i = .int .i64 (k : Int) ∧ k ≤ l.length ∧ Below w.heap.size w wr ∧ l.take k = m.take k)
      (fun i _ => l.length - (intOf i).toNat)
    case atStart => exact ⟨0, rfl, by omega, Below.refl _ _, rfl⟩
    case round =>
      obtain ⟨k, rfl, hk, hb, he⟩ := hrel
      by_cases hlt : k < l.length
      · obtain ⟨hlen, hl, hm⟩ := Hl.out
        have hltm : k < m.length := by omega
        have hx : l[k]? = some l[k] := List.getElem?_eq_getElem hlt
        have hy : m[k]? = some m[k] := List.getElem?_eq_getElem hltm
        obtain ⟨b, o, rfl, hB, hl⟩ := hl (by omega)
        obtain ⟨b', o', rfl, hB', hm⟩ := hm (by omega)
        obtain ⟨c0, c1, c2⟩ := (hl k _ hx).past hb hB
        obtain ⟨d0, d1, d2⟩ := (hm k _ hy).past hb hB'
        generalize l[k] = s at *
        generalize m[k] = t at *
        have hne := neq_time s t
        have hgd := fun (x1 y1 : Operand) (xs ys : Array Value) (w : World) => grd_time .neq x1 y1 xs ys w
        unfold Tm.val at hne
        have HH := Lib.hid (And.intro hb (And.intro he (And.intro hx hy)))
        have q0 : (0 : Int) ≤ (k : Int) := by omega
        have q1 : (k : Int) < (l.length : Int) := by omega
        have q2 : (k : Int) < (m.length : Int) := by omega
        clear hb he hx hy hl hm hlen
        by_cases hst : s = t
        · have hv : (!eqT s t) = false := by rw [eqT_iff.2 hst]; rfl
          simp only [hv] at hne
          have HS := Lib.hid hst
          clear hst hv
          go_wp2_with fail
          go_quiet (fail)
          go_wp2_with fail
          obtain ⟨hb, he, hx, hy⟩ := HH.out
          go_roundw
          case rel => exact ⟨k + 1, by go_num, by omega, below_draws hb _, take_same hx hy he HS.out⟩
          case measure => simp [intOf]; omega
        · have hv : (!eqT s t) = true := by rw [Bool.not_eq_true', ← Bool.not_eq_true, eqT_iff]; exact hst
          simp only [hv] at hne
          have HS := Lib.hid hst
          clear hst hv
          go_wp2_with fail
          go_quiet (fail)
          go_wp2_with fail
          go_ret
          obtain ⟨hb, he, hx, hy⟩ := HH.out
          refine ⟨ret_bool (Eq.symm ?_), below_draws hb _⟩
          simp only [decide_eq_false_iff_not]
          intro h
          rw [h, hy] at hx
          exact HS.out (by injection hx with hx; exact hx.symm)
      · have hk2 : k = l.length := by omega
        have HH := Lib.hid (And.intro hb (And.intro he hk2))
        clear hb he hk2
        go_wp2_with fail
        go_ret
        obtain ⟨hb, he, rfl⟩ := HH.out
        refine ⟨ret_bool (Eq.symm ?_), hb⟩
        simp only [decide_eq_true_eq]
        have := Hl.out.1
        rw [List.take_length, this, List.take_length] at he
        exact he
  · have hd : decide (l = m) = false := by simp; intro h; exact hlen (by rw [h])
    rw [hd]
    have hlb : ((l.length : Int) != (m.length : Int)) = true := by simp; omega
    clear hlen hd hl hm
    go_enter Tryz.func43, Tryz.ntmps43
    go_wp2_with fail
    go_ret
    exact ⟨rfl, Below.refl _ _⟩
end Go.Proofs.YtbccdmpnojdldaaGreat
namespace Go.Proofs.YtbccdmpnojdldaaGreat
open Go Go.RowKit

theorem two_bt (w : World) (a b : Bt) : ∃ V, V = (w.alloc (.cells #[.slice a.sA a.f.length a.sc, .slice a.uA a.l.length a.uc] 26)).alloc (.cells #[.slice b.sA b.f.length b.sc, .slice b.uA b.l.length b.uc] 26) ∧ Below w.heap.size w V ∧ Own V w.heap.size 26 a.cells ∧ Own V (w.heap.size + 1) 26 b.cells := by
  obtain ⟨V1, e1, b1, s1, o1⟩ := btbox w a
  obtain ⟨V2, e2, b2, s2, o2⟩ := btbox V1 b
  exact ⟨V2, by rw [e2, e1], b1.trans (b2.mono b1.size), o1.past b2 o1.inside, by rw [← s1]; exact o2⟩
set_option maxRecDepth 100000 in
set_option maxHeartbeats 6400000 in
theorem samebatch_any (a b : Bt) (w : World) (ha : BtIn w w.heap.size a) (oa : BtOk a) (hb : BtIn w w.heap.size b) (ob : BtOk b) :
    Calls Tryz.prog 12 #[a.val, b.val] w (Tells (a.f = b.f ∧ a.l.map Up.p = b.l.map Up.p) w) := by
  obtain ⟨V, hV, hvb, hv1, hv2⟩ := two_bt w a b
  have hX := fun p : Past V => own2 (hv1.past p.h hv1.inside)
  have hY := fun p : Past V => own2 (hv2.past p.h hv2.inside)
  have hia := ha.keep hvb
  have hib := hb.keep hvb
  obtain ⟨bu, hbu⟩ := bool_of (a.l.map Up.p = b.l.map Up.p)
  have m2 : a.f.length ≤ maxLen := Nat.le_trans oa.f.le oa.f.c_
  have m3 : b.f.length ≤ maxLen := Nat.le_trans ob.f.le ob.f.c_
  obtain ⟨bf, hbf⟩ : ∃ x : Bool, decide (a.f = b.f) = x := ⟨_, rfl⟩
  have u1 := fun p : Past V => calls_past (same_any a.sA b.sA a.sc b.sc a.f b.f p.w (hia.keep p.h).since (hib.keep p.h).since m2 m3)
  rw [hbf] at u1
  have u2 := fun p : Past V => calls_past ((sameU_any a.uA b.uA a.uc b.uc a.l b.l p.w (hia.keep p.h).ups (hib.keep p.h).ups oa.l.ok ob.l.ok oa.l.n ob.l.n).mono fun x w' h => tells_is hbu h)
  have HB := Lib.hid hvb
  have HE := Lib.hid (show (bf && bu) = true ↔ a.f = b.f ∧ a.l.map Up.p = b.l.map Up.p by rw [Bool.and_eq_true, hbu, ← hbf, decide_eq_true_iff])
  rw [show a.val = .agg #[.slice a.sA a.f.length a.sc, .slice a.uA a.l.length a.uc] from rfl, show b.val = .agg #[.slice b.sA b.f.length b.sc, .slice b.uA b.l.length b.uc] from rfl]
  have HP := Lib.hid (show ∀ c x w', (x = Ending.returned (.bool c) ∧ (c = true ↔ a.f = b.f ∧ a.l.map Up.p = b.l.map Up.p) ∧ Below w.heap.size w w') → Tells (a.f = b.f ∧ a.l.map Up.p = b.l.map Up.p) w x w' from fun n x w' h => ⟨n, h⟩)
  clear ha oa hb ob hvb hv1 hv2 hia hib hbu hbf m2 m3
  go_enter Tryz.func12, Tryz.ntmps12
  go_upto_region 1 with fail
  rw [← hV]
  clear hV
  obtain ⟨a0, a1⟩ := hX ⟨V, Below.refl _ _⟩
  obtain ⟨b0, b1⟩ := hY ⟨V, Below.refl _ _⟩
  dsimp only at a0 a1 b0 b1
  go_wp2_with fail
  refine (u1 ⟨V, Below.refl _ _⟩).mono ?_
  rintro _ _ ⟨rfl, ⟨p1, rfl⟩⟩
  clear a0 a1 b0 b1 u1
  obtain ⟨a0, a1⟩ := hX p1
  obtain ⟨b0, b1⟩ := hY p1
  cases bf with
  | false =>
    clear u2 hX hY
    go_wp2_with fail
    go_ret
    exact HP.out false _ _ ⟨rfl, HE.out, HB.out.trans (p1.h.mono HB.out.size)⟩
  | true =>
  go_wp2_with fail
  refine (u2 p1).mono ?_
  rintro _ _ ⟨rfl, ⟨p2, rfl⟩⟩
  clear a0 a1 b0 b1 u2 hX hY
  go_wp2_with fail
  go_ret
  exact HP.out bu _ _ ⟨rfl, HE.out, HB.out.trans (p2.h.mono HB.out.size)⟩
theorem samebatch_yes (a b : Bt) (w : World) (ha : BtIn w w.heap.size a) (oa : BtOk a) (hb : BtIn w w.heap.size b) (ob : BtOk b) (h : a.f = b.f ∧ a.l.map Up.p = b.l.map Up.p) :
    Calls Tryz.prog 12 #[a.val, b.val] w fun x w' => x = .returned (.bool true) ∧ Below w.heap.size w w' :=
  (samebatch_any a b w ha oa hb ob).mono fun x w' ⟨c, h1, h2, h3⟩ => ⟨by rw [h1, h2.2 h], h3⟩
theorem sameups_yes (A A' : Option Addr) (c c' : Nat) (l m : List Up) (w : World) (hl : Ups w w.heap.size A l) (hm : Ups w w.heap.size A' m) (ol : UsOk l) (om : UsOk m) (h : l.map Up.p = m.map Up.p) :
    Calls Tryz.prog 21 #[.slice A l.length c, .slice A' m.length c'] w fun x w' => x = .returned (.bool true) ∧ Below w.heap.size w w' :=
  (sameU_any A A' c c' l m w hl hm ol.ok om.ok ol.n om.n).mono fun x w' ⟨b, h1, h2, h3⟩ => ⟨by rw [h1, h2.2 h], h3⟩
/-- Build of one list -/
theorem build_one (A : Option Addr) (c : Nat) (f : List Tm) (A1 A' : Option Addr) (c' : Nat) (l : List Up) (w : World) (hf : Times w w.heap.size A f) (hfo : TsOk f c) (hl : ULs w w.heap.size A1 [⟨A', c', l⟩]) (ol : UsOk l) :
    Calls Tryz.prog 9 #[.slice A f.length c, .slice A1 1 1] w (Built f l w) := by
  have he : flatR [(⟨A', c', l⟩ : Rw Up)] = l := by simp [flatR]
  have := build_any A c f A1 1 [⟨A', c', l⟩] w hf hfo hl (fun s hs u hu => by
    obtain rfl : s = ⟨A', c', l⟩ := by simpa using hs
    exact ol.ok u hu) (by rw [he]; exact ol.n) (by simp)
  rw [he] at this
  exact this
theorem built_ok {f : List Tm} {l : List Up} (h : bldE f l = 0) : FrontOk f ∧ consE [advL f l] = 0 := by
  unfold bldE at h
  split at h
  · exact ⟨by assumption, h⟩
  · exact absurd h (by decide)
theorem bld_ok {f : List Tm} {l : List Up} (h : FrontOk f) (h' : consE [advL f l] = 0) : bldE f l = 0 := (if_pos h).trans h'
end Go.Proofs.YtbccdmpnojdldaaGreat
namespace Go.Proofs.YtbccdmpnojdldaaGreat
open Go Go.RowKit

def bk (n : Int) : Uk := ⟨[], [vnum n], ⟨0, 0, 0⟩⟩
theorem bfront_nil : FrontOk [] := by
  have h1 := frontTo_len (sortT []) (sortT []).length (Nat.le_refl _)
  have h2 : (sortT []).length = 0 := by simp [sortT]
  exact ⟨by rfl, List.eq_nil_of_length_eq_zero (by unfold frontL; omega)⟩
theorem bl_a (G1 G2 : Nat) : consL [advL [] [lu G1 1 1 0, lu G2 2 5 0]] = [(bk 1, (1 : Int)), (bk 2, 5)] ∧ consE [advL [] [lu G1 1 1 0, lu G2 2 5 0]] = 0 := ⟨by kernel_rfl, by kernel_rfl⟩
theorem bl_b (G : Nat) : consL [advL [] [lu G 1 (-1) 0]] = [(bk 1, (-1 : Int))] ∧ consE [advL [] [lu G 1 (-1) 0]] = 0 := ⟨by kernel_rfl, by kernel_rfl⟩
theorem up_of {u : Up} {n d : Int} (h : u.p = (bk n, d)) : ∃ (kA : Option Addr) (kc : Nat) (rA : Option Addr) (rc : Nat), u = ⟨kA, kc, [], rA, rc, [vnum n], ⟨0, 0, 0⟩, d⟩ := by
  obtain ⟨kA, kc, key, rA, rc, row, t, d'⟩ := u
  have h : ((⟨key, row, t⟩ : Uk), d') = ((⟨[], [vnum n], ⟨0, 0, 0⟩⟩ : Uk), d) := h
  simp only [Prod.mk.injEq, Uk.mk.injEq] at h
  obtain ⟨⟨rfl, rfl, rfl⟩, rfl⟩ := h
  exact ⟨kA, kc, rA, rc, rfl⟩
theorem two_of {l : List Up} (h : l.map Up.p = [(bk 1, (1 : Int)), (bk 2, 5)]) : ∃ u v, l = [u, v] ∧ u.p = (bk 1, (1 : Int)) ∧ v.p = (bk 2, 5) := by
  have hl : l.length = 2 := by have := congrArg List.length h; simpa using this
  obtain ⟨u, v, rfl⟩ : ∃ u v, l = [u, v] := by
    match l, hl with
    | [u, v], _ => exact ⟨u, v, rfl⟩
  rw [List.map_cons, List.map_cons, List.map_nil] at h
  injection h with h1 h2
  injection h2 with h2 _
  exact ⟨u, v, rfl, h1, h2⟩
theorem one_of {l : List Up} (h : l.map Up.p = [(bk 1, (-1 : Int))]) : ∃ u, l = [u] ∧ u.p = (bk 1, (-1 : Int)) := by
  have hl : l.length = 1 := by have := congrArg List.length h; simpa using this
  obtain ⟨u, rfl⟩ := List.length_eq_one_iff.1 hl
  rw [List.map_cons, List.map_nil] at h
  injection h with h1 _
  exact ⟨u, rfl, h1⟩
/-- the first step takes two, and nothing comes of it -/
theorem bl_work1 {a b : List Up} (ha : a.map Up.p = [(bk 1, (1 : Int)), (bk 2, 5)]) (hb : b.map Up.p = [(bk 1, (-1 : Int))]) (n : Nat) (hn : n = 3) :
    (workM [] 1 n (startM a 0 b 0 [])).cost = 2 ∧ (workM [] 1 n (startM a 0 b 0 [])).E = 0 ∧ (workM [] 1 n (startM a 0 b 0 [])).ta.length = 1 ∧ (workM [] 1 n (startM a 0 b 0 [])).tb.length = 1 ∧ (workM [] 1 n (startM a 0 b 0 [])).out = [] := by
  subst hn
  obtain ⟨u, v, rfl, hu, hv⟩ := two_of ha
  obtain ⟨x, rfl, hx⟩ := one_of hb
  obtain ⟨_, _, _, _, rfl⟩ := up_of hu
  obtain ⟨_, _, _, _, rfl⟩ := up_of hv
  obtain ⟨_, _, _, _, rfl⟩ := up_of hx
  exact ⟨by kernel_rfl, by kernel_rfl, by kernel_rfl, by kernel_rfl, by kernel_rfl⟩
/-- the second one, and last -/
theorem bl_work2 {a b : List Up} (ha : a.map Up.p = [(bk 1, (1 : Int)), (bk 2, 5)]) (hb : b.map Up.p = [(bk 1, (-1 : Int))]) (n : Nat) (hn : n = 1) :
    (workM [] 9 n (startM a 1 b 1 [])).cost = 1 ∧ (workM [] 9 n (startM a 1 b 1 [])).E = 0 ∧ (workM [] 9 n (startM a 1 b 1 [])).ta.length = 2 ∧ (workM [] 9 n (startM a 1 b 1 [])).tb.length = 1 ∧ (workM [] 9 n (startM a 1 b 1 [])).out = [(bk 2, 5)] := by
  subst hn
  obtain ⟨u, v, rfl, hu, hv⟩ := two_of ha
  obtain ⟨x, rfl, hx⟩ := one_of hb
  obtain ⟨_, _, _, _, rfl⟩ := up_of hu
  obtain ⟨_, _, _, _, rfl⟩ := up_of hv
  obtain ⟨_, _, _, _, rfl⟩ := up_of hx
  exact ⟨by kernel_rfl, by kernel_rfl, by kernel_rfl, by kernel_rfl, by kernel_rfl⟩
theorem bl_later : LaterF [⟨2, 0, 0⟩] [⟨1, 0, 0⟩] := .inr ⟨by simp, fun x hx => by
  obtain rfl : x = ⟨2, 0, 0⟩ := by simpa using hx
  rfl⟩
end Go.Proofs.YtbccdmpnojdldaaGreat
namespace Go.Proofs.YtbccdmpnojdldaaGreat
open Go Go.RowKit

set_option maxRecDepth 100000 in
set_option maxHeartbeats 1600000 in
theorem brow_any (n : Int) (w : World) : Calls Tryz.prog 42 #[.int .i64 n] w fun x w' => ∃ G, x = .returned (.slice (some ⟨G, 0, none⟩) 1 1) ∧ Vals w' w'.heap.size (some ⟨G, 0, none⟩) [vnum n] ∧ Below w.heap.size w w' := by
  have hv := Lib.hid (vals_num w n)
  go_enter Tryz.func42, Tryz.ntmps42
  go_wp2_with fail
  go_ret
  exact ⟨_, rfl, hv.out, (Below.refl _ _).alloc (Nat.le_refl _) _⟩
/-- one update in a row of its own -/
theorem box_one (w : World) (G : Nat) (n d : Int) (h : Vals w w.heap.size (some ⟨G, 0, none⟩) [vnum n]) :
    ∃ V, V = w.alloc (.cells #[.slice none 0 0, .slice (some ⟨G, 0, none⟩) 1 1, .int .u64 0, .int .u64 0, .int .u64 0, .int .i64 d] 60) ∧ Below w.heap.size w V ∧ Ups V V.heap.size (some ⟨w.heap.size, 0, none⟩) [lu G n d 0] := by
  obtain ⟨W, e1, s1, b1, o1⟩ := boxd w [.slice none 0 0, .slice (some ⟨G, 0, none⟩) 1 1, .int .u64 0, .int .u64 0, .int .u64 0, .int .i64 d] 60
  refine ⟨W, e1, b1, ups_own (t := 60) (l := [lu G n d 0]) o1 fun u hu => ?_⟩
  obtain rfl : u = lu G n d 0 := by simpa using hu
  exact lu_in (vals_keep h b1)
theorem bld_a (G1 G2 : Nat) : bldE [] [lu G1 1 1 0, lu G2 2 5 0] = 0 := (if_pos bfront_nil).trans (bl_a G1 G2).2
theorem bld_b (G : Nat) : bldE [] [lu G 1 (-1) 0] = 0 := (if_pos bfront_nil).trans (bl_b G).2
theorem lu_ok' {G : Nat} {n d : Int} (hn : n = 1 ∨ n = 2) (hd : d = 1 ∨ d = 5 ∨ d = -1) : UOk (lu G n d 0) := lu_ok (by omega) (by omega)
/-- Build at the first two lists -/
theorem build_a (A A1 A2 : Option Addr) (G1 G2 : Nat) (w : World) (h : ULs w w.heap.size A [⟨A1, 1, [lu G1 1 1 0]⟩, ⟨A2, 1, [lu G2 2 5 0]⟩]) :
    Calls Tryz.prog 9 #[.slice none 0 0, .slice A 2 2] w fun x w' => ∃ b : Bt, x = .returned (.tuple #[b.val, .int .i64 0]) ∧ b.f = [] ∧ b.l.map Up.p = [(bk 1, (1 : Int)), (bk 2, 5)] ∧ BatchOk b.f b.l ∧ BtIn w' w'.heap.size b ∧ BtOk b ∧ Below w.heap.size w w' := by
  have := build_any none 0 [] A 2 [⟨A1, 1, [lu G1 1 1 0]⟩, ⟨A2, 1, [lu G2 2 5 0]⟩] w Times.nil_ ts_nil h (fun s hs u hu => by
    rcases List.mem_cons.1 hs with rfl | hs
    · obtain rfl : u = lu G1 1 1 0 := by simpa using hu
      exact lu_ok' (.inl rfl) (.inl rfl)
    · obtain rfl : s = ⟨A2, 1, [lu G2 2 5 0]⟩ := by simpa using hs
      obtain rfl : u = lu G2 2 5 0 := by simpa using hu
      exact lu_ok' (.inr rfl) (.inr (.inl rfl))) (by simp [flatR]) (by simp)
  refine this.mono fun x w' ⟨b, h1, h2, h3, h4, h5, h6, h7⟩ => ?_
  have hE : bldE [] (flatR [⟨A1, 1, [lu G1 1 1 0]⟩, ⟨A2, 1, [lu G2 2 5 0]⟩]) = 0 := bld_a G1 G2
  rw [hE] at h1
  obtain ⟨k1, k2, k3⟩ := h2 hE
  have k3 : b.l.map Up.p = consL [advL [] [lu G1 1 1 0, lu G2 2 5 0]] := k3
  refine ⟨b, h1, k2, k3.trans (bl_a G1 G2).1, ?_, h4, h5, h7⟩
  rw [k2]
  exact batch_ok bfront_nil (bl_a G1 G2).2 k3
theorem build_b (A A1 : Option Addr) (G : Nat) (w : World) (h : ULs w w.heap.size A [⟨A1, 1, [lu G 1 (-1) 0]⟩]) :
    Calls Tryz.prog 9 #[.slice none 0 0, .slice A 1 1] w fun x w' => ∃ b : Bt, x = .returned (.tuple #[b.val, .int .i64 0]) ∧ b.f = [] ∧ b.l.map Up.p = [(bk 1, (-1 : Int))] ∧ BatchOk b.f b.l ∧ BtIn w' w'.heap.size b ∧ BtOk b ∧ Below w.heap.size w w' := by
  have := build_any none 0 [] A 1 [⟨A1, 1, [lu G 1 (-1) 0]⟩] w Times.nil_ ts_nil h (fun s hs u hu => by
    obtain rfl : s = ⟨A1, 1, [lu G 1 (-1) 0]⟩ := by simpa using hs
    obtain rfl : u = lu G 1 (-1) 0 := by simpa using hu
    exact lu_ok' (.inl rfl) (.inr (.inr rfl))) (by simp [flatR]) (by simp)
  refine this.mono fun x w' ⟨b, h1, h2, h3, h4, h5, h6, h7⟩ => ?_
  have hE : bldE [] (flatR [⟨A1, 1, [lu G 1 (-1) 0]⟩]) = 0 := bld_b G
  rw [hE] at h1
  obtain ⟨k1, k2, k3⟩ := h2 hE
  have k3 : b.l.map Up.p = consL [advL [] [lu G 1 (-1) 0]] := k3
  refine ⟨b, h1, k2, k3.trans (bl_b G).1, ?_, h4, h5, h7⟩
  rw [k2]
  exact batch_ok bfront_nil (bl_b G).2 k3
theorem mg_other {w X : World} {P : Nat} {m : Mg} (h : MgIn w w.heap.size m) (hlo : MgLo (P + 1) m) (hs : X.heap.size = w.heap.size) (hX : ∀ b, b ≠ P → X.heap[b]? = w.heap[b]?) : MgIn X X.heap.size m := ⟨ups_other h.a hlo.a hs hX, ups_other h.b hlo.b hs hX, times_other h.f hlo.f hs hX, ups_other h.o hlo.o hs hX⟩
/-- what a merger is at each of its three states there -/
structure Lm (m : Mg) (i j : Nat) (o : List (Uk × Int)) : Prop where
  way : OnWay m i j
  f : m.f = []
  a : m.a.map Up.p = [(bk 1, (1 : Int)), (bk 2, 5)]
  b : m.b.map Up.p = [(bk 1, (-1 : Int))]
  o_ : m.o.map Up.p = o
theorem lm_len {m : Mg} {i j : Nat} {o : List (Uk × Int)} (h : Lm m i j o) (ho : o.length ≤ 1) : m.a.length = 2 ∧ m.b.length = 1 ∧ m.o.length ≤ 274877906944 := by
  have h1 := congrArg List.length h.a
  have h2 := congrArg List.length h.b
  have h3 := congrArg List.length h.o_
  simp at h1 h2 h3
  exact ⟨h1, h2, by omega⟩
theorem start_l (a b : Bt) (w : World) (ha : BtIn w w.heap.size a) (oa : BtOk a) (hb : BtIn w w.heap.size b) (ob : BtOk b) (fa : a.f = []) (fb : b.f = []) (pa : a.l.map Up.p = [(bk 1, (1 : Int)), (bk 2, 5)]) (pb : b.l.map Up.p = [(bk 1, (-1 : Int))]) (ka : BatchOk a.f a.l) (kb : BatchOk b.f b.l) :
    Calls Tryz.prog 27 #[.slice none 0 0, a.val, b.val] w fun x w' => ∃ m : Mg, x = .returned (.tuple #[m.val, .int .i64 0]) ∧ Lm m 0 0 [] ∧ MgIn w' w'.heap.size m ∧ MgOk m ∧ Below w.heap.size w w' := by
  have la : a.l.length = 2 := by have := congrArg List.length pa; simpa using this
  have lb : b.l.length = 1 := by have := congrArg List.length pb; simpa using this
  refine (start_any none 0 [] a b w Times.nil_ ts_nil ha oa (by omega) hb ob (by omega)).mono fun x w' ⟨m, E, h1, h2, h3, h4, h5, h6⟩ => ?_
  rcases h2 with ⟨rfl, hs, k1, k2, k3, k4, k5, k6⟩ | ⟨_, _, hn⟩
  · exact ⟨m, h1, ⟨start_way (by rw [k5]; exact bfront_nil) (even_p k1.symm ka.2.1) (even_p k2.symm kb.2.1) k3 k4 k6, k5, k1.trans pa, k2.trans pb, by rw [k6]; rfl⟩, h3, h4, h6⟩
  · exact absurd ⟨ka, kb, bfront_nil, .inl fa, .inl fb⟩ hn
theorem work_l1 (m : Mg) (w : World) (h : Lm m 0 0 []) (hm : MgIn w w.heap.size m) (ok : MgOk m) :
    Calls Tryz.prog 23 #[m.val, .int .i64 1] w fun x w' => ∃ m' : Mg, x = .returned (.tuple #[m'.val, .int .i64 2, .int .i64 0]) ∧ Lm m' 1 1 [] ∧ MgIn w' w'.heap.size m' ∧ MgOk m' ∧ MgLo w.heap.size m' ∧ Below w.heap.size w w' := by
  obtain ⟨la, lb, lo⟩ := lm_len h (by simp)
  refine (work_any m 1 w hm ok (by omega) (by omega) lo).mono fun x w' ⟨m', c, E, h1, h2, h3, h4, h5, h6⟩ => ?_
  rcases h2 with ⟨hn, _⟩ | ⟨_, hw⟩
  · exact absurd h.way.ok hn
  · obtain ⟨n, s, hn, hs, hc, hE, hi, hj, ho⟩ := hw.s
    have e1 : m.i.toNat = 0 := by rw [h.way.i_]; rfl
    have e2 : m.j.toNat = 0 := by rw [h.way.j_]; rfl
    rw [e1, e2, la, lb] at hn
    rw [e1, e2, h.o_, h.f] at hs
    obtain ⟨b1, b2, b3, b4, b5⟩ := bl_work1 (hw.a.trans h.a) (hw.b.trans h.b) n hn.symm
    rw [← hs] at b1 b2 b3 b4 b5
    obtain ⟨i', j', k, _, q2, _, _, _⟩ := workok_fine hw h.way
    have hi2 : m'.i = 1 := by rw [hi, b3]; rfl
    have hj2 : m'.j = 1 := by rw [hj, b4]; rfl
    have e3 : i' = 1 := by have := q2.i_; omega
    have e4 : j' = 1 := by have := q2.j_; omega
    subst e3; subst e4
    refine ⟨m', by rw [h1, hc, hE, b1, b2]; rfl, ⟨q2, hw.f.trans h.f, hw.a.trans h.a, hw.b.trans h.b, ho.trans b5⟩, h3, h4, h5, h6⟩
theorem work_l2 (m : Mg) (w : World) (h : Lm m 1 1 []) (hm : MgIn w w.heap.size m) (ok : MgOk m) :
    Calls Tryz.prog 23 #[m.val, .int .i64 9] w fun x w' => ∃ m' : Mg, x = .returned (.tuple #[m'.val, .int .i64 1, .int .i64 0]) ∧ Lm m' 2 1 [(bk 2, 5)] ∧ MgIn w' w'.heap.size m' ∧ MgOk m' ∧ MgLo w.heap.size m' ∧ Below w.heap.size w w' := by
  obtain ⟨la, lb, lo⟩ := lm_len h (by simp)
  refine (work_any m 9 w hm ok (by omega) (by omega) lo).mono fun x w' ⟨m', c, E, h1, h2, h3, h4, h5, h6⟩ => ?_
  rcases h2 with ⟨hn, _⟩ | ⟨_, hw⟩
  · exact absurd h.way.ok hn
  · obtain ⟨n, s, hn, hs, hc, hE, hi, hj, ho⟩ := hw.s
    have e1 : m.i.toNat = 1 := by rw [h.way.i_]; rfl
    have e2 : m.j.toNat = 1 := by rw [h.way.j_]; rfl
    rw [e1, e2, la, lb] at hn
    rw [e1, e2, h.o_, h.f] at hs
    obtain ⟨b1, b2, b3, b4, b5⟩ := bl_work2 (hw.a.trans h.a) (hw.b.trans h.b) n hn.symm
    rw [← hs] at b1 b2 b3 b4 b5
    obtain ⟨i', j', k, _, q2, _, _, _⟩ := workok_fine hw h.way
    have hi2 : m'.i = 2 := by rw [hi, b3]; rfl
    have hj2 : m'.j = 1 := by rw [hj, b4]; rfl
    have e3 : i' = 2 := by have := q2.i_; omega
    have e4 : j' = 1 := by have := q2.j_; omega
    subst e3; subst e4
    refine ⟨m', by rw [h1, hc, hE, b1, b2]; rfl, ⟨q2, hw.f.trans h.f, hw.a.trans h.a, hw.b.trans h.b, ho.trans b5⟩, h3, h4, h5, h6⟩
theorem end_l1 (m : Mg) (w : World) (h : Lm m 1 1 []) (hm : MgIn w w.heap.size m) (ok : MgOk m) :
    Calls Tryz.prog 25 #[m.val] w fun x w' => ∃ b : Bt, x = .returned (.tuple #[b.val, .int .i64 8]) ∧ Below w.heap.size w w' := by
  obtain ⟨la, lb, lo⟩ := lm_len h (by simp)
  refine (end_any m w hm ok lo).mono fun x w' ⟨b, E, h1, h2, _, _, _, h6⟩ => ?_
  rcases h2 with ⟨_, he, _⟩ | ⟨rfl, _, _⟩
  · have := he.2.1
    rw [h.way.i_, la] at this
    omega
  · exact ⟨b, h1, h6⟩
theorem end_l2 (m : Mg) (w : World) (h : Lm m 2 1 [(bk 2, 5)]) (hm : MgIn w w.heap.size m) (ok : MgOk m) :
    Calls Tryz.prog 25 #[m.val] w fun x w' => ∃ b : Bt, x = .returned (.tuple #[b.val, .int .i64 0]) ∧ b.l.map Up.p = [(bk 2, 5)] ∧ BtIn w' w'.heap.size b ∧ Below w.heap.size w w' := by
  obtain ⟨la, lb, lo⟩ := lm_len h (by simp)
  refine (end_any m w hm ok lo).mono fun x w' ⟨b, E, h1, h2, h3, _, _, h6⟩ => ?_
  rcases h2 with ⟨rfl, _, _, hb⟩ | ⟨_, hn, _⟩
  · exact ⟨b, h1, hb.trans h.o_, h3, h6⟩
  · exact absurd ⟨h.way.ok, by rw [h.way.i_, la], by rw [h.way.j_, lb]⟩ hn
end Go.Proofs.YtbccdmpnojdldaaGreat
namespace Go.Proofs.YtbccdmpnojdldaaGreat
open Go Go.RowKit

theorem later_l (w : World) : Calls Tryz.prog 15 #[.slice (some ⟨w.heap.size, 0, none⟩) 1 1, .slice (some ⟨w.heap.size + 1, 0, none⟩) 1 1] ((w.alloc (.cells #[.int .u64 2, .int .u64 0, .int .u64 0] 58)).alloc (.cells #[.int .u64 1, .int .u64 0, .int .u64 0] 58)) fun x w' => x = .returned (.bool true) ∧ Below w.heap.size w w' := by
  have h1 := times_made w ⟨2, 0, 0⟩
  have hb1 : Below w.heap.size w (w.alloc (.cells #[.int .u64 2, .int .u64 0, .int .u64 0] 58)) := (Below.refl _ _).alloc (Nat.le_refl _) _
  have hb2 : Below (w.heap.size + 1) (w.alloc (.cells #[.int .u64 2, .int .u64 0, .int .u64 0] 58)) ((w.alloc (.cells #[.int .u64 2, .int .u64 0, .int .u64 0] 58)).alloc (.cells #[.int .u64 1, .int .u64 0, .int .u64 0] 58)) := (Below.refl _ _).alloc (by simp) _
  have h1' : Times (w.alloc (.cells #[.int .u64 2, .int .u64 0, .int .u64 0] 58)) (w.heap.size + 1) (some ⟨w.heap.size, 0, none⟩) [⟨2, 0, 0⟩] := by simpa using h1
  have h2 := times_made (w.alloc (.cells #[.int .u64 2, .int .u64 0, .int .u64 0] 58)) ⟨1, 0, 0⟩
  have h2' : Times ((w.alloc (.cells #[.int .u64 2, .int .u64 0, .int .u64 0] 58)).alloc (.cells #[.int .u64 1, .int .u64 0, .int .u64 0] 58)) ((w.alloc (.cells #[.int .u64 2, .int .u64 0, .int .u64 0] 58)).alloc (.cells #[.int .u64 1, .int .u64 0, .int .u64 0] 58)).heap.size (some ⟨w.heap.size + 1, 0, none⟩) [⟨1, 0, 0⟩] := by simpa using h2
  refine (later_any (some ⟨w.heap.size, 0, none⟩) 1 [⟨2, 0, 0⟩] (some ⟨w.heap.size + 1, 0, none⟩) 1 [⟨1, 0, 0⟩] _ ((h1'.past hb2 (Nat.le_refl _)).wide (by simp)) (by unfold maxLen; simp) h2' (by unfold maxLen; simp)).mono fun x w' ⟨b, k1, k2, k3⟩ => ?_
  refine ⟨by rw [k1, k2.2 bl_later], ?_⟩
  have hz : w.heap.size ≤ (w.alloc (.cells #[.int .u64 2, .int .u64 0, .int .u64 0] 58)).heap.size := hb1.size
  exact (hb1.trans (hb2.mono (Nat.le_succ _))).trans (k3.mono (by simp; omega))
set_option maxRecDepth 100000 in
set_option maxHeartbeats 12800000 in
theorem blives_true (w : World) : Calls Tryz.prog 11 #[] w fun e w' => e = .returned (.bool true) ∧ Below w.heap.size w w' := by
  have y1 := fun W => Lib.hid (brow_any 1 W)
  have y2 := fun W => Lib.hid (brow_any 2 W)
  go_enter Tryz.func11, Tryz.ntmps11
  go_wp2_with fail
  refine (y1 _).out.mono ?_
  rintro _ w1 ⟨G1, rfl, v1, b1⟩
  obtain ⟨V1, hV1, hb1, hu1⟩ := box_one w1 G1 1 1 v1
  have H1 := Lib.hid (And.intro (belows b1 hb1) hu1)
  clear b1 v1 hb1 hu1
  go_wp2_with fail
  rw [← hV1]
  clear hV1
  refine (y2 _).out.mono ?_
  rintro _ w2 ⟨G2, rfl, v2, b2⟩
  obtain ⟨V2, hV2, hb2, hu2⟩ := box_one w2 G2 2 5 v2
  obtain ⟨V3, hV3, hb3, hul⟩ := two_lists V2 (some ⟨w1.heap.size, 0, none⟩) (some ⟨w2.heap.size, 0, none⟩) 1 1 [lu G1 1 1 0] [lu G2 2 5 0] ((H1.out.2.keep b2).keep hb2) hu2
  have z1 := Lib.hid (build_a (some ⟨V2.heap.size, 0, none⟩) (some ⟨w1.heap.size, 0, none⟩) (some ⟨w2.heap.size, 0, none⟩) G1 G2 V3 hul)
  have H3 := Lib.hid (belows H1.out.1 (belows b2 (belows hb2 hb3)))
  rw [hV2] at hV3 z1
  simp only [List.length_cons, List.length_nil, Nat.zero_add, World.size_alloc] at hV3 z1
  clear b2 v2 hb2 hb3 hu2 hul hV2
  go_wp2_with fail
  rw [← hV3]
  clear hV3
  refine z1.out.mono ?_
  rintro _ w3 ⟨a, rfl, fa, pa, ka, ia, oa, b3⟩
  obtain ⟨V4, hV4, hb4, hs4, ho4⟩ := btbox w3 a
  have HA := Lib.hid (And.intro (belows H3.out (belows b3 hb4)) (And.intro ho4 (And.intro (ia.keep hb4) (And.intro oa (And.intro fa (And.intro pa ka))))))
  unfold Bt.val
  clear fa pa ka ia oa b3 hb4 ho4 z1
  go_wp2_with fail
  rw [← hV4]
  clear hV4
  refine (y1 _).out.mono ?_
  rintro _ w5 ⟨G5, rfl, v5, b5⟩
  obtain ⟨V5, hV5, hb5, hu5⟩ := box_one w5 G5 1 (-1) v5
  obtain ⟨V6, hV6, hb6, hul⟩ := one_list V5 (some ⟨w5.heap.size, 0, none⟩) 1 [lu G5 1 (-1) 0] hu5
  have z2 := Lib.hid (build_b (some ⟨V5.heap.size, 0, none⟩) (some ⟨w5.heap.size, 0, none⟩) G5 V6 hul)
  have hb56 : Below V4.heap.size V4 V6 := belows b5 (belows hb5 hb6)
  have H6 := Lib.hid (And.intro (belows HA.out.1 hb56) (And.intro (HA.out.2.1.past hb56 (by omega)) (HA.out.2.2.1.keep hb56)))
  rw [hV5] at hV6 z2
  simp only [List.length_cons, List.length_nil, Nat.zero_add, World.size_alloc] at hV6 z2
  clear b5 v5 hb5 hb6 hu5 hul hV5 hb56
  go_wp2_with fail
  rw [← hV6]
  clear hV6
  refine z2.out.mono ?_
  rintro _ w6 ⟨b, rfl, fb, pb, kb, ib, ob, b6⟩
  obtain ⟨V7, hV7, hb7, hs7, ho7⟩ := btbox w6 b
  have hb67 : Below V6.heap.size V6 V7 := belows b6 hb7
  have h3in : w3.heap.size < V6.heap.size := H6.out.2.1.inside
  have HB := Lib.hid (And.intro (belows H6.out.1 hb67) (And.intro (H6.out.2.1.past hb67 h3in) (And.intro ho7 (And.intro (H6.out.2.2.keep hb67) (And.intro (ib.keep hb7) (And.intro ob (And.intro fb (And.intro pb kb))))))))
  have z3 := Lib.hid (start_l a b V7 HB.out.2.2.2.1 HA.out.2.2.2.1 HB.out.2.2.2.2.1 HB.out.2.2.2.2.2.1 HA.out.2.2.2.2.1 HB.out.2.2.2.2.2.2.1 HA.out.2.2.2.2.2.1 HB.out.2.2.2.2.2.2.2.1 HA.out.2.2.2.2.2.2 HB.out.2.2.2.2.2.2.2.2)
  obtain ⟨d0, d1⟩ := own2 HB.out.2.1
  obtain ⟨e0, e1⟩ := own2 HB.out.2.2.1
  unfold Bt.val at z3 ⊢
  clear fb pb kb ib ob b6 hb7 ho7 z2 hb67 h3in
  go_upto_region 3 with fail
  rw [← hV7]
  clear hV7
  go_wp2_with fail
  refine z3.out.mono ?_
  rintro _ w8 ⟨m0, rfl, hm0, im0, om0, b8⟩
  clear d0 d1 e0 e1 z3
  obtain ⟨V8, hV8, hb8, hs8, ho8⟩ := mgbox w8 m0
  have z4 := Lib.hid (work_l1 m0 V8 hm0 (im0.keep hb8) om0)
  have H8 := Lib.hid (And.intro (belows HB.out.1 (belows b8 hb8)) ho8)
  have b8' := Lib.hid b8.size
  obtain ⟨c0, c1, c2, c3, c4, c5⟩ := own6 ho8
  unfold Mg.val at z4 ⊢
  clear hm0 im0 om0 b8 hb8 ho8
  go_upto_region 4 with fail
  rw [← hV8]
  clear hV8
  go_wp2_with fail
  refine z4.out.mono ?_
  rintro _ w9 ⟨m1, rfl, hm1, im1, om1, lm1, b9⟩
  clear c0 c1 c2 c3 c4 c5 z4
  have ho9 := H8.out.2.past b9 H8.out.2.inside
  obtain ⟨f0, f1, f2, f3, f4, f5⟩ := own_frozen6 ho9
  obtain ⟨c0, c1, c2, c3, c4, c5⟩ := own6 ho9
  obtain ⟨X, hX', hXo, hXb, hXs, hXh⟩ := own_six ho9 (.slice m1.aA m1.a.length m1.ac) (.slice m1.bA m1.b.length m1.bc) (.int .i64 m1.i) (.int .i64 m1.j) (.slice m1.sA m1.f.length m1.sc) (.slice m1.oA m1.o.length m1.oc)
  have hin8 := H8.out.2.inside
  have hmX : MgIn X X.heap.size m1 := mg_other im1 (lm1.mono hin8) hXs hXh
  have hbX : Below w.heap.size w X := hXb w.heap.size w (H8.out.1.trans (b9.mono H8.out.1.size)) (by have h1 := HB.out.1.size; have h2 := b8'.out; omega)
  have z5 := Lib.hid (end_l1 m1 X hm1 hmX om1)
  have HX := Lib.hid (And.intro hbX (And.intro hXo (And.intro hmX (And.intro hm1 om1))))
  have HR := Lib.hid hX'
  unfold Mg.val at z5
  clear hX' hXo hXb hXs hXh hin8 hmX hbX hm1 im1 om1 lm1 b9 ho9
  go_upto_region 5 with fail
  rw [← HR.out]
  clear c0 c1 c2 c3 c4 c5 f0 f1 f2 f3 f4 f5 HR
  obtain ⟨c0, c1, c2, c3, c4, c5⟩ := own6 HX.out.2.1
  go_wp2_with fail
  refine z5.out.mono ?_
  rintro _ w10 ⟨b0, rfl, b10⟩
  obtain ⟨V10, hV10, hb10, hs10, ho10⟩ := btbox w10 b0
  have hb1 : Below X.heap.size X V10 := belows b10 hb10
  have z6 := Lib.hid (work_l2 m1 V10 HX.out.2.2.2.1 (HX.out.2.2.1.keep hb1) HX.out.2.2.2.2)
  have H10 := Lib.hid (And.intro (belows HX.out.1 hb1) (HX.out.2.1.past hb1 HX.out.2.1.inside))
  unfold Mg.val at z6
  unfold Bt.val
  clear c0 c1 c2 c3 c4 c5 z5 b10 hb10 ho10 hb1
  go_upto_region 6 with fail
  rw [← hV10]
  clear hV10
  obtain ⟨c0, c1, c2, c3, c4, c5⟩ := own6 H10.out.2
  go_wp2_with fail
  refine z6.out.mono ?_
  rintro _ w11 ⟨m2, rfl, hm2, im2, om2, lm2, b11⟩
  clear c0 c1 c2 c3 c4 c5 z6
  have ho11 := H10.out.2.past b11 H10.out.2.inside
  obtain ⟨f0, f1, f2, f3, f4, f5⟩ := own_frozen6 ho11
  obtain ⟨c0, c1, c2, c3, c4, c5⟩ := own6 ho11
  obtain ⟨Y, hY', hYo, hYb, hYs, hYh⟩ := own_six ho11 (.slice m2.aA m2.a.length m2.ac) (.slice m2.bA m2.b.length m2.bc) (.int .i64 m2.i) (.int .i64 m2.j) (.slice m2.sA m2.f.length m2.sc) (.slice m2.oA m2.o.length m2.oc)
  have hin10 := H10.out.2.inside
  have hmY : MgIn Y Y.heap.size m2 := mg_other im2 (lm2.mono hin10) hYs hYh
  have hbY : Below w.heap.size w Y := hYb w.heap.size w (H10.out.1.trans (b11.mono H10.out.1.size)) (by have h1 := HB.out.1.size; have h2 := b8'.out; omega)
  have z7 := Lib.hid (end_l2 m2 Y hm2 hmY om2)
  have HY := Lib.hid (And.intro hbY hYo)
  have HR := Lib.hid hY'
  unfold Mg.val at z7
  clear hY' hYo hYb hYs hYh hin10 hmY hbY hm2 im2 om2 lm2 b11 ho11
  go_upto_region 7 with fail
  rw [← HR.out]
  clear c0 c1 c2 c3 c4 c5 f0 f1 f2 f3 f4 f5 HR
  obtain ⟨c0, c1, c2, c3, c4, c5⟩ := own6 HY.out.2
  go_wp2_with fail
  refine z7.out.mono ?_
  rintro _ w12 ⟨e, rfl, pe, ie, b12⟩
  have le : e.l.length = 1 := by have := congrArg List.length pe; simpa using this
  obtain ⟨u, hu⟩ := List.length_eq_one_iff.1 le
  have hud : u.d = 5 := by
    rw [hu] at pe
    have : u.p = (bk 2, (5 : Int)) := by simpa using pe
    exact congrArg Prod.snd this
  obtain ⟨V12, hV12, hb12, hs12, ho12⟩ := btbox w12 e
  have heV := (ie.keep hb12).ups
  rw [hu] at heV
  obtain ⟨b, o, hA, hBb, hxs⟩ := lies_up heV.head (by simp)
  have e5 := (hxs 0 u rfl).six.2.2.2.2.2
  rw [hud, Nat.zero_mul, Nat.add_zero] at e5
  obtain ⟨d0, d1⟩ := own2 ho12
  rw [le, hA] at d1
  have H12 := Lib.hid (belows HY.out.1 (belows b12 hb12))
  unfold Bt.val
  rw [le, hA]
  rw [le, hA] at hV12
  have zl := Lib.hid (later_l V12)
  clear c0 c1 c2 c3 c4 c5 z7 pe ie b12 le hu hud hb12 hs12 ho12 heV hA hxs
  go_upto_region 8 with fail
  rw [← hV12]
  clear hV12
  go_wp2_with fail
  refine zl.out.mono ?_
  rintro _ w13 ⟨rfl, b13⟩
  have H13 := Lib.hid (H12.out.trans (b13.mono H12.out.size))
  clear b13 d0 d1 e5
  go_wp2_with fail
  go_ret
  exact ⟨rfl, H13.out⟩
end Go.Proofs.YtbccdmpnojdldaaGreat
namespace Go.Proofs.YtbccdmpnojdldaaGreat
open Go Go.RowKit

theorem check_yes (b : Bt) (w : World) (hb : BtIn w w.heap.size b) (hok : BtOk b) (h : BatchOk b.f b.l) :
    Calls Tryz.prog 13 #[b.val] w fun x w' => x = .returned (.int .i64 0) ∧ Below w.heap.size w w' :=
  (bcheck_any b w hb hok).mono fun x w' h' => codes_is (.inl ⟨h, rfl⟩) h'
theorem beyond_is (A : Option Addr) (c : Nat) (l : List Tm) (t : Tm) (w : World) (hl : Times w w.heap.size A l) (hn : l.length ≤ maxLen) {b : Bool} (h : beyond l t = b) :
    Calls Tryz.prog 49 #[.slice A l.length c, .agg #[.int .u64 (t.e : Int), .int .u64 (t.a : Int), .int .u64 (t.b : Int)]] w fun e w' => e = .returned (.bool b) ∧ Below w.heap.size w w' := by
  have := beyond_any A c l t w hl hn
  rw [h] at this
  exact this
end Go.Proofs.YtbccdmpnojdldaaGreat
namespace Go.Proofs.YtbccdmpnojdldaaGreat
open Go Go.RowKit

def cellI (n : Int) : Value := .int .i64 n
theorem cellI_flat (l : List Int) : l.flatMap (fun n => [cellI n]) = l.map cellI := by
  induction l with
  | nil => rfl
  | cons x l ih => simp [ih]
theorem ints_of_own {w : World} {base : Nat} {e : TypeId} {v : Value} {l : List Int} {n : Nat} (hn : n = l.length) (h : w.ownsRow base e 1 v n (l.map cellI)) :
    ∃ A c, v = .slice A l.length c ∧ l.length ≤ c ∧ c ≤ maxLen ∧ Ints w w.heap.size A l := by
  rw [← cellI_flat] at h
  obtain ⟨A, c, h1, h2, h3, h4⟩ := lies_of_own (size := 1) (cells := fun n => [cellI n]) (by decide) (fun _ => rfl) hn h
  refine ⟨A, c, h1, h2, h3, fun hp => ?_⟩
  obtain ⟨b, o, e, hb, hc⟩ := h4 hp
  refine ⟨b, o, e, hb, fun i n hi => ?_⟩
  have := hc i n hi 0 _ rfl
  rwa [Nat.mul_one, Nat.add_zero] at this
theorem own_snoc {w : World} {base n : Nat} {e : TypeId} {v : Value} {F : List Value} {l : List Int} {k : Int} (h : w.ownsRow base e 1 v (n + 1) (F ++ [.int .i64 k])) (hF : l.map cellI = F) (hn : l.length = n) : w.ownsRow base e 1 v (l ++ [k]).length ((l ++ [k]).map cellI) := by
  subst hF hn
  simpa [cellI] using h
theorem own_app {w : World} {base n : Nat} {e : TypeId} {v : Value} {F : List Value} {l m : List Int} (h : w.ownsRow base e 1 v (n + m.length) (F ++ m.flatMap fun n => [cellI n])) (hF : l.map cellI = F) (hn : l.length = n) : w.ownsRow base e 1 v (l ++ m).length ((l ++ m).map cellI) := by
  subst hF hn
  rw [cellI_flat] at h
  simpa using h
/-- two rows lie in two blocks -/
def Sep (v y : Value) : Prop := ∀ b, v.ownBlock = some b → y.ownBlock ≠ some b
theorem Sep.symm {v y : Value} (h : Sep v y) : Sep y v := fun b hb hv => h b hv hb
theorem Sep.nil_ (y : Value) : Sep (.slice none 0 0) y := fun b hb => by simp [Value.ownBlock] at hb
theorem Sep.pushed {v v' y : Value} {N : Nat} (h : Sep v y) (hy : ∀ b, y.ownBlock = some b → b < N) (hv : v'.ownBlock = v.ownBlock ∨ v'.ownBlock = some (N + 1)) : Sep v' y := fun b hb hyb => by
  rcases hv with hv | hv
  · exact h b (hv ▸ hb) hyb
  · have := hy b hyb
    rw [hv] at hb
    simp only [Option.some.injEq] at hb
    omega
theorem Sep.kept {v y : Value} (h : Sep v y) : y.ownBlock = none ∨ y.ownBlock ≠ v.ownBlock := by
  cases hy : y.ownBlock with
  | none => exact .inl rfl
  | some b => exact .inr fun e => h b e.symm hy
end Go.Proofs.YtbccdmpnojdldaaGreat
namespace Go.Proofs.YtbccdmpnojdldaaGreat
open Go Go.RowKit

/-- a right merger of two batches' updates, on its way -/
structure OfM (f : List Tm) (a b : List Up) (m : Mg) (i j : Nat) : Prop where
  way : OnWay m i j
  f_ : m.f = f
  a_ : m.a.map Up.p = a.map Up.p
  b_ : m.b.map Up.p = b.map Up.p
theorem OfM.front {f : List Tm} {a b : List Up} {m : Mg} {i j : Nat} (h : OfM f a b m i j) : FrontOk f := h.f_ ▸ h.way.front
theorem OfM.la {f : List Tm} {a b : List Up} {m : Mg} {i j : Nat} (h : OfM f a b m i j) : m.a.length = a.length := len_p h.a_
theorem OfM.lb {f : List Tm} {a b : List Up} {m : Mg} {i j : Nat} (h : OfM f a b m i j) : m.b.length = b.length := len_p h.b_
theorem OfM.lo {f : List Tm} {a b : List Up} {m : Mg} {i j : Nat} (h : OfM f a b m i j) : m.o.length ≤ a.length + b.length := by
  have h1 := congrArg List.length h.way.fine.2.2.inv.out_
  have h2 := nz_len (cmp := Uk.cmp) ((advL m.f ((startM m.a i m.b j (m.o.map Up.p)).ta ++ (startM m.a i m.b j (m.o.map Up.p)).tb)).map Up.p)
  have e1 : (startM m.a i m.b j (m.o.map Up.p)).ta = m.a.take i := rfl
  have e2 : (startM m.a i m.b j (m.o.map Up.p)).tb = m.b.take j := rfl
  have e3 : (startM m.a i m.b j (m.o.map Up.p)).out = m.o.map Up.p := rfl
  rw [e1, e2] at h1 h2
  rw [e3] at h1
  rw [← h1] at h2
  have h3 : ((advL m.f (m.a.take i ++ m.b.take j)).map Up.p).length = (m.a.take i).length + (m.b.take j).length := by
    unfold advL
    simp only [List.length_map, List.length_append]
  rw [h3, List.length_map, List.length_take, List.length_take] at h2
  have := h.la
  have := h.lb
  omega
theorem OfM.ij {f : List Tm} {a b : List Up} {m : Mg} {i j : Nat} (h : OfM f a b m i j) : i ≤ a.length ∧ j ≤ b.length := ⟨h.la ▸ h.way.fine.1, h.lb ▸ h.way.fine.2.1⟩
theorem OfM.cons {f : List Tm} {a b : List Up} {m : Mg} {i j : Nat} (h : OfM f a b m i j) : consL [advL m.f (m.a ++ m.b)] = consL [advL f (a ++ b)] ∧ consE [advL m.f (m.a ++ m.b)] = consE [advL f (a ++ b)] := by
  rw [h.f_]
  exact consL_p (advL_p f (app_p h.a_ h.b_))
theorem OfM.bld {f : List Tm} {a b : List Up} {m : Mg} {i j : Nat} (h : OfM f a b m i j) : bldE f (a ++ b) = consE [advL m.f (m.a ++ m.b)] := by
  rw [h.cons.2]
  exact if_pos h.front
theorem OfM.done {f : List Tm} {a b : List Up} {m : Mg} {i j : Nat} (h : OfM f a b m i j) (hl : leftN m i j = 0) : bldE f (a ++ b) = 0 ∧ m.o.map Up.p = consL [advL f (a ++ b)] := by
  have hs : (startM m.a i m.b j (m.o.map Up.p)).left = 0 := by rw [start_left]; exact hl
  obtain ⟨h1, h2⟩ := fine_end h.way.fine.2.2 h.way.front.right (even_two h.way.a h.way.b) hs
  exact ⟨h.bld.trans h1, (h2.symm).trans h.cons.1⟩
def StartedS (f : List Tm) (a b : Bt) (w : World) (x : Ending) (w' : World) : Prop :=
  ∃ (m : Mg) (E : Int), x = .returned (.tuple #[m.val, .int .i64 E]) ∧ (E = 0 → OfM f a.l b.l m 0 0) ∧ (E ≠ 0 → m = Mg.nil) ∧ MgIn w' w'.heap.size m ∧ MgOk m ∧ MgLo w.heap.size m ∧ Below w.heap.size w w'
theorem start_st (A : Option Addr) (c : Nat) (f : List Tm) (a b : Bt) (w : World) (hf : Times w w.heap.size A f) (hfo : TsOk f c) (ha : BtIn w w.heap.size a) (oa : BtOk a) (na : a.l.length ≤ 1048576) (hb : BtIn w w.heap.size b) (ob : BtOk b) (nb : b.l.length ≤ 1048576) :
    Calls Tryz.prog 27 #[.slice A f.length c, a.val, b.val] w (StartedS f a b w) := by
  refine (start_any A c f a b w hf hfo ha oa (by omega) hb ob (by omega)).mono fun x w' ⟨m, E, h1, h2, h3, h4, h5, h6⟩ => ⟨m, E, h1, ?_, ?_, h3, h4, h5, h6⟩
  · intro hE
    rcases h2 with ⟨_, hs, k1, k2, k3, k4, k5, k6⟩ | ⟨hn, _⟩
    · exact ⟨start_way (by rw [k5]; exact hs.2.2.1) (even_p k1.symm hs.1.2.1) (even_p k2.symm hs.2.1.2.1) k3 k4 k6, k5, k1, k2⟩
    · exact absurd hE hn
  · intro hE
    rcases h2 with ⟨h0, _⟩ | ⟨_, hm, _⟩
    · exact absurd h0 hE
    · exact hm
def WorkedS (f : List Tm) (a b : List Up) (m : Mg) (i j : Nat) (fuel : Int) (w : World) (x : Ending) (w' : World) : Prop :=
  ∃ (m' : Mg) (i' j' k : Nat) (E : Int), x = .returned (.tuple #[m'.val, .int .i64 (k : Int), .int .i64 E]) ∧ OfM f a b m' i' j' ∧ k + leftN m' i' j' = leftN m i j ∧ (E = 0 → (leftN m' i' j' = 0 ∨ fuel ≤ k) ∧ ((0 < fuel ∧ 0 < leftN m i j) ↔ 0 < k)) ∧ (E ≠ 0 → bldE f (a ++ b) = E) ∧ MgIn w' w'.heap.size m' ∧ MgOk m' ∧ MgLo w.heap.size m' ∧ Below w.heap.size w w'
theorem work_st {f : List Tm} {a b : List Up} (m : Mg) {i j : Nat} (fuel : Int) (w : World) (h : OfM f a b m i j) (hm : MgIn w w.heap.size m) (ok : MgOk m) (hn : a.length + b.length ≤ 1048576) :
    Calls Tryz.prog 23 #[m.val, .int .i64 fuel] w (WorkedS f a b m i j fuel w) := by
  have := h.la
  have := h.lb
  have := h.lo
  refine (work_any m fuel w hm ok (by omega) (by omega) (by omega)).mono fun x w' ⟨m', c, E, h1, h2, h3, h4, h5, h6⟩ => ?_
  rcases h2 with ⟨hn, _⟩ | ⟨_, hw⟩
  · exact absurd h.way.ok hn
  · obtain ⟨i', j', k, q1, q2, q3, q4, q5⟩ := workok_fine hw h.way
    refine ⟨m', i', j', k, E, by rw [h1, q1], ⟨q2, hw.f.trans h.f_, hw.a.trans h.a_, hw.b.trans h.b_⟩, q3, ?_, ?_, h3, h4, h5, h6⟩
    · intro hE
      rcases q4 with ⟨_, r1, r2⟩ | ⟨r, _⟩
      · refine ⟨r1, fun hh => r2 hh.1 hh.2, fun hk => ?_⟩
        refine ⟨?_, ?_⟩
        · apply Decidable.byContradiction
          intro hq
          have := q5 (.inr (by omega))
          omega
        · omega
      · omega
    · intro hE
      rcases q4 with ⟨r, _⟩ | ⟨r, r'⟩
      · exact absurd r hE
      · rw [h.bld, r', r]
theorem end_st {f : List Tm} {a b : List Up} (m : Mg) {i j : Nat} (w : World) (h : OfM f a b m i j) (hm : MgIn w w.heap.size m) (ok : MgOk m) (hn : a.length + b.length ≤ 1048576) (hl : leftN m i j = 0) :
    Calls Tryz.prog 25 #[m.val] w fun x w' => ∃ e : Bt, x = .returned (.tuple #[e.val, .int .i64 0]) ∧ e.f = f ∧ e.l.map Up.p = consL [advL f (a ++ b)] ∧ BtIn w' w'.heap.size e ∧ BtOk e ∧ Below w.heap.size w w' := by
  have h1 := h.la
  have h2 := h.lb
  have h3 := h.lo
  have h4 := h.ij
  refine (end_any m w hm ok (by omega)).mono fun x w' ⟨e, E, k1, k2, k3, k4, _, k6⟩ => ?_
  rcases k2 with ⟨rfl, _, r1, r2⟩ | ⟨_, hn, _⟩
  · exact ⟨e, k1, r1.trans h.f_, r2.trans (h.done hl).2, k3, k4, k6⟩
  · unfold leftN at hl
    have e1 := h.way.i_
    have e2 := h.way.j_
    exact absurd ⟨h.way.ok, by omega, by omega⟩ hn
/-- Build of two lists -/
theorem build_two (A : Option Addr) (c : Nat) (f : List Tm) (A1 A' A2 : Option Addr) (c' c2 : Nat) (l m : List Up) (w : World) (hf : Times w w.heap.size A f) (hfo : TsOk f c) (hl : ULs w w.heap.size A1 [⟨A', c', l⟩, ⟨A2, c2, m⟩]) (ol : UsOk l) (om : UsOk m) (hn : l.length + m.length ≤ 1099511627776) :
    Calls Tryz.prog 9 #[.slice A f.length c, .slice A1 2 2] w (Built f (l ++ m) w) := by
  have he : flatR [(⟨A', c', l⟩ : Rw Up), ⟨A2, c2, m⟩] = l ++ m := by simp [flatR]
  have := build_any A c f A1 2 [⟨A', c', l⟩, ⟨A2, c2, m⟩] w hf hfo hl (fun s hs u hu => by
    rcases List.mem_cons.1 hs with rfl | hs
    · exact ol.ok u hu
    · obtain rfl : s = ⟨A2, c2, m⟩ := by simpa using hs
      exact om.ok u hu) (by rw [he, List.length_append]; exact hn) (by simp)
  rw [he] at this
  exact this
theorem checkM_yes {f : List Tm} {a b : List Up} (m : Mg) {i j : Nat} (w : World) (h : OfM f a b m i j) (hm : MgIn w w.heap.size m) (ok : MgOk m) :
    Calls Tryz.prog 30 #[m.val] w fun x w' => x = .returned (.int .i64 0) ∧ Below w.heap.size w w' :=
  (checkM_any m w hm ok).mono fun x w' h' => codes_is (.inl ⟨h.way.ok, rfl⟩) h'
theorem lies_ints {w : World} {B : Nat} {A : Option Addr} {l : List Int} (h : Ints w B A l) : Lies 1 (fun n => [cellI n]) w B A l := fun hp => by
  obtain ⟨b, o, e, hb, hc⟩ := h hp
  refine ⟨b, o, e, hb, fun i n hi j u hj => ?_⟩
  match j, hj with
  | 0, hj => rw [← hj, Nat.mul_one, Nat.add_zero]; exact hc i n hi
theorem infoI : (Tryz.prog.info? 3).map (fun i => (i.zero, i.size, i.bytes)) = some (some (.int .i64 0), 1, 8) := by kernel_rfl
theorem cellI_len (n : Int) : ([cellI n] : List Value).length = 1 := rfl
theorem cellI_one (n : Int) : ∀ v ∈ ([cellI n] : List Value), v.oneCell' = true := fun v hv => by
  obtain rfl : v = cellI n := by simpa using hv
  rfl
theorem empty_ints (w : World) : (w.alloc (.cells #[] 3)).ownsRow w.heap.size 3 1 (.slice (some ⟨w.heap.size, 0, none⟩) 0 0) 0 [] :=
  World.ownsRow_made w #[] 0 (Nat.le_refl _) (Nat.zero_le _) rfl
/-- one number in a block of its own -/
theorem one_int (w : World) (n : Int) : ∃ V, V = w.alloc (.cells #[.int .i64 n] 3) ∧ Below w.heap.size w V ∧ Lies 1 (fun n => [cellI n]) V V.heap.size (some ⟨w.heap.size, 0, none⟩) [n] := by
  obtain ⟨W, e1, s1, b1, o1⟩ := boxd w [.int .i64 n] 3
  exact ⟨W, e1, b1, lies_owned (t := 3) cellI_len o1⟩
end Go.Proofs.YtbccdmpnojdldaaGreat
namespace Go.Proofs.YtbccdmpnojdldaaGreat
open Go Go.RowKit

theorem own_ints_row {w : World} {base n : Nat} {v : Value} {l : List Int} (hp : 0 < l.length) (hn : n = l.length) (h : w.ownsRow base 3 1 v n (l.flatMap fun n => [cellI n])) :
    ∃ g c, v = .slice (some ⟨g, 0, none⟩) l.length c ∧ base ≤ g ∧ g < w.heap.size ∧ ∀ (k : Nat) (x : Int), l[k]? = some x → w.cell? ⟨g, k, none⟩ = some (.int .i64 x) := by
  subst hn
  obtain ⟨A, c, e, _, _, hl⟩ := lies_of_own (size := 1) (cells := fun n => [cellI n]) (by decide) cellI_len rfl h
  rcases h.2 with ⟨rfl, h0⟩ | ⟨g, cap, cur, rfl, hb, hg, h1, h2, h3, h4⟩
  · omega
  · refine ⟨g, cap, rfl, hb, (Array.getElem?_eq_some_iff.1 hg).1, fun k x hk => ?_⟩
    obtain ⟨b', o', e', _, hc⟩ := hl hp
    subst e'
    injection e with e1
    injection e1 with e1
    injection e1 with e1 e2
    subst e1; subst e2
    have := hc k x hk 0 _ rfl
    rwa [Nat.mul_one, Nat.add_zero, Nat.zero_add] at this
/-- what stands at the loop's head: the merger's block, the wanted batch's, the list of fuels -/
structure SSt (w wr : World) (P Q g : Nat) (gl : List Int) (mm : Mg) (q : Bt) : Prop where
  below : Below w.heap.size w wr
  in_ : MgIn wr wr.heap.size mm
  ok : MgOk mm
  own : Own wr P 43 mm.cells
  qin : BtIn wr wr.heap.size q
  qown : Own wr Q 26 q.cells
  gin : g < wr.heap.size
  gl_ : ∀ (k : Nat) (x : Int), gl[k]? = some x → wr.cell? ⟨g, k, none⟩ = some (.int .i64 x)
set_option maxRecDepth 100000 in
set_option maxHeartbeats 25600000 in
theorem bsteps_walk (A : Option Addr) (c : Nat) (f : List Tm) (a b : Bt) (A' : Option Addr) (c' : Nat) (fu : List Int) (w : World) (hf : Times w w.heap.size A f) (hfc : f.length ≤ c) (hfn : f.length ≤ 1048576) (hcm : c ≤ maxLen) (ia : BtIn w w.heap.size a) (oa : BtOk a) (ib : BtIn w w.heap.size b) (ob : BtOk b) (hi : Ints w w.heap.size A' fu) (_ : fu.length ≤ c') (_ : fu.length ≤ 1048576) (_ : c' ≤ maxLen) (_ : Fit64 fu) (hn : f.length + a.l.length + b.l.length + fu.length ≤ 1048576) :
    Calls Tryz.prog 6 #[.slice A f.length c, a.val, b.val, .slice A' fu.length c'] w fun e w' => e = .returned (.bool true) ∧ Below w.heap.size w w' := by
  obtain ⟨i0, hi0, hz0, hz1, hz2⟩ := info_parts infoI
  have HI := Lib.hid (And.intro Tryz.underlying53 (And.intro hi0 (And.intro hz0 (And.intro hz1 hz2))))
  have y0 := fun W => Lib.hid (blives_true W)
  have hfo : TsOk f c := ⟨by omega, hfc, hcm⟩
  obtain ⟨V, hV, hvb, hv1, hv2⟩ := two_bt w a b
  have HL := Lib.hid (And.intro hf (And.intro hfo (And.intro ia (And.intro oa (And.intro ib (And.intro ob hi))))))
  have HN := Lib.hid hn
  have HV := Lib.hid (And.intro hvb (And.intro hv1 hv2))
  rw [show a.val = .agg #[.slice a.sA a.f.length a.sc, .slice a.uA a.l.length a.uc] from rfl, show b.val = .agg #[.slice b.sA b.f.length b.sc, .slice b.uA b.l.length b.uc] from rfl]
  clear hf hfo hfc hfn hcm ia oa ib ob hi hn hvb hv1 hv2 hi0 hz0 hz1 hz2
  go_enter Tryz.func6, Tryz.ntmps6
  go_upto_region 1 with fail
  rw [← hV]
  clear hV
  go_wp2_with fail
  refine (y0 _).out.mono ?_
  rintro e w1 ⟨rfl, b1⟩
  have hb1 := belows HV.out.1 b1
  have ha1 := HV.out.2.1.past b1 HV.out.2.1.inside
  have hbb1 := HV.out.2.2.past b1 HV.out.2.2.inside
  have hf1 := (HL.out.1.past hb1 (Nat.le_refl _)).wide hb1.size
  have z1 := Lib.hid (start_st A c f a b w1 hf1 HL.out.2.1 (HL.out.2.2.1.keep hb1) HL.out.2.2.2.1 (by have := HN.out; omega) (HL.out.2.2.2.2.1.keep hb1) HL.out.2.2.2.2.2.1 (by have := HN.out; omega))
  unfold StartedS at z1
  have H1 := Lib.hid (And.intro hb1 (And.intro hf1 (And.intro ha1 hbb1)))
  obtain ⟨d0, d1⟩ := own2 ha1
  obtain ⟨e0, e1⟩ := own2 hbb1
  rw [show a.val = .agg #[.slice a.sA a.f.length a.sc, .slice a.uA a.l.length a.uc] from rfl, show b.val = .agg #[.slice b.sA b.f.length b.sc, .slice b.uA b.l.length b.uc] from rfl] at z1
  clear b1 hb1 ha1 hbb1 hf1
  go_wp2_with fail
  refine z1.out.mono ?_
  rintro _ w3 ⟨m, E, rfl, h0, hne, im, om, lm, b3⟩
  by_cases hE : E = 0
  case neg =>
    have t1 : (E != 0) = true := bne_iff_ne.2 hE
    obtain rfl := hne hE
    obtain ⟨V3, hV3', hb3, hs3, ho3⟩ := mgbox w3 Mg.nil
    have hV3 : V3 = w3.alloc (.cells #[.slice none 0 0, .slice none 0 0, .int .i64 0, .int .i64 0, .slice none 0 0, .slice none 0 0] 43) := hV3'
    have ho3 : Own V3 w3.heap.size 43 [.slice none 0 0, .slice none 0 0, .int .i64 0, .int .i64 0, .slice none 0 0, .slice none 0 0] := ho3
    have H3 := Lib.hid (belows H1.out.1 (belows b3 hb3))
    clear d0 d1 e0 e1
    obtain ⟨c0, c1, c2, c3, c4, c5⟩ := own6 ho3
    rw [show Mg.nil.val = .agg #[.slice none 0 0, .slice none 0 0, .int .i64 0, .int .i64 0, .slice none 0 0, .slice none 0 0] from rfl]
    clear h0 hne im om lm b3 hb3 hs3 ho3 hV3' z1 hE
    go_upto_region 4 with fail
    rw [← hV3]
    clear hV3
    go_wp2_with fail
    first | go_quiet (fail) | skip
    go_wp2_with fail
    go_ret
    exact ⟨rfl, by first | exact H3.out | exact below_draws H3.out _⟩
  subst hE
  have hM := h0 rfl
  obtain ⟨V3, hV3, hb3, hs3, ho3⟩ := mgbox w3 m
  have hb13 := belows b3 hb3
  have ha3 := H1.out.2.2.1.past hb13 H1.out.2.2.1.inside
  have hbb3 := H1.out.2.2.2.past hb13 H1.out.2.2.2.inside
  have hbw := belows H1.out.1 hb13
  have H3 := Lib.hid (And.intro hbw (And.intro ((H1.out.2.1.past hb13 (Nat.le_refl _)).wide hb13.size) (And.intro (im.keep hb3) (And.intro om (And.intro ho3 (And.intro lm hM))))))
  obtain ⟨V4, hV4, hb4, hu4⟩ := two_lists V3 a.uA b.uA a.uc b.uc a.l b.l (HL.out.2.2.1.keep hbw).ups (HL.out.2.2.2.2.1.keep hbw).ups
  have z2 := Lib.hid (build_two A c f (some ⟨V3.heap.size, 0, none⟩) a.uA b.uA a.uc b.uc a.l b.l V4 ((H3.out.2.1.past hb4 (Nat.le_refl _)).wide hb4.size) HL.out.2.1 hu4 HL.out.2.2.2.1.l HL.out.2.2.2.2.2.1.l (by have := HN.out; omega))
  have H4 := Lib.hid (And.intro (belows hbw hb4) (And.intro (im.keep (belows hb3 hb4)) (ho3.past hb4 ho3.inside)))
  unfold Built at z2
  obtain ⟨EB, hEB⟩ : ∃ EB, bldE f (a.l ++ b.l) = EB := ⟨_, rfl⟩
  rw [hEB] at z2
  have HEB := Lib.hid hEB
  clear d0 d1 e0 e1
  obtain ⟨d0, d1⟩ := own2 ha3
  obtain ⟨e0, e1⟩ := own2 hbb3
  have HZ := Lib.hid (show w.heap.size ≤ w3.heap.size from Nat.le_trans H1.out.1.size b3.size)
  unfold Mg.val
  clear h0 hne im om lm b3 hb3 hs3 ho3 hb13 ha3 hbb3 hbw hM hb4 hu4 z1 hEB
  go_upto_region 6 with fail
  rw [← hV3]
  clear hV3
  go_wp2_with fail
  rw [← hV4]
  clear hV4
  refine z2.out.mono ?_
  rintro _ w5 ⟨q, rfl, hq1, _, iq, oq, lq, b5⟩
  obtain ⟨V5, hV5, hb5, hs5, ho5⟩ := btbox w5 q
  have hb45 := belows b5 hb5
  have hP : w3.heap.size < V4.heap.size := H4.out.2.2.inside
  have H5 := Lib.hid (And.intro (belows H4.out.1 hb45) (And.intro (H4.out.2.1.keep hb45) (And.intro (H4.out.2.2.past hb45 hP) (And.intro (iq.keep hb5) (And.intro oq (And.intro ho5 (And.intro hq1 (lq.mono (show w3.heap.size + 1 ≤ V4.heap.size from hP)))))))))
  have HP := Lib.hid (And.intro HZ.out (Nat.lt_of_lt_of_le hP b5.size))
  unfold Bt.val
  clear hq1 iq oq lq b5 hb5 hs5 ho5 hb45 hP d0 d1 e0 e1 z2
  go_upto_region 7 with fail
  rw [← hV5]
  clear hV5
  obtain ⟨N5, hN5⟩ : ∃ N5, V5.heap.size = N5 := ⟨_, rfl⟩
  have hr0 := Lib.hid (empty_ints V5)
  have hL0 := Lib.hid ((lies_ints HL.out.2.2.2.2.2.2).past (H5.out.1.alloc H5.out.1.size (.cells #[] 3)) (Nat.le_refl _))
  have hnn := HN.out
  clear hN5
  go_wp2_with (at_builtin; refine wpList_append_lies _ rfl (.tmp 50) (.tmp 51) 53 3 rfl i0 _ 8 HI.out.1 HI.out.2.1 HI.out.2.2.1 HI.out.2.2.2.1 HI.out.2.2.2.2 rfl (by decide) cellI_len cellI_one V5.heap.size _ _ _ rfl hr0.out c' rfl hL0.out ?m1 ?m2 ?m3 ?m4)
  case m1 => unfold maxLen; omega
  case m2 => omega
  case m3 => simp
  intro v6 w6 ho6 hb6
  have hs6 : V5.heap.size ≤ w6.heap.size := by have := hb6.size; simp at this; omega
  have hb6' : Below V5.heap.size V5 w6 := ((Below.refl _ _).alloc (Nat.le_refl _) _).trans hb6
  have hr6 := Lib.hid (ho6.alloc (.cells #[.int .i64 4611686018427387904] 3))
  obtain ⟨V6, hV6, hbv6, hl6⟩ := one_int w6 4611686018427387904
  subst hV6
  have hl6 := Lib.hid hl6
  have H6 := Lib.hid (hb6'.trans (hbv6.mono hs6))
  clear ho6 hb6 hb6' hbv6 hr0 hL0
  go_wp2_with (at_builtin; refine wpList_append_lies (l := [4611686018427387904]) _ rfl (.tmp 52) (.tmp 53) 53 3 rfl i0 _ 8 HI.out.1 HI.out.2.1 HI.out.2.2.1 HI.out.2.2.2.1 HI.out.2.2.2.2 rfl (by decide) cellI_len cellI_one V5.heap.size _ _ _ rfl hr6.out 1 rfl hl6.out ?k1 ?k2 ?k3 ?k4)
  case k1 => unfold maxLen; simp only [List.length_cons, List.length_nil]; omega
  case k2 => simp only [List.length_cons, List.length_nil]; omega
  case k3 => rw [World.size_alloc]; omega
  intro v7 w7 ho7 hb7
  obtain ⟨gl, hgl⟩ : ∃ gl, fu ++ [(4611686018427387904 : Int)] = gl := ⟨_, rfl⟩
  have hng : gl.length = fu.length + 1 := by rw [← hgl]; simp
  obtain ⟨g, c7, rfl, hg1, hg2, hg3⟩ := own_ints_row (l := gl) (by omega) (by rw [hng]) (by rw [← hgl, List.flatMap_append]; simpa using ho7)
  have hb57 : Below V5.heap.size V5 w7 := H6.out.trans hb7
  have HG := Lib.hid (And.intro (show ∀ x, gl[gl.length - 1]? = some x → x = 4611686018427387904 from fun x hx => by rw [hng, ← hgl] at hx; simpa using hx.symm) (And.intro (Nat.lt_of_lt_of_le (Nat.lt_trans HP.out.2 H5.out.2.2.2.2.2.1.inside) hg1) (show gl.length ≤ 1048577 ∧ 0 < gl.length by omega)))
  have H7 := Lib.hid (And.intro (belows H5.out.1 hb57) (And.intro (H5.out.2.1.keep hb57) (And.intro (H5.out.2.2.1.past hb57 H5.out.2.2.1.inside) (And.intro (H5.out.2.2.2.1.keep hb57) (And.intro (H5.out.2.2.2.2.2.1.past hb57 H5.out.2.2.2.2.2.1.inside) (And.intro hg2 hg3))))))
  clear ho7 hb7 hb57 hr6 hl6 H6 hs6 hg1 hg2 hg3 hgl hng hnn
  go_upto_region 8 with fail
  go_loopw [56] (fun v wr => ∃ (k i j : Nat) (mm : Mg), v = .int .i64 (k : Int) ∧ k ≤ gl.length ∧ k ≤ 40 ∧ OfM f a.l b.l mm i j ∧ (k = gl.length → leftN mm i j = 0) ∧ SSt w wr w3.heap.size w5.heap.size g gl mm q)
    (fun v _ => gl.length - (intOf v).toNat)
  case atStart => exact ⟨0, 0, 0, m, rfl, by omega, by omega, H3.out.2.2.2.2.2.2, fun h => absurd h (by have := HG.out.2.2.2; omega), H7.out.1, H7.out.2.1, H3.out.2.2.2.1, H7.out.2.2.1, H7.out.2.2.2.1, H7.out.2.2.2.2.1, H7.out.2.2.2.2.2.1, H7.out.2.2.2.2.2.2⟩
  case round =>
    obtain ⟨k, i, j, mm, rfl, hk, hk40, hM, hend, hS⟩ := hrel
    by_cases hlt : k < gl.length
    · have hx : gl[k]? = some gl[k] := List.getElem?_eq_getElem hlt
      obtain ⟨x, hxe⟩ : ∃ x, gl[k] = x := ⟨_, rfl⟩
      rw [hxe] at hx
      have hcx := hS.gl_ k x hx
      have hown := hS.own
      unfold Mg.cells at hown
      rw [hM.way.i_, hM.way.j_] at hown
      obtain ⟨c0, c1, c2, c3, c4, c5⟩ := own6 hown
      have nn := HN.out
      have n1 : mm.a.length ≤ 1048576 := by rw [hM.la]; omega
      have n2 : mm.b.length ≤ 1048576 := by rw [hM.lb]; omega
      have n3 : i ≤ mm.a.length := by rw [hM.la]; exact hM.ij.1
      have n4 : j ≤ mm.b.length := by rw [hM.lb]; exact hM.ij.2
      obtain ⟨L, hL⟩ : ∃ L, leftN mm i j = L := ⟨_, rfl⟩
      have hLi : (mm.a.length : Int) - (i : Int) + (mm.b.length : Int) - (j : Int) = (L : Int) := by unfold leftN at hL; omega
      have q1 : (k : Int) < (gl.length : Int) := by omega
      have n5 : L ≤ 2097152 := by unfold leftN at hL; omega
      have HR := Lib.hid (And.intro hM (And.intro hS (And.intro hL (And.intro hx hlt))))
      have HK := Lib.hid (And.intro hk hk40)
      clear hM hS hL hx hxe hown hend hlt hk hk40 nn
      by_cases h40 : k = 40
      · have t40 : ((k : Int) == 40) = true := by rw [beq_iff_eq]; omega
        have z1 := Lib.hid (work_st mm 4611686018427387904 wr HR.out.1 HR.out.2.1.in_ HR.out.2.1.ok (by have := HN.out; omega))
        rw [show mm.val = .agg #[.slice mm.aA mm.a.length mm.ac, .slice mm.bA mm.b.length mm.bc, .int .i64 (i : Int), .int .i64 (j : Int), .slice mm.sA mm.f.length mm.sc, .slice mm.oA mm.o.length mm.oc] by unfold Mg.val; rw [HR.out.1.way.i_, HR.out.1.way.j_]] at z1
        unfold WorkedS at z1
        rw [HR.out.2.2.1] at z1
        clear h40
        go_wp2_with fail
        refine z1.out.mono ?_
        rintro _ w9 ⟨m', i', j', K, E, rfl, hM', hK, hE0, hE1, im', om', lm', b9⟩
        obtain ⟨V9, hV9, hb9, hs9, ho9⟩ := mgbox w9 m'
        have hS := HR.out.2.1
        have hPw : w3.heap.size < wr.heap.size := hS.own.inside
        have hb99 := belows b9 hb9
        have H9 := Lib.hid (And.intro (belows hS.below hb99) (And.intro (hS.own.past hb99 hS.own.inside) (And.intro (hS.qin.keep hb99) (And.intro (hS.qown.past hb99 hS.qown.inside) (And.intro (im'.keep hb9) (And.intro om' (And.intro (lm'.mono (show w3.heap.size + 1 ≤ wr.heap.size from hPw)) (And.intro ho9 (And.intro (Nat.lt_of_lt_of_le hS.gin hb99.size) fun (kk : Nat) (xx : Int) hh => (hb99.cell (p := ⟨g, kk, none⟩) hS.gin).trans (hS.gl_ kk xx hh))))))))))
        rw [show m'.val = .agg #[.slice m'.aA m'.a.length m'.ac, .slice m'.bA m'.b.length m'.bc, .int .i64 (i' : Int), .int .i64 (j' : Int), .slice m'.sA m'.f.length m'.sc, .slice m'.oA m'.o.length m'.oc] by unfold Mg.val; rw [hM'.way.i_, hM'.way.j_]]
        rw [hM'.way.i_, hM'.way.j_] at hV9
        have ho9' : Own V9 w9.heap.size 43 [.slice m'.aA m'.a.length m'.ac, .slice m'.bA m'.b.length m'.bc, .int .i64 (i' : Int), .int .i64 (j' : Int), .slice m'.sA m'.f.length m'.sc, .slice m'.oA m'.o.length m'.oc] := by
          have := ho9
          unfold Mg.cells at this
          rwa [hM'.way.i_, hM'.way.j_] at this
        clear c0 c1 c2 c3 c4 c5
        obtain ⟨c0, c1, c2, c3, c4, c5⟩ := own6 ho9'
        by_cases hE : E = 0
        case neg =>
          have t2 : (E != 0) = true := bne_iff_ne.2 hE
          have t3 : (E == EB) = true := by rw [← hE1 hE, HEB.out]; simp
          clear hM' hK hE0 hE1 im' om' lm' b9 hb9 hs9 ho9 hS hPw hb99 hE z1 ho9'
          go_upto_region 14 with fail
          rw [← hV9]
          clear hV9
          go_wp2_with fail
          go_ret
          exact ⟨rfl, H9.out.1⟩
        subst hE
        have hS2 := hE0 rfl
        obtain ⟨r1, r2⟩ := hS2
        obtain ⟨L', hL'⟩ : ∃ L', leftN m' i' j' = L' := ⟨_, rfl⟩
        have p1 : m'.a.length ≤ 1048576 := by rw [hM'.la]; have := HN.out; omega
        have p2 : m'.b.length ≤ 1048576 := by rw [hM'.lb]; have := HN.out; omega
        have p3 : i' ≤ m'.a.length := by rw [hM'.la]; exact hM'.ij.1
        have p4 : j' ≤ m'.b.length := by rw [hM'.lb]; exact hM'.ij.2
        have hLi' : (m'.a.length : Int) - (i' : Int) + (m'.b.length : Int) - (j' : Int) = (L' : Int) := by unfold leftN at hL'; omega
        rw [hL'] at hK r1
        have hne : ((L' : Int) != (L : Int) - (K : Int)) = false := by rw [bne_eq_false_iff_eq]; omega
        obtain ⟨bL, hbL⟩ : ∃ x, decide (0 < L) = x := ⟨_, rfl⟩
        have hbL' : decide ((0 : Int) < (L : Int)) = bL := by rw [← hbL]; exact decide_eq_decide.2 (by omega)
        have hbK : decide (0 < K) = bL := by rw [← hbL]; exact decide_eq_decide.2 ⟨fun h => (r2.2 h).2, fun h => r2.1 ⟨by decide, h⟩⟩
        have hbK' : decide ((0 : Int) < (K : Int)) = bL := by rw [← hbK]; exact decide_eq_decide.2 (by omega)
        have p5 : K ≤ L := by omega
        have z2 := Lib.hid (checkM_yes m' V9 hM' H9.out.2.2.2.2.1 om')
        rw [show m'.val = .agg #[.slice m'.aA m'.a.length m'.ac, .slice m'.bA m'.b.length m'.bc, .int .i64 (i' : Int), .int .i64 (j' : Int), .slice m'.sA m'.f.length m'.sc, .slice m'.oA m'.o.length m'.oc] by unfold Mg.val; rw [hM'.way.i_, hM'.way.j_]] at z2
        have HM := Lib.hid (And.intro hM' (And.intro hL' (And.intro r1 hK)))
        have HO := Lib.hid ho9'
        clear hM' hK hE0 hE1 im' om' lm' b9 hb9 hs9 ho9 hS hPw hb99 z1 ho9' r1 r2 hL'
        go_upto_region 14 with fail
        rw [← hV9]
        clear hV9
        go_wp2_with fail
        refine z2.out.mono ?_
        rintro _ w10 ⟨rfl, b10⟩
        have hPin := H9.out.2.1.inside
        have hxo := HO.out.past b10 HO.out.inside
        have hpo := H9.out.2.1.past b10 H9.out.2.1.inside
        clear c0 c1 c2 c3 c4 c5
        obtain ⟨c0, c1, c2, c3, c4, c5⟩ := own6 hxo
        obtain ⟨f0, f1, f2, f3, f4, f5⟩ := own_frozen6 hpo
        obtain ⟨g0, g1, g2, g3, g4, g5⟩ := own6 hpo
        obtain ⟨X, hX', hXo, hXb, hXs, hXh⟩ := own_six hpo (.slice m'.aA m'.a.length m'.ac) (.slice m'.bA m'.b.length m'.bc) (.int .i64 (i' : Int)) (.int .i64 (j' : Int)) (.slice m'.sA m'.f.length m'.sc) (.slice m'.oA m'.o.length m'.oc)
        have hq10 := H9.out.2.2.1.keep b10
        have hlq := H5.out.2.2.2.2.2.2.2
        have hSX : SSt w X w3.heap.size w5.heap.size g gl m' q := ⟨hXb w.heap.size w (belows H9.out.1 b10) HP.out.1, mg_other (H9.out.2.2.2.2.1.keep b10) H9.out.2.2.2.2.2.2.1 hXs hXh, H9.out.2.2.2.2.2.1, by unfold Mg.cells; rw [HM.out.1.way.i_, HM.out.1.way.j_]; exact hXo, ⟨times_other hq10.since hlq.f hXs hXh, ups_other hq10.ups hlq.l hXs hXh⟩, (hXh w5.heap.size (Nat.ne_of_gt HP.out.2)).trans (H9.out.2.2.2.1.past b10 H9.out.2.2.2.1.inside), by rw [hXs]; exact Nat.lt_of_lt_of_le H9.out.2.2.2.2.2.2.2.2.1 b10.size, fun kk xx hh => by
          have h1 := (b10.cell (p := ⟨g, kk, none⟩) H9.out.2.2.2.2.2.2.2.2.1).trans (H9.out.2.2.2.2.2.2.2.2.2 kk xx hh)
          rw [← h1]
          unfold World.cell?
          rw [hXh g (Nat.ne_of_gt HG.out.2.1)]⟩
        have HX := Lib.hid (And.intro hSX hXo)
        have HR2 := Lib.hid hX'
        clear hX' hXo hXb hXs hXh hq10 hlq hSX hxo hpo b10 hPin z2
        go_upto_region 19 with fail
        rw [← HR2.out]
        clear c0 c1 c2 c3 c4 c5 f0 f1 f2 f3 f4 f5 g0 g1 g2 g3 g4 g5 HR2
        obtain ⟨WT, hWT⟩ : ∃ W, W = X := ⟨_, rfl⟩
        subst hWT
        obtain ⟨MT, hMT⟩ : ∃ m, m = m' := ⟨_, rfl⟩
        subst hMT
        obtain ⟨iT, hiT⟩ : ∃ i, i = i' := ⟨_, rfl⟩
        subst hiT
        obtain ⟨jT, hjT⟩ : ∃ j, j = j' := ⟨_, rfl⟩
        subst hjT
        have HT := Lib.hid (show OfM f a.l b.l MT iT jT ∧ leftN MT iT jT = 0 ∧ SSt w WT w3.heap.size w5.heap.size g gl MT q from ⟨HM.out.1, by rw [HM.out.2.1]; rcases HM.out.2.2.1 with h | h; exact h; omega, HX.out.1⟩)
        clear hLi hLi' hne hbL hbL' hbK hbK' p1 p2 p3 p4 p5 n1 n2 n3 n4 n5
        go_upto_region 21 with fail
        have TM := HT.out.1
        have TS := HT.out.2.2
        have z5 := Lib.hid (end_st MT WT TM TS.in_ TS.ok (by have := HN.out; omega) HT.out.2.1)
        rw [show MT.val = .agg #[.slice MT.aA MT.a.length MT.ac, .slice MT.bA MT.b.length MT.bc, .int .i64 (iT : Int), .int .i64 (jT : Int), .slice MT.sA MT.f.length MT.sc, .slice MT.oA MT.o.length MT.oc] by unfold Mg.val; rw [TM.way.i_, TM.way.j_]] at z5
        have hd := TM.done HT.out.2.1
        rw [HEB.out] at hd
        have tEB : (EB == 0) = true := by rw [hd.1]; rfl
        have hq := H5.out.2.2.2.2.2.2.1 hd.1
        have hcE : consE [advL f (a.l ++ b.l)] = 0 := (built_ok (HEB.out.trans hd.1)).2
        have HQ := Lib.hid (And.intro hq hcE)
        have hto := TS.own
        unfold Mg.cells at hto
        rw [TM.way.i_, TM.way.j_] at hto
        obtain ⟨c0, c1, c2, c3, c4, c5⟩ := own6 hto
        clear TM TS hd hq hcE hto
        go_wp2_with fail
        refine z5.out.mono ?_
        rintro _ w11 ⟨e, rfl, fe, pe, ie, oe, b11⟩
        obtain ⟨V11, hV11, hb11, hs11, ho11⟩ := btbox w11 e
        have TS := HT.out.2.2
        have hbb := belows b11 hb11
        have hqo := TS.qown.past hbb TS.qown.inside
        have z6 := Lib.hid (samebatch_yes e q V11 (ie.keep hb11) oe (TS.qin.keep hbb) H5.out.2.2.2.2.1 ⟨fe.trans HQ.out.1.2.1.symm, pe.trans HQ.out.1.2.2.symm⟩)
        have hbo : BatchOk e.f e.l := by rw [fe]; exact batch_ok HQ.out.1.1 HQ.out.2 pe
        have H11 := Lib.hid (And.intro (belows TS.below hbb) (And.intro (ie.keep hb11) (And.intro oe (And.intro ho11 hbo))))
        clear c0 c1 c2 c3 c4 c5
        obtain ⟨d0, d1⟩ := own2 ho11
        obtain ⟨e0, e1⟩ := own2 hqo
        unfold Bt.val at z6 ⊢
        clear fe pe ie oe b11 hb11 hs11 ho11 TS hbb hqo hbo z5
        go_upto_region 22 with fail
        rw [← hV11]
        clear hV11
        go_wp2_with fail
        refine z6.out.mono ?_
        rintro _ w12 ⟨rfl, b12⟩
        have ho12 := H11.out.2.2.2.1.past b12 H11.out.2.2.2.1.inside
        have z7 := Lib.hid (check_yes e w12 (H11.out.2.1.keep b12) H11.out.2.2.1 H11.out.2.2.2.2)
        have H12 := Lib.hid (belows H11.out.1 b12)
        clear d0 d1 e0 e1
        obtain ⟨d0, d1⟩ := own2 ho12
        unfold Bt.val at z7
        clear b12 ho12 z6
        go_wp2_with fail
        refine z7.out.mono ?_
        rintro _ w13 ⟨rfl, b13⟩
        have H13 := Lib.hid (belows H12.out b13)
        clear d0 d1 b13 z7
        go_wp2_with fail
        go_ret
        exact ⟨rfl, H13.out⟩
      · skip
        have t40 : ((k : Int) == 40) = false := by rw [beq_eq_false_iff_ne]; omega
        have H40 := Lib.hid h40
        obtain ⟨bF, hbF⟩ : ∃ b, decide ((0 : Int) < x) = b := ⟨_, rfl⟩
        have z1 := Lib.hid (work_st mm x wr HR.out.1 HR.out.2.1.in_ HR.out.2.1.ok (by have := HN.out; omega))
        rw [show mm.val = .agg #[.slice mm.aA mm.a.length mm.ac, .slice mm.bA mm.b.length mm.bc, .int .i64 (i : Int), .int .i64 (j : Int), .slice mm.sA mm.f.length mm.sc, .slice mm.oA mm.o.length mm.oc] by unfold Mg.val; rw [HR.out.1.way.i_, HR.out.1.way.j_]] at z1
        unfold WorkedS at z1
        rw [HR.out.2.2.1] at z1
        clear h40
        go_wp2_with fail
        refine z1.out.mono ?_
        rintro _ w9 ⟨m', i', j', K, E, rfl, hM', hK, hE0, hE1, im', om', lm', b9⟩
        obtain ⟨V9, hV9, hb9, hs9, ho9⟩ := mgbox w9 m'
        have hS := HR.out.2.1
        have hPw : w3.heap.size < wr.heap.size := hS.own.inside
        have hb99 := belows b9 hb9
        have H9 := Lib.hid (And.intro (belows hS.below hb99) (And.intro (hS.own.past hb99 hS.own.inside) (And.intro (hS.qin.keep hb99) (And.intro (hS.qown.past hb99 hS.qown.inside) (And.intro (im'.keep hb9) (And.intro om' (And.intro (lm'.mono (show w3.heap.size + 1 ≤ wr.heap.size from hPw)) (And.intro ho9 (And.intro (Nat.lt_of_lt_of_le hS.gin hb99.size) fun (kk : Nat) (xx : Int) hh => (hb99.cell (p := ⟨g, kk, none⟩) hS.gin).trans (hS.gl_ kk xx hh))))))))))
        rw [show m'.val = .agg #[.slice m'.aA m'.a.length m'.ac, .slice m'.bA m'.b.length m'.bc, .int .i64 (i' : Int), .int .i64 (j' : Int), .slice m'.sA m'.f.length m'.sc, .slice m'.oA m'.o.length m'.oc] by unfold Mg.val; rw [hM'.way.i_, hM'.way.j_]]
        rw [hM'.way.i_, hM'.way.j_] at hV9
        have ho9' : Own V9 w9.heap.size 43 [.slice m'.aA m'.a.length m'.ac, .slice m'.bA m'.b.length m'.bc, .int .i64 (i' : Int), .int .i64 (j' : Int), .slice m'.sA m'.f.length m'.sc, .slice m'.oA m'.o.length m'.oc] := by
          have := ho9
          unfold Mg.cells at this
          rwa [hM'.way.i_, hM'.way.j_] at this
        clear c0 c1 c2 c3 c4 c5
        obtain ⟨c0, c1, c2, c3, c4, c5⟩ := own6 ho9'
        by_cases hE : E = 0
        case neg =>
          have t2 : (E != 0) = true := bne_iff_ne.2 hE
          have t3 : (E == EB) = true := by rw [← hE1 hE, HEB.out]; simp
          clear hM' hK hE0 hE1 im' om' lm' b9 hb9 hs9 ho9 hS hPw hb99 hE z1 ho9'
          go_upto_region 14 with fail
          rw [← hV9]
          clear hV9
          go_wp2_with fail
          go_ret
          exact ⟨rfl, H9.out.1⟩
        subst hE
        have hS2 := hE0 rfl
        obtain ⟨r1, r2⟩ := hS2
        obtain ⟨L', hL'⟩ : ∃ L', leftN m' i' j' = L' := ⟨_, rfl⟩
        have p1 : m'.a.length ≤ 1048576 := by rw [hM'.la]; have := HN.out; omega
        have p2 : m'.b.length ≤ 1048576 := by rw [hM'.lb]; have := HN.out; omega
        have p3 : i' ≤ m'.a.length := by rw [hM'.la]; exact hM'.ij.1
        have p4 : j' ≤ m'.b.length := by rw [hM'.lb]; exact hM'.ij.2
        have hLi' : (m'.a.length : Int) - (i' : Int) + (m'.b.length : Int) - (j' : Int) = (L' : Int) := by unfold leftN at hL'; omega
        rw [hL'] at hK r1
        have hne : ((L' : Int) != (L : Int) - (K : Int)) = false := by rw [bne_eq_false_iff_eq]; omega
        obtain ⟨bL, hbL⟩ : ∃ x, decide (0 < L) = x := ⟨_, rfl⟩
        have hbL' : decide ((0 : Int) < (L : Int)) = bL := by rw [← hbL]; exact decide_eq_decide.2 (by omega)
        have hbK : decide (0 < K) = (bF && bL) := by rw [← hbL, ← hbF, ← Bool.decide_and]; exact decide_eq_decide.2 r2.symm
        have hbK' : decide ((0 : Int) < (K : Int)) = (bF && bL) := by rw [← hbK]; exact decide_eq_decide.2 (by omega)
        have p5 : K ≤ L := by omega
        have z2 := Lib.hid (checkM_yes m' V9 hM' H9.out.2.2.2.2.1 om')
        rw [show m'.val = .agg #[.slice m'.aA m'.a.length m'.ac, .slice m'.bA m'.b.length m'.bc, .int .i64 (i' : Int), .int .i64 (j' : Int), .slice m'.sA m'.f.length m'.sc, .slice m'.oA m'.o.length m'.oc] by unfold Mg.val; rw [hM'.way.i_, hM'.way.j_]] at z2
        have HM := Lib.hid (And.intro hM' (And.intro hL' (And.intro r1 hK)))
        have HO := Lib.hid ho9'
        clear hM' hK hE0 hE1 im' om' lm' b9 hb9 hs9 ho9 hS hPw hb99 z1 ho9' r1 r2 hL'
        go_upto_region 14 with fail
        rw [← hV9]
        clear hV9
        go_wp2_with fail
        refine z2.out.mono ?_
        rintro _ w10 ⟨rfl, b10⟩
        have hPin := H9.out.2.1.inside
        have hxo := HO.out.past b10 HO.out.inside
        have hpo := H9.out.2.1.past b10 H9.out.2.1.inside
        clear c0 c1 c2 c3 c4 c5
        obtain ⟨c0, c1, c2, c3, c4, c5⟩ := own6 hxo
        obtain ⟨f0, f1, f2, f3, f4, f5⟩ := own_frozen6 hpo
        obtain ⟨g0, g1, g2, g3, g4, g5⟩ := own6 hpo
        obtain ⟨X, hX', hXo, hXb, hXs, hXh⟩ := own_six hpo (.slice m'.aA m'.a.length m'.ac) (.slice m'.bA m'.b.length m'.bc) (.int .i64 (i' : Int)) (.int .i64 (j' : Int)) (.slice m'.sA m'.f.length m'.sc) (.slice m'.oA m'.o.length m'.oc)
        have hq10 := H9.out.2.2.1.keep b10
        have hlq := H5.out.2.2.2.2.2.2.2
        have hSX : SSt w X w3.heap.size w5.heap.size g gl m' q := ⟨hXb w.heap.size w (belows H9.out.1 b10) HP.out.1, mg_other (H9.out.2.2.2.2.1.keep b10) H9.out.2.2.2.2.2.2.1 hXs hXh, H9.out.2.2.2.2.2.1, by unfold Mg.cells; rw [HM.out.1.way.i_, HM.out.1.way.j_]; exact hXo, ⟨times_other hq10.since hlq.f hXs hXh, ups_other hq10.ups hlq.l hXs hXh⟩, (hXh w5.heap.size (Nat.ne_of_gt HP.out.2)).trans (H9.out.2.2.2.1.past b10 H9.out.2.2.2.1.inside), by rw [hXs]; exact Nat.lt_of_lt_of_le H9.out.2.2.2.2.2.2.2.2.1 b10.size, fun kk xx hh => by
          have h1 := (b10.cell (p := ⟨g, kk, none⟩) H9.out.2.2.2.2.2.2.2.2.1).trans (H9.out.2.2.2.2.2.2.2.2.2 kk xx hh)
          rw [← h1]
          unfold World.cell?
          rw [hXh g (Nat.ne_of_gt HG.out.2.1)]⟩
        have HX := Lib.hid (And.intro hSX hXo)
        have HR2 := Lib.hid hX'
        clear hX' hXo hXb hXs hXh hq10 hlq hSX hxo hpo b10 hPin z2
        cases bF with
        | true =>
          simp only [Bool.true_and] at hbK hbK'
          go_upto_region 19 with fail
          rw [← HR2.out]
          clear c0 c1 c2 c3 c4 c5 f0 f1 f2 f3 f4 f5 g0 g1 g2 g3 g4 g5 HR2
          have hgn := HG.out.2.2.1
          have hk4 := HK.out.2
          go_wp2_with fail
          go_roundw
          case rel => exact ⟨k + 1, i', j', m', by go_num, by have := HR.out.2.2.2.2; omega, by have := HK.out.2; have := H40.out; omega, HM.out.1, fun h => by
            have hx := HR.out.2.2.2.1
            have hkk : k = gl.length - 1 := by omega
            rw [hkk] at hx
            have hx2 := HG.out.1 x hx
            rw [HM.out.2.1]
            rcases HM.out.2.2.1 with h1 | h1
            · exact h1
            · omega, HX.out.1⟩
          case measure => simp [intOf]; have := HR.out.2.2.2.2; omega
        | false =>
          simp only [Bool.false_and] at hbK hbK'
          go_upto_region 19 with fail
          rw [← HR2.out]
          clear c0 c1 c2 c3 c4 c5 f0 f1 f2 f3 f4 f5 g0 g1 g2 g3 g4 g5 HR2
          have hgn := HG.out.2.2.1
          have hk4 := HK.out.2
          go_wp2_with fail
          go_roundw
          case rel => exact ⟨k + 1, i', j', m', by go_num, by have := HR.out.2.2.2.2; omega, by have := HK.out.2; have := H40.out; omega, HM.out.1, fun h => by
            have hx := HR.out.2.2.2.1
            have hkk : k = gl.length - 1 := by omega
            rw [hkk] at hx
            have hx2 := HG.out.1 x hx
            rw [HM.out.2.1]
            rcases HM.out.2.2.1 with h1 | h1
            · exact h1
            · omega, HX.out.1⟩
          case measure => simp [intOf]; have := HR.out.2.2.2.2; omega
    · skip
      have hkl : k = gl.length := by omega
      have hkf : ¬ (k : Int) < (gl.length : Int) := by omega
      obtain ⟨WT, hWT⟩ : ∃ W, W = wr := ⟨_, rfl⟩
      subst hWT
      obtain ⟨MT, hMT⟩ : ∃ m, m = mm := ⟨_, rfl⟩
      subst hMT
      obtain ⟨iT, hiT⟩ : ∃ x, x = i := ⟨_, rfl⟩
      subst hiT
      obtain ⟨jT, hjT⟩ : ∃ x, x = j := ⟨_, rfl⟩
      subst hjT
      have HT := Lib.hid (show OfM f a.l b.l MT iT jT ∧ leftN MT iT jT = 0 ∧ SSt w WT w3.heap.size w5.heap.size g gl MT q from ⟨hM, hend hkl, hS⟩)
      clear hM hend hS hkl hlt hk hk40
      go_upto_region 21 with fail
      have TM := HT.out.1
      have TS := HT.out.2.2
      have z5 := Lib.hid (end_st MT WT TM TS.in_ TS.ok (by have := HN.out; omega) HT.out.2.1)
      rw [show MT.val = .agg #[.slice MT.aA MT.a.length MT.ac, .slice MT.bA MT.b.length MT.bc, .int .i64 (iT : Int), .int .i64 (jT : Int), .slice MT.sA MT.f.length MT.sc, .slice MT.oA MT.o.length MT.oc] by unfold Mg.val; rw [TM.way.i_, TM.way.j_]] at z5
      have hd := TM.done HT.out.2.1
      rw [HEB.out] at hd
      have tEB : (EB == 0) = true := by rw [hd.1]; rfl
      have hq := H5.out.2.2.2.2.2.2.1 hd.1
      have hcE : consE [advL f (a.l ++ b.l)] = 0 := (built_ok (HEB.out.trans hd.1)).2
      have HQ := Lib.hid (And.intro hq hcE)
      have hto := TS.own
      unfold Mg.cells at hto
      rw [TM.way.i_, TM.way.j_] at hto
      obtain ⟨c0, c1, c2, c3, c4, c5⟩ := own6 hto
      clear TM TS hd hq hcE hto
      go_wp2_with fail
      refine z5.out.mono ?_
      rintro _ w11 ⟨e, rfl, fe, pe, ie, oe, b11⟩
      obtain ⟨V11, hV11, hb11, hs11, ho11⟩ := btbox w11 e
      have TS := HT.out.2.2
      have hbb := belows b11 hb11
      have hqo := TS.qown.past hbb TS.qown.inside
      have z6 := Lib.hid (samebatch_yes e q V11 (ie.keep hb11) oe (TS.qin.keep hbb) H5.out.2.2.2.2.1 ⟨fe.trans HQ.out.1.2.1.symm, pe.trans HQ.out.1.2.2.symm⟩)
      have hbo : BatchOk e.f e.l := by rw [fe]; exact batch_ok HQ.out.1.1 HQ.out.2 pe
      have H11 := Lib.hid (And.intro (belows TS.below hbb) (And.intro (ie.keep hb11) (And.intro oe (And.intro ho11 hbo))))
      clear c0 c1 c2 c3 c4 c5
      obtain ⟨d0, d1⟩ := own2 ho11
      obtain ⟨e0, e1⟩ := own2 hqo
      unfold Bt.val at z6 ⊢
      clear fe pe ie oe b11 hb11 hs11 ho11 TS hbb hqo hbo z5
      go_upto_region 22 with fail
      rw [← hV11]
      clear hV11
      go_wp2_with fail
      refine z6.out.mono ?_
      rintro _ w12 ⟨rfl, b12⟩
      have ho12 := H11.out.2.2.2.1.past b12 H11.out.2.2.2.1.inside
      have z7 := Lib.hid (check_yes e w12 (H11.out.2.1.keep b12) H11.out.2.2.1 H11.out.2.2.2.2)
      have H12 := Lib.hid (belows H11.out.1 b12)
      clear d0 d1 e0 e1
      obtain ⟨d0, d1⟩ := own2 ho12
      unfold Bt.val at z7
      clear b12 ho12 z6
      go_wp2_with fail
      refine z7.out.mono ?_
      rintro _ w13 ⟨rfl, b13⟩
      have H13 := Lib.hid (belows H12.out b13)
      clear d0 d1 b13 z7
      go_wp2_with fail
      go_ret
      exact ⟨rfl, H13.out⟩
end Go.Proofs.YtbccdmpnojdldaaGreat
namespace Go.Proofs.YtbccdmpnojdldaaGreat
open Go
variable {H : Type}
theorem bulk_pos (d : DataW H) : 1 ≤ Rows.uptoBulk d := by
  cases d with
  | lit l => cases l <;> simp [Rows.uptoBulk]
  | nil => simp [Rows.uptoBulk]
  | ptr d => simp [Rows.uptoBulk]
  | slice es sp => simp [Rows.uptoBulk]
  | agg ps => simp [Rows.uptoBulk]
  | iface t d => simp [Rows.uptoBulk]
  | map es => simp [Rows.uptoBulk]
  | held h => simp [Rows.uptoBulk]
theorem bulk_all : ∀ es : List (DataW H), es.length ≤ Rows.uptoBulkAll es
  | [] => by simp
  | d :: r => by
    have := bulk_all r
    have := bulk_pos d
    simp only [List.length_cons, Rows.uptoBulkAll]
    omega
theorem bulk_slice (es sp : List (DataW H)) : es.length ≤ Rows.uptoBulk (.slice es sp) := by
  have := bulk_all es
  simp only [Rows.uptoBulk]
  omega
end Go.Proofs.YtbccdmpnojdldaaGreat
