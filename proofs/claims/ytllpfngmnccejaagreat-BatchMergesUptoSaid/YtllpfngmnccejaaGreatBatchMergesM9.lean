/- Part 9 of the texts on which BatchMerges rests: facts and contracts. -/
import Derived.Test.YtllpfngmnccejaaGreatBatchMergesM8
import Derived.Deep.DeepAppendRoom
import Derived.ArgAppend
import Derived.BigQuiet
import Derived.Deep.QuietTactic
import Derived.Deep.RegionHeld3
import Derived.Deep.DeepCutAuto
import Derived.Deep.CutRange
import Derived.Deep.CutBlock
import Derived.Outline
namespace Go.Proofs.YtllpfngmnccejaaGreat
open Go Go.RowKit

def MOk (m : Mg) : Prop := MergOk m.f m.a m.b m.o m.i m.j
set_option maxRecDepth 100000 in
set_option maxHeartbeats 12800000 in
theorem checkM_any (m : Mg) (w : World) (hm : MgIn w w.heap.size m) (hok : MgOk m) :
    Calls Tryz.prog 17 #[m.val] w (Codes (MOk m) 8 w) := by
  obtain ⟨V, hV, hvb, hvs, hvo⟩ := mgbox w m
  have hX := fun p : Past V => own6 (hvo.past p.h hvo.inside)
  have hin := hm.keep hvb
  have hfV := fun p : Past V => (hin.f.past p.h (Nat.le_refl _)).wide p.h.size
  have haV := fun p : Past V => (hin.a.past p.h (Nat.le_refl _)).wide p.h.size
  have hbV := fun p : Past V => (hin.b.past p.h (Nat.le_refl _)).wide p.h.size
  have hoV := fun p : Past V => (hin.o.past p.h (Nat.le_refl _)).wide p.h.size
  obtain ⟨bea, hea⟩ := bool_of (EvenP m.a)
  obtain ⟨beb, heb⟩ := bool_of (EvenP m.b)
  obtain ⟨beo, heo⟩ := bool_of (EvenP m.o)
  obtain ⟨bf, hbf⟩ := bool_of (FrontOk m.f)
  obtain ⟨bad, had⟩ := bool_of (∀ u ∈ m.o, adv u.t m.f = u.t)
  obtain ⟨bda, hda⟩ := bool_of (DivB m.a m.i m.o)
  obtain ⟨bdb, hdb⟩ := bool_of (DivB m.b m.j m.o)
  have n1 := hok.f.n
  have u1 := fun p : Past V => calls_past ((even_any m.aA m.ac m.a p.w (haV p) hok.a.ok hok.a.n).mono fun x w' h => tells_is hea h)
  have u2 := fun p : Past V => calls_past ((even_any m.bA m.bc m.b p.w (hbV p) hok.b.ok hok.b.n).mono fun x w' h => tells_is heb h)
  have u3 := fun p : Past V => calls_past ((even_any m.oA m.oc m.o p.w (hoV p) hok.o.ok hok.o.n).mono fun x w' h => tells_is heo h)
  have u4 := fun p : Past V => calls_past ((bfrontier_any m.sA m.sc m.f p.w (hfV p) (by omega)).mono fun x w' h => tells_is hbf h)
  have u5 := fun p : Past V => calls_past ((badvanced_any m.oA m.oc m.o m.sA m.sc m.f p.w (hoV p) hok.o.n (hfV p) hok.f).mono fun x w' h => tells_is had h)
  have u6 := fun p : Past V => calls_past ((divided_any m.aA m.ac m.a m.i m.oA m.oc m.o p.w (haV p) hok.a (hoV p) hok.o hok.i).mono fun x w' h => tells_is hda h)
  have u7 := fun p : Past V => calls_past ((divided_any m.bA m.bc m.b m.j m.oA m.oc m.o p.w (hbV p) hok.b (hoV p) hok.o hok.j).mono fun x w' h => tells_is hdb h)
  have HB := Lib.hid hvb
  have HE := Lib.hid (show ∀ n : Int, (bea = true ∧ beb = true ∧ beo = true ∧ bf = true ∧ bad = true ∧ bda = true ∧ bdb = true) ∧ n = 0 ∨ ¬ (bea = true ∧ beb = true ∧ beo = true ∧ bf = true ∧ bad = true ∧ bda = true ∧ bdb = true) ∧ n = 8 → MOk m ∧ n = 0 ∨ ¬ MOk m ∧ n = 8 from fun n h => by
    rcases h with ⟨⟨a1, a2, a3, a4, a5, a6, a7⟩, a8⟩ | ⟨a1, a2⟩
    · exact .inl ⟨⟨⟨hea.1 a1, heb.1 a2, heo.1 a3⟩, hbf.1 a4, had.1 a5, hda.1 a6, hdb.1 a7⟩, a8⟩
    · exact .inr ⟨fun h => a1 ⟨hea.2 h.even.1, heb.2 h.even.2.1, heo.2 h.even.2.2, hbf.2 h.front, had.2 h.advd, hda.2 h.da, hdb.2 h.db⟩, a2⟩)
  rw [show m.val = .agg #[.slice m.aA m.a.length m.ac, .slice m.bA m.b.length m.bc, .int .i64 m.i, .int .i64 m.j, .slice m.sA m.f.length m.sc, .slice m.oA m.o.length m.oc] from rfl]
  have HP := Lib.hid (show ∀ n x w', (x = Ending.returned (.int .i64 n) ∧ (MOk m ∧ n = 0 ∨ ¬ MOk m ∧ n = 8) ∧ Below w.heap.size w w') → Codes (MOk m) 8 w x w' from fun n x w' h => ⟨n, h⟩)
  clear hm hok hvb hvs hvo hin hfV haV hbV hoV hea heb heo hbf had hda hdb n1
  go_enter Tryz.func17, Tryz.ntmps17
  go_upto_region 1 with fail
  rw [← hV]
  clear hV
  obtain ⟨a0, a1, a2, a3, a4, a5⟩ := hX ⟨V, Below.refl _ _⟩
  dsimp only at a0 a1 a2 a3 a4 a5
  go_wp2_with fail
  refine (u1 ⟨V, Below.refl _ _⟩).mono ?_
  rintro _ _ ⟨rfl, ⟨p0, rfl⟩⟩
  clear a0 a1 a2 a3 a4 a5 u1
  obtain ⟨a0, a1, a2, a3, a4, a5⟩ := hX p0
  cases bea with
  | false =>
    clear hX u2 u3 u4 u5 u6 u7
    go_wp2_with fail
    go_ret
    exact HP.out 8 _ _ ⟨rfl, HE.out _ (.inr ⟨by simp, rfl⟩), HB.out.trans (p0.h.mono HB.out.size)⟩
  | true =>
  go_wp2_with fail
  refine (u2 p0).mono ?_
  rintro _ _ ⟨rfl, ⟨p1, rfl⟩⟩
  clear a0 a1 a2 a3 a4 a5 u2
  obtain ⟨a0, a1, a2, a3, a4, a5⟩ := hX p1
  cases beb with
  | false =>
    clear hX u3 u4 u5 u6 u7
    go_wp2_with fail
    go_ret
    exact HP.out 8 _ _ ⟨rfl, HE.out _ (.inr ⟨by simp, rfl⟩), HB.out.trans (p1.h.mono HB.out.size)⟩
  | true =>
  go_wp2_with fail
  refine (u3 p1).mono ?_
  rintro _ _ ⟨rfl, ⟨p2, rfl⟩⟩
  clear a0 a1 a2 a3 a4 a5 u3
  obtain ⟨a0, a1, a2, a3, a4, a5⟩ := hX p2
  cases beo with
  | false =>
    clear hX u4 u5 u6 u7
    go_wp2_with fail
    go_ret
    exact HP.out 8 _ _ ⟨rfl, HE.out _ (.inr ⟨by simp, rfl⟩), HB.out.trans (p2.h.mono HB.out.size)⟩
  | true =>
  go_wp2_with fail
  refine (u4 p2).mono ?_
  rintro _ _ ⟨rfl, ⟨p3, rfl⟩⟩
  clear a0 a1 a2 a3 a4 a5 u4
  obtain ⟨a0, a1, a2, a3, a4, a5⟩ := hX p3
  cases bf with
  | false =>
    clear hX u5 u6 u7
    go_wp2_with fail
    go_ret
    exact HP.out 8 _ _ ⟨rfl, HE.out _ (.inr ⟨by simp, rfl⟩), HB.out.trans (p3.h.mono HB.out.size)⟩
  | true =>
  go_wp2_with fail
  refine (u5 p3).mono ?_
  rintro _ _ ⟨rfl, ⟨p4, rfl⟩⟩
  clear a0 a1 a2 a3 a4 a5 u5
  obtain ⟨a0, a1, a2, a3, a4, a5⟩ := hX p4
  cases bad with
  | false =>
    clear hX u6 u7
    go_wp2_with fail
    go_ret
    exact HP.out 8 _ _ ⟨rfl, HE.out _ (.inr ⟨by simp, rfl⟩), HB.out.trans (p4.h.mono HB.out.size)⟩
  | true =>
  go_wp2_with fail
  refine (u6 p4).mono ?_
  rintro _ _ ⟨rfl, ⟨p5, rfl⟩⟩
  clear a0 a1 a2 a3 a4 a5 u6
  obtain ⟨a0, a1, a2, a3, a4, a5⟩ := hX p5
  cases bda with
  | false =>
    clear hX u7
    go_wp2_with fail
    go_ret
    exact HP.out 8 _ _ ⟨rfl, HE.out _ (.inr ⟨by simp, rfl⟩), HB.out.trans (p5.h.mono HB.out.size)⟩
  | true =>
  go_wp2_with fail
  refine (u7 p5).mono ?_
  rintro _ _ ⟨rfl, ⟨p6, rfl⟩⟩
  clear a0 a1 a2 a3 a4 a5 u7
  obtain ⟨a0, a1, a2, a3, a4, a5⟩ := hX p6
  cases bdb with
  | false =>
    clear hX 
    go_wp2_with fail
    go_ret
    exact HP.out 8 _ _ ⟨rfl, HE.out _ (.inr ⟨by simp, rfl⟩), HB.out.trans (p6.h.mono HB.out.size)⟩
  | true =>
  go_wp2_with fail
  go_ret
  exact HP.out 0 _ _ ⟨rfl, HE.out _ (.inl (by simp)), HB.out.trans (p6.h.mono HB.out.size)⟩
end Go.Proofs.YtllpfngmnccejaaGreat
namespace Go.Proofs.YtllpfngmnccejaaGreat
open Go Go.RowKit

set_option maxRecDepth 100000 in
set_option maxHeartbeats 3200000 in
theorem rplace_any (a b : Up) (w : World) (ha : UIn w w.heap.size a) (hb : UIn w w.heap.size b) (oa : UOk a) (ob : UOk b) :
    Calls Tryz.prog 31 #[a.val, b.val] w fun e w' => e = .returned (.int .i64 (plc a b)) ∧ Below w.heap.size w w' := by
  have y1 := fun W h1 h2 => Lib.hid (refRows_any a.kA b.kA a.kc b.kc a.key b.key W h1 h2 (maxn oa.kn) (maxn ob.kn))
  have y2 := fun W h1 h2 => Lib.hid (refRows_any a.rA b.rA a.rc b.rc a.row b.row W h1 h2 (maxn oa.rn) (maxn ob.rn))
  have hc := Lib.hid (show plc a b = if cmpRows a.key b.key = 0 then cmpRows a.row b.row else cmpRows a.key b.key from rfl)
  obtain ⟨W, hW, hg, o1, o2⟩ := two_box w a b
  have HB := Lib.hid (And.intro hg.below (And.intro o1 (And.intro o2 (And.intro (ha.keep hg.below) (hb.keep hg.below)))))
  obtain ⟨a0, a1, a2, a3, a4, a5⟩ := own6 o1
  obtain ⟨b0, b1, b2, b3, b4, b5⟩ := own6 o2
  generalize cmpRows a.key b.key = x at *
  generalize cmpRows a.row b.row = y at *
  generalize plc a b = z at *
  have hav : a.val = .agg #[.slice a.kA a.key.length a.kc, .slice a.rA a.row.length a.rc, .int .u64 (a.t.e : Int), .int .u64 (a.t.a : Int), .int .u64 (a.t.b : Int), .int .i64 a.d] := rfl
  have hbv : b.val = .agg #[.slice b.kA b.key.length b.kc, .slice b.rA b.row.length b.rc, .int .u64 (b.t.e : Int), .int .u64 (b.t.a : Int), .int .u64 (b.t.b : Int), .int .i64 b.d] := rfl
  rw [hav, hbv]
  clear hav hbv ha hb oa ob hg o1 o2
  go_enter Tryz.func31, Tryz.ntmps31
  go_upto_region 1 with fail
  rw [← hW]
  clear hW
  go_wp2_with fail
  refine (y1 _ HB.out.2.2.2.1.key HB.out.2.2.2.2.key).out.mono ?_
  rintro _ w1 ⟨rfl, g1⟩
  have H1 := Lib.hid (And.intro (HB.out.1.trans (g1.mono HB.out.1.size)) (And.intro (HB.out.2.1.past g1 HB.out.2.1.inside) (And.intro (HB.out.2.2.1.past g1 HB.out.2.2.1.inside) (And.intro (HB.out.2.2.2.1.keep g1) (HB.out.2.2.2.2.keep g1)))))
  clear g1 a0 a1 a2 a3 a4 a5 b0 b1 b2 b3 b4 b5 y1
  obtain ⟨a0, a1, a2, a3, a4, a5⟩ := own6 H1.out.2.1
  obtain ⟨b0, b1, b2, b3, b4, b5⟩ := own6 H1.out.2.2.1
  by_cases hx : x = 0
  case neg =>
    have t1 : (x == 0) = false := beq_eq_false_iff_ne.2 hx
    rw [if_neg hx] at hc
    clear hx
    go_wp2_with fail
    go_ret
    exact ⟨ret_i64 hc.out.symm, H1.out.1⟩
  rw [if_pos hx] at hc
  subst hx
  go_wp2_with fail
  refine (y2 _ H1.out.2.2.2.1.row H1.out.2.2.2.2.row).out.mono ?_
  rintro _ w2 ⟨rfl, g2⟩
  have H2 := Lib.hid (And.intro (H1.out.1.trans (g2.mono H1.out.1.size)) (And.intro (H1.out.2.1.past g2 H1.out.2.1.inside) (H1.out.2.2.1.past g2 H1.out.2.2.1.inside)))
  clear g2 a0 a1 a2 a3 a4 a5 b0 b1 b2 b3 b4 b5 y2
  go_wp2_with fail
  go_ret
  exact ⟨ret_i64 hc.out.symm, H2.out.1⟩
/-- a place at which a key and row begins, behind the last of some updates -/
structure CutB (l : List Up) (i : Int) (o : List Up) : Prop where
  lo : 0 ≤ i
  hi : i ≤ l.length
  side : ∀ x y, 0 < i → l[i.toNat - 1]? = some x → l[i.toNat]? = some y → plc x y ≠ 0
  past : ∀ z y, o[o.length - 1]? = some z → l[i.toNat]? = some y → plc z y < 0
theorem even_side {l : List Up} (h : EvenP l) {k : Nat} {x y : Up} (hx : l[k]? = some x) (hy : l[k + 1]? = some y) : plc x y ≤ 0 := by
  have h1 : x.k.cmp y.k < 0 := by
    have hs := h.2.1
    unfold Srt at hs
    have := List.pairwise_iff_getElem.1 hs k (k + 1) (by have := (List.getElem?_eq_some_iff.1 hx).1; simpa using this) (by have := (List.getElem?_eq_some_iff.1 hy).1; simpa using this) (by omega)
    obtain ⟨_, ex⟩ := List.getElem?_eq_some_iff.1 hx
    obtain ⟨_, ey⟩ := List.getElem?_eq_some_iff.1 hy
    have h9 : x.p.1.cmp y.p.1 < 0 := by simpa [ex, ey] using this
    exact h9
  unfold plc
  have h2 : x.k.cmp y.k = if cmpRows x.key y.key = 0 then (if cmpRows x.row y.row = 0 then x.t.cmp y.t else cmpRows x.row y.row) else cmpRows x.key y.key := rfl
  rw [h2] at h1
  by_cases c1 : cmpRows x.key y.key = 0
  · rw [if_pos c1] at h1 ⊢
    by_cases c2 : cmpRows x.row y.row = 0
    · omega
    · rw [if_neg c2] at h1; omega
  · rw [if_neg c1] at h1 ⊢; omega
theorem cut_div {l : List Up} {i : Int} {o : List Up} (h : EvenP l) : CutB l i o ↔ DivB l i o := by
  constructor
  · intro c
    refine ⟨c.lo, c.hi, fun x y h0 hx hy => ?_, c.past⟩
    have := even_side h hx (by rw [Nat.sub_add_cancel (by omega)]; exact hy)
    have := c.side x y h0 hx hy
    omega
  · intro d
    exact ⟨d.lo, d.hi, fun x y h0 hx hy => by have := d.side x y h0 hx hy; omega, d.past⟩
-- CUT
set_option maxRecDepth 100000 in
set_option maxHeartbeats 12800000 in
theorem rcut_any (A : Option Addr) (c : Nat) (l : List Up) (i : Int) (A' : Option Addr) (c' : Nat) (o : List Up) (w : World) (hl : Ups w w.heap.size A l) (hlo : UsOk l) (ho : Ups w w.heap.size A' o) (hoo : UsOk o) (hi : -9223372036854775808 ≤ i ∧ i ≤ 9223372036854775807) :
    Calls Tryz.prog 51 #[.slice A l.length c, .int .i64 i, .slice A' o.length c'] w (Tells (CutB l i o) w) := by
  have hlb := hlo.n
  have hob := hoo.n
  by_cases h0 : i < 0
  · have t1 : decide (i < 0) = true := decide_eq_true h0
    have HD := Lib.hid (show ¬ CutB l i o from fun h => absurd h.lo (by omega))
    clear h0 hl hlo ho hoo
    go_enter Tryz.func51, Tryz.ntmps51
    go_upto_region 1 with fail
    refine wp_region_past w (by kernel_rfl) (by kernel_rfl) (Below.refl _ _) ?_
    repeat (first | go_big_quiet_step (fail) | quiet_step (fail))
    refine wpQuiet_nil ?_
    intro wz hw'
    obtain ⟨⟨wy, hbz⟩, hw''⟩ := hw'
    dsimp only at hw''
    subst hw''
    have HZ := Lib.hid hbz
    clear hbz
    go_wp2_with fail
    go_ret
    exact ⟨false, rfl, ⟨fun h => (by cases h), fun h => absurd h HD.out⟩, HZ.out⟩
  have t0 : decide (i < 0) = false := decide_eq_false h0
  obtain ⟨k, rfl⟩ : ∃ k : Nat, i = (k : Int) := ⟨i.toNat, by omega⟩
  have t0' : decide ((k : Int) < 0) = false := t0
  by_cases h1 : l.length < k
  · have t1 : decide (l.length < k) = true := decide_eq_true h1
    have t1' : decide ((l.length : Int) < (k : Int)) = true := decide_eq_true (by omega)
    have HD := Lib.hid (show ¬ CutB l k o from fun h => absurd h.hi (by omega))
    clear h0 h1 hl hlo ho hoo
    go_enter Tryz.func51, Tryz.ntmps51
    go_upto_region 1 with fail
    refine wp_region_past w (by kernel_rfl) (by kernel_rfl) (Below.refl _ _) ?_
    repeat (first | go_big_quiet_step (fail) | quiet_step (fail))
    refine wpQuiet_nil ?_
    intro wz hw'
    obtain ⟨⟨wy, hbz⟩, hw''⟩ := hw'
    dsimp only at hw''
    subst hw''
    have HZ := Lib.hid hbz
    clear hbz
    go_wp2_with fail
    go_ret
    exact ⟨false, rfl, ⟨fun h => (by cases h), fun h => absurd h HD.out⟩, HZ.out⟩
  have t2 : decide (l.length < k) = false := decide_eq_false h1
  have t2' : decide ((l.length : Int) < (k : Int)) = false := decide_eq_false (by omega)
  have hcut : (∀ x y, 0 < k → l[k - 1]? = some x → l[k]? = some y → plc x y ≠ 0) → (∀ z y, o[o.length - 1]? = some z → l[k]? = some y → plc z y < 0) → CutB l k o := fun h1 h2 => ⟨by omega, by omega, fun x y hk hx hy => (by
    rw [Int.toNat_natCast] at hx hy
    exact h1 x y (by omega) hx hy), fun z y hz hy => (by
    rw [Int.toNat_natCast] at hy
    exact h2 z y hz hy)⟩
  by_cases hkl : k < l.length
  case neg =>
    have hno : l[k]? = none := List.getElem?_eq_none (by omega)
    have HD := Lib.hid (hcut (fun x y _ _ hy => by rw [hno] at hy; cases hy) fun z y _ hy => by rw [hno] at hy; cases hy)
    have t4 : decide (k < l.length) = false := decide_eq_false hkl
    have t4' : decide ((k : Int) < (l.length : Int)) = false := decide_eq_false (by omega)
    have t6 : ((k : Int) == (l.length : Int)) = true := beq_iff_eq.2 (by omega)
    by_cases hk0 : 0 < k
    · have t3 : decide (0 < k) = true := decide_eq_true (by omega)
      have t3' : decide ((0 : Int) < (k : Int)) = true := decide_eq_true (by omega)
      by_cases hn0 : o.length = 0
      · have t5 : ((o.length : Int) == 0) = true := beq_iff_eq.2 (by omega)
        clear h0 h1 hno hkl hk0 hn0 hcut hl hlo ho hoo
        go_enter Tryz.func51, Tryz.ntmps51
        go_upto_region 1 with fail
        refine wp_region_past w (by kernel_rfl) (by kernel_rfl) (Below.refl _ _) ?_
        repeat (first | go_big_quiet_step (fail) | quiet_step (fail))
        refine wpQuiet_nil ?_
        intro wz hw'
        obtain ⟨⟨wy, hbz⟩, hw''⟩ := hw'
        dsimp only at hw''
        subst hw''
        have HZ := Lib.hid hbz
        clear hbz
        go_upto_region 3 with fail
        refine wp_region_past w (by kernel_rfl) (by kernel_rfl) HZ.out ?_
        repeat (first | go_big_quiet_step (fail) | quiet_step (fail))
        refine wpQuiet_nil ?_
        intro wz hw'
        obtain ⟨⟨wy, hbz⟩, hw''⟩ := hw'
        dsimp only at hw''
        subst hw''
        have HZ := Lib.hid hbz
        clear hbz
        go_wp2_with fail
        go_ret
        exact ⟨true, rfl, ⟨fun _ => HD.out, fun _ => rfl⟩, HZ.out⟩
      · have t5 : ((o.length : Int) == 0) = false := beq_eq_false_iff_ne.2 (by omega)
        clear h0 h1 hno hkl hk0 hn0 hcut hl hlo ho hoo
        go_enter Tryz.func51, Tryz.ntmps51
        go_upto_region 1 with fail
        refine wp_region_past w (by kernel_rfl) (by kernel_rfl) (Below.refl _ _) ?_
        repeat (first | go_big_quiet_step (fail) | quiet_step (fail))
        refine wpQuiet_nil ?_
        intro wz hw'
        obtain ⟨⟨wy, hbz⟩, hw''⟩ := hw'
        dsimp only at hw''
        subst hw''
        have HZ := Lib.hid hbz
        clear hbz
        go_upto_region 3 with fail
        refine wp_region_past w (by kernel_rfl) (by kernel_rfl) HZ.out ?_
        repeat (first | go_big_quiet_step (fail) | quiet_step (fail))
        refine wpQuiet_nil ?_
        intro wz hw'
        obtain ⟨⟨wy, hbz⟩, hw''⟩ := hw'
        dsimp only at hw''
        subst hw''
        have HZ := Lib.hid hbz
        clear hbz
        go_wp2_with fail
        go_ret
        exact ⟨true, rfl, ⟨fun _ => HD.out, fun _ => rfl⟩, HZ.out⟩
    · have t3 : decide (0 < k) = false := decide_eq_false (by omega)
      have t3' : decide ((0 : Int) < (k : Int)) = false := decide_eq_false (by omega)
      by_cases hn0 : o.length = 0
      · have t5 : ((o.length : Int) == 0) = true := beq_iff_eq.2 (by omega)
        clear h0 h1 hno hkl hk0 hn0 hcut hl hlo ho hoo
        go_enter Tryz.func51, Tryz.ntmps51
        go_upto_region 1 with fail
        refine wp_region_past w (by kernel_rfl) (by kernel_rfl) (Below.refl _ _) ?_
        repeat (first | go_big_quiet_step (fail) | quiet_step (fail))
        refine wpQuiet_nil ?_
        intro wz hw'
        obtain ⟨⟨wy, hbz⟩, hw''⟩ := hw'
        dsimp only at hw''
        subst hw''
        have HZ := Lib.hid hbz
        clear hbz
        go_upto_region 3 with fail
        refine wp_region_past w (by kernel_rfl) (by kernel_rfl) HZ.out ?_
        repeat (first | go_big_quiet_step (fail) | quiet_step (fail))
        refine wpQuiet_nil ?_
        intro wz hw'
        obtain ⟨⟨wy, hbz⟩, hw''⟩ := hw'
        dsimp only at hw''
        subst hw''
        have HZ := Lib.hid hbz
        clear hbz
        go_wp2_with fail
        go_ret
        exact ⟨true, rfl, ⟨fun _ => HD.out, fun _ => rfl⟩, HZ.out⟩
      · have t5 : ((o.length : Int) == 0) = false := beq_eq_false_iff_ne.2 (by omega)
        clear h0 h1 hno hkl hk0 hn0 hcut hl hlo ho hoo
        go_enter Tryz.func51, Tryz.ntmps51
        go_upto_region 1 with fail
        refine wp_region_past w (by kernel_rfl) (by kernel_rfl) (Below.refl _ _) ?_
        repeat (first | go_big_quiet_step (fail) | quiet_step (fail))
        refine wpQuiet_nil ?_
        intro wz hw'
        obtain ⟨⟨wy, hbz⟩, hw''⟩ := hw'
        dsimp only at hw''
        subst hw''
        have HZ := Lib.hid hbz
        clear hbz
        go_upto_region 3 with fail
        refine wp_region_past w (by kernel_rfl) (by kernel_rfl) HZ.out ?_
        repeat (first | go_big_quiet_step (fail) | quiet_step (fail))
        refine wpQuiet_nil ?_
        intro wz hw'
        obtain ⟨⟨wy, hbz⟩, hw''⟩ := hw'
        dsimp only at hw''
        subst hw''
        have HZ := Lib.hid hbz
        clear hbz
        go_wp2_with fail
        go_ret
        exact ⟨true, rfl, ⟨fun _ => HD.out, fun _ => rfl⟩, HZ.out⟩
  case pos =>
    have hy : l[k]? = some l[k] := List.getElem?_eq_getElem hkl
    have hym := List.mem_of_getElem? hy
    generalize l[k] = y at *
    have hyo := hlo.ok y hym
    have hyn := hl.each_ y hym
    obtain ⟨b, f, rfl, hB, hys⟩ := lies_up hl.head (by omega)
    have hY := fun p : Past w => ((hys k y hy).past_ p.h hB).six
    have hyi := fun p : Past w => (hyn.past p.h (Nat.le_refl _)).wide p.h.size
    have hcut1 : (0 < k → ∀ x, l[k - 1]? = some x → plc x y ≠ 0) → (∀ z, o[o.length - 1]? = some z → plc z y < 0) → CutB l k o := fun h1 h2 => hcut (fun x y' hk hx hy' => by rw [hy] at hy'; cases hy'; exact h1 hk x hx) fun z y' hz hy' => by rw [hy] at hy'; cases hy'; exact h2 z hz
    have hno2 : ∀ z, o[o.length - 1]? = some z → ¬ plc z y < 0 → ¬ CutB l k o := fun z hz hn h => hn (h.past z y hz (by rw [Int.toNat_natCast]; exact hy))
    have t4 : decide (k < l.length) = true := decide_eq_true hkl
    have t4' : decide ((k : Int) < (l.length : Int)) = true := decide_eq_true (by omega)
    have t6 : ((k : Int) == (l.length : Int)) = false := beq_eq_false_iff_ne.2 (by omega)
    have q0 : (0 : Int) ≤ (k : Int) := by omega
    have q1 : (k : Int) < (l.length : Int) := by omega
    by_cases hk0 : 0 < k
    · have t3 : decide (0 < k) = true := decide_eq_true (by omega)
      have t3' : decide ((0 : Int) < (k : Int)) = true := decide_eq_true (by omega)
      have hkp : k - 1 < l.length := by omega
      have hx : l[k - 1]? = some l[k - 1] := List.getElem?_eq_getElem hkp
      have hxm := List.mem_of_getElem? hx
      generalize l[k - 1] = x at *
      have hxo := hlo.ok x hxm
      have hxn := hl.each_ x hxm
      have hX := fun p : Past w => ((hys (k - 1) x hx).past_ p.h hB).six
      have hxi := fun p : Past w => (hxn.past p.h (Nat.le_refl _)).wide p.h.size
      have u1 := fun p : Past w => calls_past (rplace_any x y p.w (hxi p) (hyi p) hxo hyo)
      unfold Up.val at u1
      have hk1 := sub_one hk0
      have s0 : (0 : Int) ≤ ((k - 1 : Nat) : Int) := by omega
      have s1 : ((k - 1 : Nat) : Int) < (l.length : Int) := by omega
      have s2 : IntKind.i64.wrap ((k : Int) - 1) = ((k - 1 : Nat) : Int) := by rw [IntWalk.i64_in _ (by omega)]; exact hk1
      by_cases hp1 : plc x y = 0
      · have HD := Lib.hid (show ¬ CutB l k o from fun h => h.side x y (by omega) (by rw [Int.toNat_natCast]; exact hx) (by rw [Int.toNat_natCast]; exact hy) hp1)
        generalize plc x y = px at *
        have tp : (px == 0) = true := beq_iff_eq.2 hp1
        clear h0 h1 hkl hk0 hy hym hyo hyn hyi hys hcut hcut1 hno2 hx hxm hxo hxn hxi hk1 hkp hp1 hl hlo ho hoo
        go_enter Tryz.func51, Tryz.ntmps51
        go_upto_region 1 with fail
        refine wp_region_past w (by kernel_rfl) (by kernel_rfl) (Below.refl _ _) ?_
        repeat (first | go_big_quiet_step ((go_at_call 31; exact u1 _)) | quiet_step ((go_at_call 31; exact u1 _)))
        refine wpQuiet_nil ?_
        intro wz hw'
        obtain ⟨⟨wy, hbz⟩, hw''⟩ := hw'
        dsimp only at hw''
        subst hw''
        have HZ := Lib.hid hbz
        clear hbz
        go_wp2_with fail
        go_ret
        exact ⟨false, rfl, ⟨fun h => (by cases h), fun h => absurd h HD.out⟩, HZ.out⟩
      by_cases hn0 : o.length = 0
      · have t5 : ((o.length : Int) == 0) = true := beq_iff_eq.2 (by omega)
        have HD := Lib.hid (hcut1 (fun _ x' hx' => by rw [hx] at hx'; cases hx'; exact hp1) fun z hz => by rw [List.getElem?_eq_none (by omega)] at hz; cases hz)
        generalize plc x y = px at *
        have tp : (px == 0) = false := beq_eq_false_iff_ne.2 hp1
        clear h0 h1 hkl hk0 hy hym hyo hyn hyi hys hcut hcut1 hno2 hx hxm hxo hxn hxi hk1 hkp hp1 hn0 hl hlo ho hoo
        go_enter Tryz.func51, Tryz.ntmps51
        go_upto_region 1 with fail
        refine wp_region_past w (by kernel_rfl) (by kernel_rfl) (Below.refl _ _) ?_
        repeat (first | go_big_quiet_step ((go_at_call 31; exact u1 _)) | quiet_step ((go_at_call 31; exact u1 _)))
        refine wpQuiet_nil ?_
        intro wz hw'
        obtain ⟨⟨wy, hbz⟩, hw''⟩ := hw'
        dsimp only at hw''
        subst hw''
        have HZ := Lib.hid hbz
        clear hbz
        go_upto_region 3 with fail
        refine wp_region_past w (by kernel_rfl) (by kernel_rfl) HZ.out ?_
        repeat (first | go_big_quiet_step (fail) | quiet_step (fail))
        refine wpQuiet_nil ?_
        intro wz hw'
        obtain ⟨⟨wy, hbz⟩, hw''⟩ := hw'
        dsimp only at hw''
        subst hw''
        have HZ := Lib.hid hbz
        clear hbz
        go_wp2_with fail
        go_ret
        exact ⟨true, rfl, ⟨fun _ => HD.out, fun _ => rfl⟩, HZ.out⟩
      · have t5 : ((o.length : Int) == 0) = false := beq_eq_false_iff_ne.2 (by omega)
        have hz : o[o.length - 1]? = some o[o.length - 1] := List.getElem?_eq_getElem (by omega)
        have hzm := List.mem_of_getElem? hz
        generalize o[o.length - 1] = z at *
        have hzo := hoo.ok z hzm
        have hzn := ho.each_ z hzm
        obtain ⟨b', f', rfl, hB', hzs⟩ := lies_up ho.head (by omega)
        have hZ := fun p : Past w => ((hzs (o.length - 1) z hz).past_ p.h hB').six
        have hzi := fun p : Past w => (hzn.past p.h (Nat.le_refl _)).wide p.h.size
        have u2 := fun p : Past w => calls_past (rplace_any z y p.w (hzi p) (hyi p) hzo hyo)
        unfold Up.val at u2
        have hn1 := sub_one (Nat.pos_of_ne_zero hn0)
        have r0 : (0 : Int) ≤ ((o.length - 1 : Nat) : Int) := by omega
        have r1 : ((o.length - 1 : Nat) : Int) < (o.length : Int) := by omega
        have r2 : IntKind.i64.wrap ((o.length : Int) - 1) = ((o.length - 1 : Nat) : Int) := by rw [IntWalk.i64_in _ (by omega)]; exact hn1
        by_cases hp : plc z y < 0
        · have HD := Lib.hid (hcut1 (fun _ x' hx' => by rw [hx] at hx'; cases hx'; exact hp1) fun z' hz' => by rw [hz] at hz'; cases hz'; exact hp)
          generalize plc z y = pz at *
          have t7 : decide (pz < 0) = true := decide_eq_true hp
          generalize plc x y = px at *
          have tp : (px == 0) = false := beq_eq_false_iff_ne.2 hp1
          clear h0 h1 hkl hk0 hy hym hyo hyn hyi hys hcut hcut1 hno2 hx hxm hxo hxn hxi hk1 hkp hp1 hn0 hp hz hzm hzo hzn hzs hzi hn1 hl hlo ho hoo
          go_enter Tryz.func51, Tryz.ntmps51
          go_upto_region 1 with fail
          refine wp_region_past w (by kernel_rfl) (by kernel_rfl) (Below.refl _ _) ?_
          repeat (first | go_big_quiet_step ((go_at_call 31; exact u1 _)) | quiet_step ((go_at_call 31; exact u1 _)))
          refine wpQuiet_nil ?_
          intro wz hw'
          obtain ⟨⟨wy, hbz⟩, hw''⟩ := hw'
          dsimp only at hw''
          subst hw''
          have HZ := Lib.hid hbz
          clear hbz
          go_upto_region 3 with fail
          refine wp_region_past w (by kernel_rfl) (by kernel_rfl) HZ.out ?_
          repeat (first | go_big_quiet_step ((go_at_call 31; exact u2 _)) | quiet_step ((go_at_call 31; exact u2 _)))
          refine wpQuiet_nil ?_
          intro wz hw'
          obtain ⟨⟨wy, hbz⟩, hw''⟩ := hw'
          dsimp only at hw''
          subst hw''
          have HZ := Lib.hid hbz
          clear hbz
          go_wp2_with fail
          go_ret
          exact ⟨true, rfl, ⟨fun _ => HD.out, fun _ => rfl⟩, HZ.out⟩
        · have HD := Lib.hid (hno2 z hz hp)
          generalize plc z y = pz at *
          have t7 : decide (pz < 0) = false := decide_eq_false hp
          generalize plc x y = px at *
          have tp : (px == 0) = false := beq_eq_false_iff_ne.2 hp1
          clear h0 h1 hkl hk0 hy hym hyo hyn hyi hys hcut hcut1 hno2 hx hxm hxo hxn hxi hk1 hkp hp1 hn0 hp hz hzm hzo hzn hzs hzi hn1 hl hlo ho hoo
          go_enter Tryz.func51, Tryz.ntmps51
          go_upto_region 1 with fail
          refine wp_region_past w (by kernel_rfl) (by kernel_rfl) (Below.refl _ _) ?_
          repeat (first | go_big_quiet_step ((go_at_call 31; exact u1 _)) | quiet_step ((go_at_call 31; exact u1 _)))
          refine wpQuiet_nil ?_
          intro wz hw'
          obtain ⟨⟨wy, hbz⟩, hw''⟩ := hw'
          dsimp only at hw''
          subst hw''
          have HZ := Lib.hid hbz
          clear hbz
          go_upto_region 3 with fail
          refine wp_region_past w (by kernel_rfl) (by kernel_rfl) HZ.out ?_
          repeat (first | go_big_quiet_step ((go_at_call 31; exact u2 _)) | quiet_step ((go_at_call 31; exact u2 _)))
          refine wpQuiet_nil ?_
          intro wz hw'
          obtain ⟨⟨wy, hbz⟩, hw''⟩ := hw'
          dsimp only at hw''
          subst hw''
          have HZ := Lib.hid hbz
          clear hbz
          go_wp2_with fail
          go_ret
          exact ⟨false, rfl, ⟨fun h => (by cases h), fun h => absurd h HD.out⟩, HZ.out⟩
    · have t3 : decide (0 < k) = false := decide_eq_false (by omega)
      have t3' : decide ((0 : Int) < (k : Int)) = false := decide_eq_false (by omega)
      by_cases hn0 : o.length = 0
      · have t5 : ((o.length : Int) == 0) = true := beq_iff_eq.2 (by omega)
        have HD := Lib.hid (hcut1 (fun h => absurd h hk0) fun z hz => by rw [List.getElem?_eq_none (by omega)] at hz; cases hz)
        clear h0 h1 hkl hk0 hy hym hyo hyn hyi hys hcut hcut1 hno2 hn0 hl hlo ho hoo
        go_enter Tryz.func51, Tryz.ntmps51
        go_upto_region 1 with fail
        refine wp_region_past w (by kernel_rfl) (by kernel_rfl) (Below.refl _ _) ?_
        repeat (first | go_big_quiet_step (fail) | quiet_step (fail))
        refine wpQuiet_nil ?_
        intro wz hw'
        obtain ⟨⟨wy, hbz⟩, hw''⟩ := hw'
        dsimp only at hw''
        subst hw''
        have HZ := Lib.hid hbz
        clear hbz
        go_upto_region 3 with fail
        refine wp_region_past w (by kernel_rfl) (by kernel_rfl) HZ.out ?_
        repeat (first | go_big_quiet_step (fail) | quiet_step (fail))
        refine wpQuiet_nil ?_
        intro wz hw'
        obtain ⟨⟨wy, hbz⟩, hw''⟩ := hw'
        dsimp only at hw''
        subst hw''
        have HZ := Lib.hid hbz
        clear hbz
        go_wp2_with fail
        go_ret
        exact ⟨true, rfl, ⟨fun _ => HD.out, fun _ => rfl⟩, HZ.out⟩
      · have t5 : ((o.length : Int) == 0) = false := beq_eq_false_iff_ne.2 (by omega)
        have hz : o[o.length - 1]? = some o[o.length - 1] := List.getElem?_eq_getElem (by omega)
        have hzm := List.mem_of_getElem? hz
        generalize o[o.length - 1] = z at *
        have hzo := hoo.ok z hzm
        have hzn := ho.each_ z hzm
        obtain ⟨b', f', rfl, hB', hzs⟩ := lies_up ho.head (by omega)
        have hZ := fun p : Past w => ((hzs (o.length - 1) z hz).past_ p.h hB').six
        have hzi := fun p : Past w => (hzn.past p.h (Nat.le_refl _)).wide p.h.size
        have u2 := fun p : Past w => calls_past (rplace_any z y p.w (hzi p) (hyi p) hzo hyo)
        unfold Up.val at u2
        have hn1 := sub_one (Nat.pos_of_ne_zero hn0)
        have r0 : (0 : Int) ≤ ((o.length - 1 : Nat) : Int) := by omega
        have r1 : ((o.length - 1 : Nat) : Int) < (o.length : Int) := by omega
        have r2 : IntKind.i64.wrap ((o.length : Int) - 1) = ((o.length - 1 : Nat) : Int) := by rw [IntWalk.i64_in _ (by omega)]; exact hn1
        by_cases hp : plc z y < 0
        · have HD := Lib.hid (hcut1 (fun h => absurd h hk0) fun z' hz' => by rw [hz] at hz'; cases hz'; exact hp)
          generalize plc z y = pz at *
          have t7 : decide (pz < 0) = true := decide_eq_true hp
          clear h0 h1 hkl hk0 hy hym hyo hyn hyi hys hcut hcut1 hno2 hn0 hp hz hzm hzo hzn hzs hzi hn1 hl hlo ho hoo
          go_enter Tryz.func51, Tryz.ntmps51
          go_upto_region 1 with fail
          refine wp_region_past w (by kernel_rfl) (by kernel_rfl) (Below.refl _ _) ?_
          repeat (first | go_big_quiet_step (fail) | quiet_step (fail))
          refine wpQuiet_nil ?_
          intro wz hw'
          obtain ⟨⟨wy, hbz⟩, hw''⟩ := hw'
          dsimp only at hw''
          subst hw''
          have HZ := Lib.hid hbz
          clear hbz
          go_upto_region 3 with fail
          refine wp_region_past w (by kernel_rfl) (by kernel_rfl) HZ.out ?_
          repeat (first | go_big_quiet_step ((go_at_call 31; exact u2 _)) | quiet_step ((go_at_call 31; exact u2 _)))
          refine wpQuiet_nil ?_
          intro wz hw'
          obtain ⟨⟨wy, hbz⟩, hw''⟩ := hw'
          dsimp only at hw''
          subst hw''
          have HZ := Lib.hid hbz
          clear hbz
          go_wp2_with fail
          go_ret
          exact ⟨true, rfl, ⟨fun _ => HD.out, fun _ => rfl⟩, HZ.out⟩
        · have HD := Lib.hid (hno2 z hz hp)
          generalize plc z y = pz at *
          have t7 : decide (pz < 0) = false := decide_eq_false hp
          clear h0 h1 hkl hk0 hy hym hyo hyn hyi hys hcut hcut1 hno2 hn0 hp hz hzm hzo hzn hzs hzi hn1 hl hlo ho hoo
          go_enter Tryz.func51, Tryz.ntmps51
          go_upto_region 1 with fail
          refine wp_region_past w (by kernel_rfl) (by kernel_rfl) (Below.refl _ _) ?_
          repeat (first | go_big_quiet_step (fail) | quiet_step (fail))
          refine wpQuiet_nil ?_
          intro wz hw'
          obtain ⟨⟨wy, hbz⟩, hw''⟩ := hw'
          dsimp only at hw''
          subst hw''
          have HZ := Lib.hid hbz
          clear hbz
          go_upto_region 3 with fail
          refine wp_region_past w (by kernel_rfl) (by kernel_rfl) HZ.out ?_
          repeat (first | go_big_quiet_step ((go_at_call 31; exact u2 _)) | quiet_step ((go_at_call 31; exact u2 _)))
          refine wpQuiet_nil ?_
          intro wz hw'
          obtain ⟨⟨wy, hbz⟩, hw''⟩ := hw'
          dsimp only at hw''
          subst hw''
          have HZ := Lib.hid hbz
          clear hbz
          go_wp2_with fail
          go_ret
          exact ⟨false, rfl, ⟨fun h => (by cases h), fun h => absurd h HD.out⟩, HZ.out⟩
end Go.Proofs.YtllpfngmnccejaaGreat
namespace Go.Proofs.YtllpfngmnccejaaGreat
open Go Go.RowKit

theorem two_bt (w : World) (a b : Bt) : ∃ V, V = (w.alloc (.cells #[.slice a.sA a.f.length a.sc, .slice a.uA a.l.length a.uc] 27)).alloc (.cells #[.slice b.sA b.f.length b.sc, .slice b.uA b.l.length b.uc] 27) ∧ Below w.heap.size w V ∧ Own V w.heap.size 27 a.cells ∧ Own V (w.heap.size + 1) 27 b.cells := by
  obtain ⟨V1, e1, b1, s1, o1⟩ := btbox w a
  obtain ⟨V2, e2, b2, s2, o2⟩ := btbox V1 b
  exact ⟨V2, by rw [e2, e1], b1.trans (b2.mono b1.size), o1.past b2 o1.inside, by rw [← s1]; exact o2⟩
set_option maxRecDepth 100000 in
set_option maxHeartbeats 6400000 in
theorem samebatch_any (a b : Bt) (w : World) (ha : BtIn w w.heap.size a) (oa : BtOk a) (hb : BtIn w w.heap.size b) (ob : BtOk b) :
    Calls Tryz.prog 16 #[a.val, b.val] w (Tells (a.f = b.f ∧ a.l.map Up.p = b.l.map Up.p) w) := by
  obtain ⟨V, hV, hvb, hv1, hv2⟩ := two_bt w a b
  have hX := fun p : Past V => own2 (hv1.past p.h hv1.inside)
  have hY := fun p : Past V => own2 (hv2.past p.h hv2.inside)
  have hia := ha.keep hvb
  have hib := hb.keep hvb
  obtain ⟨bu, hbu⟩ := bool_of (a.l.map Up.p = b.l.map Up.p)
  have m2 : a.f.length ≤ maxLen := Nat.le_trans oa.f.le oa.f.c_
  have m3 : b.f.length ≤ maxLen := Nat.le_trans ob.f.le ob.f.c_
  obtain ⟨bf, hbf⟩ : ∃ x : Bool, decide (a.f = b.f) = x := ⟨_, rfl⟩
  have u1 := fun p : Past V => calls_past (same_any a.sA b.sA a.sc b.sc a.f b.f p.w (hia.keep p.h).since (hib.keep p.h).since m2 m3)
  rw [hbf] at u1
  have u2 := fun p : Past V => calls_past ((sameU_any a.uA b.uA a.uc b.uc a.l b.l p.w (hia.keep p.h).ups (hib.keep p.h).ups oa.l.ok ob.l.ok oa.l.n ob.l.n).mono fun x w' h => tells_is hbu h)
  have HB := Lib.hid hvb
  have HE := Lib.hid (show (bf && bu) = true ↔ a.f = b.f ∧ a.l.map Up.p = b.l.map Up.p by rw [Bool.and_eq_true, hbu, ← hbf, decide_eq_true_iff])
  rw [show a.val = .agg #[.slice a.sA a.f.length a.sc, .slice a.uA a.l.length a.uc] from rfl, show b.val = .agg #[.slice b.sA b.f.length b.sc, .slice b.uA b.l.length b.uc] from rfl]
  have HP := Lib.hid (show ∀ c x w', (x = Ending.returned (.bool c) ∧ (c = true ↔ a.f = b.f ∧ a.l.map Up.p = b.l.map Up.p) ∧ Below w.heap.size w w') → Tells (a.f = b.f ∧ a.l.map Up.p = b.l.map Up.p) w x w' from fun n x w' h => ⟨n, h⟩)
  clear ha oa hb ob hvb hv1 hv2 hia hib hbu hbf m2 m3
  go_enter Tryz.func16, Tryz.ntmps16
  go_upto_region 1 with fail
  rw [← hV]
  clear hV
  obtain ⟨a0, a1⟩ := hX ⟨V, Below.refl _ _⟩
  obtain ⟨b0, b1⟩ := hY ⟨V, Below.refl _ _⟩
  dsimp only at a0 a1 b0 b1
  go_wp2_with fail
  refine (u1 ⟨V, Below.refl _ _⟩).mono ?_
  rintro _ _ ⟨rfl, ⟨p1, rfl⟩⟩
  clear a0 a1 b0 b1 u1
  obtain ⟨a0, a1⟩ := hX p1
  obtain ⟨b0, b1⟩ := hY p1
  cases bf with
  | false =>
    clear u2 hX hY
    go_wp2_with fail
    go_ret
    exact HP.out false _ _ ⟨rfl, HE.out, HB.out.trans (p1.h.mono HB.out.size)⟩
  | true =>
  go_wp2_with fail
  refine (u2 p1).mono ?_
  rintro _ _ ⟨rfl, ⟨p2, rfl⟩⟩
  clear a0 a1 b0 b1 u2 hX hY
  go_wp2_with fail
  go_ret
  exact HP.out bu _ _ ⟨rfl, HE.out, HB.out.trans (p2.h.mono HB.out.size)⟩
theorem samebatch_yes (a b : Bt) (w : World) (ha : BtIn w w.heap.size a) (oa : BtOk a) (hb : BtIn w w.heap.size b) (ob : BtOk b) (h : a.f = b.f ∧ a.l.map Up.p = b.l.map Up.p) :
    Calls Tryz.prog 16 #[a.val, b.val] w fun x w' => x = .returned (.bool true) ∧ Below w.heap.size w w' :=
  (samebatch_any a b w ha oa hb ob).mono fun x w' ⟨c, h1, h2, h3⟩ => ⟨by rw [h1, h2.2 h], h3⟩
theorem sameups_yes (A A' : Option Addr) (c c' : Nat) (l m : List Up) (w : World) (hl : Ups w w.heap.size A l) (hm : Ups w w.heap.size A' m) (ol : UsOk l) (om : UsOk m) (h : l.map Up.p = m.map Up.p) :
    Calls Tryz.prog 44 #[.slice A l.length c, .slice A' m.length c'] w fun x w' => x = .returned (.bool true) ∧ Below w.heap.size w w' :=
  (sameU_any A A' c c' l m w hl hm ol.ok om.ok ol.n om.n).mono fun x w' ⟨b, h1, h2, h3⟩ => ⟨by rw [h1, h2.2 h], h3⟩
/-- Build of one list -/
theorem build_one (A : Option Addr) (c : Nat) (f : List Tm) (A1 A' : Option Addr) (c' : Nat) (l : List Up) (w : World) (hf : Times w w.heap.size A f) (hfo : TsOk f c) (hl : ULs w w.heap.size A1 [⟨A', c', l⟩]) (ol : UsOk l) :
    Calls Tryz.prog 20 #[.slice A f.length c, .slice A1 1 1] w (Built f l w) := by
  have he : flatR [(⟨A', c', l⟩ : Rw Up)] = l := by simp [flatR]
  have := build_any A c f A1 1 [⟨A', c', l⟩] w hf hfo hl (fun s hs u hu => by
    obtain rfl : s = ⟨A', c', l⟩ := by simpa using hs
    exact ol.ok u hu) (by rw [he]; exact ol.n) (by simp)
  rw [he] at this
  exact this
theorem built_ok {f : List Tm} {l : List Up} (h : bldE f l = 0) : FrontOk f ∧ consE [advL f l] = 0 := by
  unfold bldE at h
  split at h
  · exact ⟨by assumption, h⟩
  · exact absurd h (by decide)
theorem bld_ok {f : List Tm} {l : List Up} (h : FrontOk f) (h' : consE [advL f l] = 0) : bldE f l = 0 := (if_pos h).trans h'
end Go.Proofs.YtllpfngmnccejaaGreat
namespace Go.Proofs.YtllpfngmnccejaaGreat
open Go Go.RowKit

set_option maxRecDepth 100000 in
set_option maxHeartbeats 12800000 in
theorem rcheckM_any (m : Mg) (w : World) (hm : MgIn w w.heap.size m) (hok : MgOk m) :
    Calls Tryz.prog 18 #[m.val] w (Codes (MOk m) 8 w) := by
  obtain ⟨V, hV, hvb, hvs, hvo⟩ := mgbox w m
  have hX := fun p : Past V => own6 (hvo.past p.h hvo.inside)
  have hin := hm.keep hvb
  have hfV := fun p : Past V => (hin.f.past p.h (Nat.le_refl _)).wide p.h.size
  have haV := fun p : Past V => (hin.a.past p.h (Nat.le_refl _)).wide p.h.size
  have hbV := fun p : Past V => (hin.b.past p.h (Nat.le_refl _)).wide p.h.size
  have hoV := fun p : Past V => (hin.o.past p.h (Nat.le_refl _)).wide p.h.size
  obtain ⟨bea, hea⟩ := bool_of (EvenP m.a)
  obtain ⟨beb, heb⟩ := bool_of (EvenP m.b)
  obtain ⟨beo, heo⟩ := bool_of (EvenP m.o)
  obtain ⟨bf, hbf⟩ := bool_of (FrontOk m.f)
  obtain ⟨bad, had⟩ := bool_of (∀ u ∈ m.o, adv u.t m.f = u.t)
  obtain ⟨bda, hda⟩ := bool_of (CutB m.a m.i m.o)
  obtain ⟨bdb, hdb⟩ := bool_of (CutB m.b m.j m.o)
  have n1 := hok.f.n
  have u1 := fun p : Past V => calls_past ((rfront_any m.sA m.sc m.f p.w (hfV p) (by omega)).mono fun x w' h => tells_is hbf h)
  have u2 := fun p : Past V => calls_past ((reven_any m.aA m.ac m.a p.w (haV p) hok.a.ok hok.a.n).mono fun x w' h => tells_is hea h)
  have u3 := fun p : Past V => calls_past ((reven_any m.bA m.bc m.b p.w (hbV p) hok.b.ok hok.b.n).mono fun x w' h => tells_is heb h)
  have u4 := fun p : Past V => calls_past ((reven_any m.oA m.oc m.o p.w (hoV p) hok.o.ok hok.o.n).mono fun x w' h => tells_is heo h)
  have u5 := fun p : Past V => calls_past ((radvanced_any m.oA m.oc m.o m.sA m.sc m.f p.w (hoV p) hok.o.n (hfV p) hok.f).mono fun x w' h => tells_is had h)
  have u6 := fun p : Past V => calls_past ((rcut_any m.aA m.ac m.a m.i m.oA m.oc m.o p.w (haV p) hok.a (hoV p) hok.o hok.i).mono fun x w' h => tells_is hda h)
  have u7 := fun p : Past V => calls_past ((rcut_any m.bA m.bc m.b m.j m.oA m.oc m.o p.w (hbV p) hok.b (hoV p) hok.o hok.j).mono fun x w' h => tells_is hdb h)
  have HB := Lib.hid hvb
  have HE := Lib.hid (show ∀ n : Int, (bf = true ∧ bea = true ∧ beb = true ∧ beo = true ∧ bad = true ∧ bda = true ∧ bdb = true) ∧ n = 0 ∨ ¬ (bf = true ∧ bea = true ∧ beb = true ∧ beo = true ∧ bad = true ∧ bda = true ∧ bdb = true) ∧ n = 8 → MOk m ∧ n = 0 ∨ ¬ MOk m ∧ n = 8 from fun n h => by
    rcases h with ⟨⟨a4, a1, a2, a3, a5, a6, a7⟩, a8⟩ | ⟨a1, a2⟩
    · exact .inl ⟨⟨⟨hea.1 a1, heb.1 a2, heo.1 a3⟩, hbf.1 a4, had.1 a5, (cut_div (hea.1 a1)).1 (hda.1 a6), (cut_div (heb.1 a2)).1 (hdb.1 a7)⟩, a8⟩
    · exact .inr ⟨fun h => a1 ⟨hbf.2 h.front, hea.2 h.even.1, heb.2 h.even.2.1, heo.2 h.even.2.2, had.2 h.advd, hda.2 ((cut_div h.even.1).2 h.da), hdb.2 ((cut_div h.even.2.1).2 h.db)⟩, a2⟩)
  rw [show m.val = .agg #[.slice m.aA m.a.length m.ac, .slice m.bA m.b.length m.bc, .int .i64 m.i, .int .i64 m.j, .slice m.sA m.f.length m.sc, .slice m.oA m.o.length m.oc] from rfl]
  have HP := Lib.hid (show ∀ n x w', (x = Ending.returned (.int .i64 n) ∧ (MOk m ∧ n = 0 ∨ ¬ MOk m ∧ n = 8) ∧ Below w.heap.size w w') → Codes (MOk m) 8 w x w' from fun n x w' h => ⟨n, h⟩)
  clear hm hok hvb hvs hvo hin hfV haV hbV hoV hea heb heo hbf had hda hdb n1
  go_enter Tryz.func18, Tryz.ntmps18
  go_upto_region 1 with fail
  rw [← hV]
  clear hV
  obtain ⟨a0, a1, a2, a3, a4, a5⟩ := hX ⟨V, Below.refl _ _⟩
  dsimp only at a0 a1 a2 a3 a4 a5
  go_wp2_with fail
  refine (u1 ⟨V, Below.refl _ _⟩).mono ?_
  rintro _ _ ⟨rfl, ⟨p0, rfl⟩⟩
  clear a0 a1 a2 a3 a4 a5 u1
  obtain ⟨a0, a1, a2, a3, a4, a5⟩ := hX p0
  cases bf with
  | false =>
    clear hX u2 u3 u4 u5 u6 u7
    go_wp2_with fail
    go_ret
    exact HP.out 8 _ _ ⟨rfl, HE.out _ (.inr ⟨by simp, rfl⟩), HB.out.trans (p0.h.mono HB.out.size)⟩
  | true =>
  go_wp2_with fail
  refine (u2 p0).mono ?_
  rintro _ _ ⟨rfl, ⟨p1, rfl⟩⟩
  clear a0 a1 a2 a3 a4 a5 u2
  obtain ⟨a0, a1, a2, a3, a4, a5⟩ := hX p1
  cases bea with
  | false =>
    clear hX u3 u4 u5 u6 u7
    go_wp2_with fail
    go_ret
    exact HP.out 8 _ _ ⟨rfl, HE.out _ (.inr ⟨by simp, rfl⟩), HB.out.trans (p1.h.mono HB.out.size)⟩
  | true =>
  go_wp2_with fail
  refine (u3 p1).mono ?_
  rintro _ _ ⟨rfl, ⟨p2, rfl⟩⟩
  clear a0 a1 a2 a3 a4 a5 u3
  obtain ⟨a0, a1, a2, a3, a4, a5⟩ := hX p2
  cases beb with
  | false =>
    clear hX u4 u5 u6 u7
    go_wp2_with fail
    go_ret
    exact HP.out 8 _ _ ⟨rfl, HE.out _ (.inr ⟨by simp, rfl⟩), HB.out.trans (p2.h.mono HB.out.size)⟩
  | true =>
  go_wp2_with fail
  refine (u4 p2).mono ?_
  rintro _ _ ⟨rfl, ⟨p3, rfl⟩⟩
  clear a0 a1 a2 a3 a4 a5 u4
  obtain ⟨a0, a1, a2, a3, a4, a5⟩ := hX p3
  cases beo with
  | false =>
    clear hX u5 u6 u7
    go_wp2_with fail
    go_ret
    exact HP.out 8 _ _ ⟨rfl, HE.out _ (.inr ⟨by simp, rfl⟩), HB.out.trans (p3.h.mono HB.out.size)⟩
  | true =>
  go_wp2_with fail
  refine (u5 p3).mono ?_
  rintro _ _ ⟨rfl, ⟨p4, rfl⟩⟩
  clear a0 a1 a2 a3 a4 a5 u5
  obtain ⟨a0, a1, a2, a3, a4, a5⟩ := hX p4
  cases bad with
  | false =>
    clear hX u6 u7
    go_wp2_with fail
    go_ret
    exact HP.out 8 _ _ ⟨rfl, HE.out _ (.inr ⟨by simp, rfl⟩), HB.out.trans (p4.h.mono HB.out.size)⟩
  | true =>
  go_wp2_with fail
  refine (u6 p4).mono ?_
  rintro _ _ ⟨rfl, ⟨p5, rfl⟩⟩
  clear a0 a1 a2 a3 a4 a5 u6
  obtain ⟨a0, a1, a2, a3, a4, a5⟩ := hX p5
  cases bda with
  | false =>
    clear hX u7
    go_wp2_with fail
    go_ret
    exact HP.out 8 _ _ ⟨rfl, HE.out _ (.inr ⟨by simp, rfl⟩), HB.out.trans (p5.h.mono HB.out.size)⟩
  | true =>
  go_wp2_with fail
  refine (u7 p5).mono ?_
  rintro _ _ ⟨rfl, ⟨p6, rfl⟩⟩
  clear a0 a1 a2 a3 a4 a5 u7
  obtain ⟨a0, a1, a2, a3, a4, a5⟩ := hX p6
  cases bdb with
  | false =>
    clear hX 
    go_wp2_with fail
    go_ret
    exact HP.out 8 _ _ ⟨rfl, HE.out _ (.inr ⟨by simp, rfl⟩), HB.out.trans (p6.h.mono HB.out.size)⟩
  | true =>
  go_wp2_with fail
  go_ret
  exact HP.out 0 _ _ ⟨rfl, HE.out _ (.inl (by simp)), HB.out.trans (p6.h.mono HB.out.size)⟩
theorem two_mg (w : World) (a b : Mg) : ∃ V, V = (w.alloc (.cells #[.slice a.aA a.a.length a.ac, .slice a.bA a.b.length a.bc, .int .i64 a.i, .int .i64 a.j, .slice a.sA a.f.length a.sc, .slice a.oA a.o.length a.oc] 25)).alloc (.cells #[.slice b.aA b.a.length b.ac, .slice b.bA b.b.length b.bc, .int .i64 b.i, .int .i64 b.j, .slice b.sA b.f.length b.sc, .slice b.oA b.o.length b.oc] 25) ∧ Below w.heap.size w V ∧ Own V w.heap.size 25 a.cells ∧ Own V (w.heap.size + 1) 25 b.cells := by
  obtain ⟨V1, e1, b1, s1, o1⟩ := mgbox w a
  obtain ⟨V2, e2, b2, s2, o2⟩ := mgbox V1 b
  exact ⟨V2, by rw [e2, e1], b1.trans (b2.mono b1.size), o1.past b2 o1.inside, by rw [← s1]; exact o2⟩
/-- two mergers of one content -/
structure SameM (x y : Mg) : Prop where
  a : x.a.map Up.p = y.a.map Up.p
  b : x.b.map Up.p = y.b.map Up.p
  i : x.i = y.i
  j : x.j = y.j
  f : x.f = y.f
  o : x.o.map Up.p = y.o.map Up.p
set_option maxRecDepth 100000 in
set_option maxHeartbeats 12800000 in
/-- two mergers of one content are told to be one -/
theorem samem_yes (a b : Mg) (w : World) (ha : MgIn w w.heap.size a) (oa : MgOk a) (hb : MgIn w w.heap.size b) (ob : MgOk b) (h : SameM a b) :
    Calls Tryz.prog 15 #[a.val, b.val] w fun x w' => x = .returned (.bool true) ∧ Below w.heap.size w w' := by
  obtain ⟨V, hV, hvb, hv1, hv2⟩ := two_mg w a b
  have hX := fun p : Past V => own6 (hv1.past p.h hv1.inside)
  have hY := fun p : Past V => own6 (hv2.past p.h hv2.inside)
  have hia := ha.keep hvb
  have hib := hb.keep hvb
  have m2 : a.f.length ≤ maxLen := Nat.le_trans oa.f.le oa.f.c_
  have m3 : b.f.length ≤ maxLen := Nat.le_trans ob.f.le ob.f.c_
  have u1 := fun p : Past V => calls_past (sameups_yes a.aA b.aA a.ac b.ac a.a b.a p.w (hia.keep p.h).a (hib.keep p.h).a oa.a ob.a h.a)
  have u2 := fun p : Past V => calls_past (sameups_yes a.bA b.bA a.bc b.bc a.b b.b p.w (hia.keep p.h).b (hib.keep p.h).b oa.b ob.b h.b)
  have u3 := fun p : Past V => calls_past (same_any a.sA b.sA a.sc b.sc a.f b.f p.w (((hia.keep p.h).f)) (((hib.keep p.h).f)) m2 m3)
  have u4 := fun p : Past V => calls_past (sameups_yes a.oA b.oA a.oc b.oc a.o b.o p.w (hia.keep p.h).o (hib.keep p.h).o oa.o ob.o h.o)
  rw [show decide (a.f = b.f) = true from decide_eq_true h.f] at u3
  have t1 : (a.i == b.i) = true := beq_iff_eq.2 h.i
  have t2 : (a.j == b.j) = true := beq_iff_eq.2 h.j
  have HB := Lib.hid hvb
  rw [show a.val = .agg #[.slice a.aA a.a.length a.ac, .slice a.bA a.b.length a.bc, .int .i64 a.i, .int .i64 a.j, .slice a.sA a.f.length a.sc, .slice a.oA a.o.length a.oc] from rfl, show b.val = .agg #[.slice b.aA b.a.length b.ac, .slice b.bA b.b.length b.bc, .int .i64 b.i, .int .i64 b.j, .slice b.sA b.f.length b.sc, .slice b.oA b.o.length b.oc] from rfl]
  clear ha oa hb ob hvb hv1 hv2 hia hib m2 m3 h
  go_enter Tryz.func15, Tryz.ntmps15
  go_upto_region 1 with fail
  rw [← hV]
  clear hV
  obtain ⟨a0, a1, a2, a3, a4, a5⟩ := hX ⟨V, Below.refl _ _⟩
  obtain ⟨b0, b1, b2, b3, b4, b5⟩ := hY ⟨V, Below.refl _ _⟩
  dsimp only at a0 a1 a2 a3 a4 a5 b0 b1 b2 b3 b4 b5
  go_wp2_with fail
  refine (u1 ⟨V, Below.refl _ _⟩).mono ?_
  rintro _ _ ⟨rfl, ⟨p0, rfl⟩⟩
  clear a0 a1 a2 a3 a4 a5 b0 b1 b2 b3 b4 b5 u1
  obtain ⟨a0, a1, a2, a3, a4, a5⟩ := hX p0
  obtain ⟨b0, b1, b2, b3, b4, b5⟩ := hY p0
  go_wp2_with fail
  refine (u2 p0).mono ?_
  rintro _ _ ⟨rfl, ⟨p1, rfl⟩⟩
  clear a0 a1 a2 a3 a4 a5 b0 b1 b2 b3 b4 b5 u2
  obtain ⟨a0, a1, a2, a3, a4, a5⟩ := hX p1
  obtain ⟨b0, b1, b2, b3, b4, b5⟩ := hY p1
  go_wp2_with fail
  refine (u3 p1).mono ?_
  rintro _ _ ⟨rfl, ⟨p2, rfl⟩⟩
  clear a0 a1 a2 a3 a4 a5 b0 b1 b2 b3 b4 b5 u3
  obtain ⟨a0, a1, a2, a3, a4, a5⟩ := hX p2
  obtain ⟨b0, b1, b2, b3, b4, b5⟩ := hY p2
  go_wp2_with fail
  refine (u4 p2).mono ?_
  rintro _ _ ⟨rfl, ⟨p3, rfl⟩⟩
  clear a0 a1 a2 a3 a4 a5 b0 b1 b2 b3 b4 b5 u4
  obtain ⟨a0, a1, a2, a3, a4, a5⟩ := hX p3
  obtain ⟨b0, b1, b2, b3, b4, b5⟩ := hY p3
  go_wp2_with fail
  go_ret
  exact ⟨rfl, HB.out.trans (p3.h.mono HB.out.size)⟩
end Go.Proofs.YtllpfngmnccejaaGreat
namespace Go.Proofs.YtllpfngmnccejaaGreat
open Go Go.RowKit

/-- the cells of a list that lies, one by one -/
theorem lies_cells {α : Type} {size : Nat} {cells : α → List Value} {w : World} {B b o : Nat} {l : List α} (hpos : 0 < size) (hcl : ∀ x, (cells x).length = size) (h : Lies size cells w B (some ⟨b, o, none⟩) l) : ∀ j u, (l.flatMap cells)[j]? = some u → w.cell? ((⟨b, o, none⟩ : Addr).add j) = some u := fun j u hu => by
  obtain ⟨i, r, y, rfl, hi, hr⟩ := flat_back hpos hcl l j u hu
  obtain ⟨b', o', e, _, hc⟩ := h (by have := (List.getElem?_eq_some_iff.1 hi).1; omega)
  simp only [Option.some.injEq, Addr.mk.injEq, and_true] at e
  obtain ⟨rfl, rfl⟩ := e
  have ea : (⟨b, o, none⟩ : Addr).add (i * size + r) = ⟨b, o + i * size + r, none⟩ := by unfold Addr.add; split <;> simp_all <;> omega
  rw [ea]
  exact hc i y hi r u hr
/-- the second type is asked for its kind alone -/
theorem append_types {P : Program} (w : World) {t tx ty e e' : TypeId} {i : TypeInfo} (ht : P.underlying t = some (.slice e)) (htx : P.underlying tx = some (.slice e')) (hi : P.info? e = some i) (ad : Option Addr) (n cap : Nat) (x : Value) : (Builtin.append_ #[t, tx] ty #[.slice ad n cap, x]).run P w = (Builtin.append_ #[t, t] ty #[.slice ad n cap, x]).run P w := by
  simp [Builtin.append_, run_underlying ht, run_underlying htx, sizeOf, typeInfo, hi]
/-- 'append(v, s...)' where there is room -/
theorem wpList_append_room {P : Program} (w : World) {ops : Array Oper} {rest : List Oper} {o : Oper} {a : Act} {Q : Exit → Act → World → Prop} (hgd : o.guard = none) (s x : Operand) (t tx e e' : TypeId)
    (ho : o.op = .call { callee := .builtin .append, args := #[s, x], argTypes := #[t, tx] }) (i0 : TypeInfo) (size : Nat) (ht : P.underlying t = some (.slice e)) (htx : P.underlying tx = some (.slice e')) (hi : P.info? e = some i0) (hsz : i0.size = size)
    (base g n cap m c b off : Nat) (xs cs : List Value) (hown : w.ownsRow base e size (.slice (some ⟨g, 0, none⟩) n cap) n xs) (hs : a.eval s = .slice (some ⟨g, 0, none⟩) n cap) (hx : a.eval x = .slice (some ⟨b, off, none⟩) m c) (hcs : cs.length = m * size) (hroom : n + m ≤ cap)
    (hsrc : ∀ j v, cs[j]? = some v → w.cell? ((⟨b, off, none⟩ : Addr).add j) = some v) (h1 : ∀ v ∈ cs, v.oneCell' = true)
    (h : ∀ w', w'.ownsRow base e size (.slice (some ⟨g, 0, none⟩) (n + m) cap) (n + m) (xs ++ cs) → w.grownBy w' (some g) → wpList P ops Q rest (a.put o.dst (.slice (some ⟨g, 0, none⟩) (n + m) cap)) w') :
    wpList P ops Q (o :: rest) a w := by
  obtain ⟨X, hrun, hB, hG⟩ := run_append_own_spare (P := P) w base t o.type e i0 size ht hi hsz g n cap xs hown ⟨b, off, none⟩ m c cs hcs hsrc h1 hroom
  refine wpList_plain hgd fun K hK => ?_
  unfold Oper.wp execOp
  simp only [ho, resolve, invoke, builtin, Sem.run_bind, Sem.run_pure, Result.andThen_ok, List.map_toArray, List.map_cons, List.map_nil, hs, hx, append_types w ht htx hi, hrun]
  exact hK _ _ (h X hB hG)
/-- 'append(v, s...)', v without room and not the call's own: a new row -/
theorem wpList_append_over {P : Program} (w : World) {ops : Array Oper} {rest : List Oper} {o : Oper} {a : Act} {Q : Exit → Act → World → Prop} (hgd : o.guard = none) (s x : Operand) (t e : TypeId)
    (ho : o.op = .call { callee := .builtin .append, args := #[s, x], argTypes := #[t, t] }) (i0 : TypeInfo) (z : Value) (size bytes : Nat) (ht : P.underlying t = some (.slice e)) (hi : P.info? e = some i0) (hz0 : i0.zero = some z) (hsz : i0.size = size) (hby : i0.bytes = bytes) (hzs : z.cells.size = size) (hpos : 0 < size)
    (b off n cap b' off' m c : Nat) (xs cs : List Value) (hs : a.eval s = .slice (some ⟨b, off, none⟩) n cap) (hx : a.eval x = .slice (some ⟨b', off', none⟩) m c) (hxl : xs.length = n * size) (hxs : ∀ j v, xs[j]? = some v → w.cell? ((⟨b, off, none⟩ : Addr).add j) = some v)
    (hcs : cs.length = m * size) (hsrc : ∀ j v, cs[j]? = some v → w.cell? ((⟨b', off', none⟩ : Addr).add j) = some v) (hroom : cap < n + m) (h63 : n + m ≤ maxLen) (hbytes : (n + m) * bytes ≤ 140737488355328)
    (h : ∀ v' w', w'.ownsRow w.heap.size e size v' (n + m) (xs ++ cs) → Below w.heap.size w w' → wpList P ops Q rest (a.put o.dst v') w') :
    wpList P ops Q (o :: rest) a w := by
  obtain ⟨v', X, hrun, hB, hG⟩ := run_append_arg_grows (P := P) w t o.type e i0 z size bytes ht hi hz0 hsz hby hzs hpos ⟨b, off, none⟩ n cap xs hxl hxs ⟨b', off', none⟩ m c cs hcs hsrc hroom h63 hbytes
  refine wpList_plain hgd fun K hK => ?_
  unfold Oper.wp execOp
  simp only [ho, resolve, invoke, builtin, Sem.run_bind, Sem.run_pure, Result.andThen_ok, List.map_toArray, List.map_cons, List.map_nil, hs, hx, hrun]
  exact hK _ _ (h v' X hB ((Below.refl _ _).grown hG (Nat.le_refl _) (fun k h => by cases h)))
end Go.Proofs.YtllpfngmnccejaaGreat
namespace Go.Proofs.YtllpfngmnccejaaGreat
open Go Go.RowKit

/-- all that was there but blocks P and g is as it was -/
structure Fr (w w' : World) (P g : Nat) : Prop where
  os : w'.os = w.os
  tape : w'.tape = w.tape
  output : w'.output = w.output
  size : w.heap.size ≤ w'.heap.size
  block : ∀ k, k < w.heap.size → k ≠ P → k ≠ g → w'.heap[k]? = w.heap[k]?
theorem Fr.refl (w : World) (P g : Nat) : Fr w w P g := ⟨rfl, rfl, rfl, Nat.le_refl _, fun _ _ _ _ => rfl⟩
theorem Fr.trans {a b c : World} {P g : Nat} (h : Fr a b P g) (k : Fr b c P g) : Fr a c P g := ⟨k.os.trans h.os, k.tape.trans h.tape, k.output.trans h.output, Nat.le_trans h.size k.size, fun i h0 h1 h2 => (k.block i (Nat.lt_of_lt_of_le h0 h.size) h1 h2).trans (h.block i h0 h1 h2)⟩
theorem Fr.below {w w' : World} {P g B : Nat} (h : Fr w w' P g) (hP : B ≤ P) (hg : B ≤ g) (hB : B ≤ w.heap.size) : Below B w w' := ⟨h.os, h.tape, h.output, h.size, fun k hk => h.block k (by omega) (by omega) (by omega)⟩
/-- rows copied so far: in block g, told by the variable P -/
structure Rws (w : World) (P g n cap base : Nat) (xs : List Value) : Prop where
  var : Own w P 147 [.slice (some ⟨g, 0, none⟩) n cap]
  row : w.ownsRow base 50 3 (.slice (some ⟨g, 0, none⟩) n cap) n xs
  ne : g ≠ P
theorem ret_sub {A : Option Addr} {m n c : Nat} (h : m = n) : Ending.returned (.slice A m c) = .returned (.slice A n c) := by rw [h]
def Rowed (r : List Vl) (P g n cap base : Nat) (xs : List Value) (w : World) (x : Ending) (w' : World) : Prop :=
  ∃ A c, x = .returned (.slice A r.length c) ∧ (0 < r.length → A = some ⟨g, n * 3, none⟩) ∧ (r = [] → A = none) ∧ Rws w' P g (n + r.length) cap base (xs ++ r.flatMap Vl.cells) ∧ Fr w w' P g
set_option maxRecDepth 100000 in
set_option maxHeartbeats 3200000 in
theorem rowcopy_any (P g n cap base : Nat) (xs : List Value) (A : Option Addr) (c : Nat) (r : List Vl) (w : World) (hr : Rws w P g n cap base xs) (hl : Vals w w.heap.size A r) (hn : n + r.length ≤ cap) (hc : cap ≤ 140737488351232) :
    Calls Tryz.prog 87 #[.pointer (some ⟨P, 0, none⟩), .slice A r.length c] w (Rowed r P g n cap base xs w) := by
  obtain ⟨i0, hi, hz0, hz1, hz2⟩ := info_parts infoVl
  have HI := Lib.hid (And.intro Tryz.underlying147 (And.intro hi hz1))
  by_cases h0 : r = []
  · subst h0
    have HR := Lib.hid hr
    clear hr hl hn hi hz0 hz1 hz2
    go_enter Tryz.func87, Tryz.ntmps87
    go_wp2_with fail
    go_ret
    exact ⟨none, 0, rfl, fun h => absurd h (by simp), fun _ => rfl, by simpa using HR.out, Fr.refl _ _ _⟩
  have hp : 0 < r.length := List.length_pos_iff.2 h0
  obtain ⟨b, o, rfl, hB, hv⟩ := hl hp
  have t0 : ((r.length : Int) == 0) = false := beq_eq_false_iff_ne.2 (by omega)
  have c0 := hr.var.at_ 0
  have f0 := hr.var.open_ 0
  simp only [List.getElem?_cons_zero] at c0
  have hsrc := Lib.hid (lies_cells (size := 3) (cells := Vl.cells) (by decide) (fun _ => rfl) (lies_of_vals hl))
  have HR := Lib.hid (And.intro hr h0)
  clear hr hl hv hi hz0 hz1 hz2 h0
  go_enter Tryz.func87, Tryz.ntmps87
  go_wp2_with (at_builtin; refine wpList_append_room _ rfl (.tmp 16) (.tmp 17) 147 42 50 50 rfl i0 3 HI.out.1 Tryz.underlying42 HI.out.2.1 HI.out.2.2 base g n cap r.length c b o xs (r.flatMap Vl.cells) HR.out.1.row rfl rfl ?m1 hn hsrc.out ?m2 ?m3)
  case m1 => exact flat_size (size := 3) (cells := Vl.cells) (fun _ => rfl) r
  case m2 => exact fun v hv => (by obtain ⟨x, _, hx⟩ := List.mem_flatMap.1 hv; exact vl_one x v hx)
  intro w1 ho1 hg1
  have hvar : Own w1 P 147 [.slice (some ⟨g, 0, none⟩) n cap] := (hg1.block P HR.out.1.var.inside (by simp; exact fun h => HR.out.1.ne h.symm)).trans HR.out.1.var
  have c1 := hvar.at_ 0
  have f1 := hvar.open_ 0
  simp only [List.getElem?_cons_zero] at c1
  have hg1' := hg1
  have H1 := Lib.hid (And.intro ho1 (And.intro hg1 hvar))
  clear ho1 hg1 hvar c0 f0
  have hvs := H1.out.2.2.set_ 0 (.slice (some ⟨g, 0, none⟩) (n + r.length) cap)
  have hfrm : Fr w (w1.setCell ⟨P, 0, none⟩ (.slice (some ⟨g, 0, none⟩) (n + r.length) cap)) P g := ⟨hg1'.os, hg1'.tape, hg1'.output, by simpa [World.setCell] using hg1'.size, fun k h0 h1 h2 => (Below.heap_setCell w1 ⟨P, 0, none⟩ _ k h1).trans (hg1'.block k h0 (by simp; exact h2))⟩
  obtain ⟨V, hV⟩ : ∃ V, V = w1.setCell ⟨P, 0, none⟩ (.slice (some ⟨g, 0, none⟩) (n + r.length) cap) := ⟨_, rfl⟩
  rw [← hV] at hvs hfrm
  have c2 := hvs.at_ 0
  simp only [List.set_cons_zero, List.getElem?_cons_zero] at c2
  have hrow : V.ownsRow base 50 3 (.slice (some ⟨g, 0, none⟩) (n + r.length) cap) (n + r.length) (xs ++ r.flatMap Vl.cells) := by
    rw [hV]
    refine World.ownsRow.kept (row := some P) H1.out.1 ⟨rfl, rfl, rfl, by simp [World.setCell], fun k _ hne => Below.heap_setCell w1 ⟨P, 0, none⟩ _ k (by simpa using hne)⟩ (.inr ?_)
    exact fun h => HR.out.1.ne (by simpa [Value.ownBlock] using h)
  have HV := Lib.hid (And.intro hvs (And.intro hfrm hrow))
  have q0 : (0 : Int) ≤ (n : Int) := by omega
  have q1 : (n : Int) ≤ ((n + r.length : Nat) : Int) := by omega
  have q2 : ((n + r.length : Nat) : Int) ≤ (cap : Int) := by omega
  clear hvs hfrm hg1' hrow
  go_upto_region 5 with fail
  rw [← hV]
  clear hV c1 f1
  go_quiet (fail)
  go_wp2_with fail
  go_ret
  exact ⟨_, _, ret_sub (Nat.add_sub_cancel_left n r.length), fun _ => rfl, fun h => absurd h HR.out.2, ⟨HV.out.1, HV.out.2.2, HR.out.1.ne⟩, ⟨HV.out.2.1.os, HV.out.2.1.tape, HV.out.2.1.output, HV.out.2.1.size, HV.out.2.1.block⟩⟩
end Go.Proofs.YtllpfngmnccejaaGreat
namespace Go.Proofs.YtllpfngmnccejaaGreat
open Go Go.RowKit

/-- how many values the rows of updates have -/
def wide : List Up → Nat
  | [] => 0
  | u :: l => (u.key.length + u.row.length) + wide l
theorem wide_snoc {l : List Up} {k : Nat} {u : Up} (h : l[k]? = some u) : wide (l.take (k + 1)) = wide (l.take k) + (u.key.length + u.row.length) := by
  induction l generalizing k with
  | nil => simp at h
  | cons x l ih =>
    cases k with
    | zero =>
      obtain rfl : x = u := by simpa using h
      simp [wide]
    | succ k =>
      rw [List.take_succ_cons, List.take_succ_cons]
      unfold wide
      rw [ih (by simpa using h)]
      omega
theorem wide_le : ∀ {l : List Up}, chkUs l = 0 → wide l ≤ l.length * 16
  | [], _ => Nat.zero_le _
  | u :: l, h => by
    have h1 := chkUs_all.1 h u (by simp)
    have h2 := wide_le (l := l) (chkUs_all.2 fun x hx => chkUs_all.1 h x (by simp [hx]))
    obtain ⟨a, b, _⟩ := chkK_zero h1
    have k1 := (chkRow_zero a).2
    have k2 := (chkRow_zero b).2
    have k1 : u.key.length ≤ 8 := k1
    have k2 : u.row.length ≤ 8 := k2
    unfold wide
    rw [List.length_cons]
    omega
theorem wide_take (l : List Up) (k : Nat) : wide (l.take k) ≤ wide l := by
  induction l generalizing k with
  | nil => simp
  | cons x l ih =>
    cases k with
    | zero => simp [wide]
    | succ k => rw [List.take_succ_cons]; unfold wide; have := ih k; omega
/-- a list whose block is known whole, and holds none of its rows -/
def RowOwn (w : World) (A : Option Addr) (l : List Up) : Prop := (l = [] → A = none) ∧ (0 < l.length → ∃ G, A = some ⟨G, 0, none⟩ ∧ Own w G 48 (l.flatMap Up.cells) ∧ ∀ u ∈ l, ∀ b o, (u.kA = some (⟨b, o, none⟩ : Addr) ∨ u.rA = some (⟨b, o, none⟩ : Addr)) → b ≠ G)
/-- a copy: the same told, in memory of its own -/
def CopyUps (l : List Up) (w : World) (x : Ending) (w' : World) : Prop :=
  ∃ A, ∃ outL : List Up, x = .returned (.slice A outL.length outL.length) ∧ outL.map Up.p = l.map Up.p ∧ Ups w' w'.heap.size A outL ∧ (∀ u ∈ outL, UOk u) ∧ Lo w.heap.size A outL ∧ Below w.heap.size w w' ∧ RowOwn w' A outL
set_option maxRecDepth 100000 in
set_option maxHeartbeats 12800000 in
/-- the variable that was made ahead of a call -/
theorem var_s1 {w0 w1 : World} (b1 : Below (w0.drew.alloc (.cells #[.slice none 0 0] 147)).heap.size (w0.drew.alloc (.cells #[.slice none 0 0] 147)) w1) : Own w1 w0.heap.size 147 [.slice none 0 0] := (Own.made w0.drew 147 [.slice none 0 0]).past b1 (by simp)
theorem var_s3 {w0 w1 : World} {o : Obj} (b1 : Below ((w0.drew.alloc (.cells #[.slice none 0 0] 147)).alloc o).heap.size ((w0.drew.alloc (.cells #[.slice none 0 0] 147)).alloc o) w1) : Own w1 w0.heap.size 147 [.slice none 0 0] := ((Own.made w0.drew 147 [.slice none 0 0]).more o).past b1 (by simp; omega)
theorem own_next {w : World} {N : Nat} {t : TypeId} {l : List Value} (hN : w.heap.size = N) : Own (w.alloc (.cells l.toArray t)) N t l := by subst hN; exact Own.made w t l
theorem var_s4 {w0 w1 : World} {o : Obj} (b1 : Below ((w0.drew.alloc o).alloc (.cells #[.slice none 0 0] 147)).heap.size ((w0.drew.alloc o).alloc (.cells #[.slice none 0 0] 147)) w1) : Own w1 (w0.heap.size + 1) 147 [.slice none 0 0] := (own_next (w := w0.drew.alloc o) (l := [.slice none 0 0]) (t := 147) (by simp)).past b1 (by simp)
theorem make_rows (n : Nat) (hn : n ≤ 4398046511104) : ∃ z : List Value, z.length = n * 3 ∧ ∀ W : World, (Instr.makeSlice 147 (.int .i64 0) (.int .i64 (n : Int))).run Tryz.prog W = .ok (.slice (some ⟨W.heap.size, 0, none⟩) 0 n) (W.alloc (.cells z.toArray 50)) := by
  obtain ⟨i0, hi, hz0, hz1, hz2⟩ := info_parts infoVl
  have hU := Tryz.underlying147
  refine ⟨(madeCells (Value.agg #[.bool false, .int .i64 0, .string ⟨#[]⟩]).cells (n * i0.size)).toList, ?_, fun W => by
    have hr := run_make (P := Tryz.prog) W _ _ i0 _ hU hi hz0 .i64 .i64 0 n (Int.le_refl _) (by omega) (by rw [hz2]; omega) (by omega)
    simp only [Int.toNat_zero, Int.toNat_natCast] at hr
    rw [Array.toArray_toList]
    exact hr⟩
  rw [Array.length_toList, size_madeCells, hz1]
/-- what the head of a copy has made: the list's block, the variable, the room for the rows -/
structure Mk (w X : World) (l : List Up) (B1 : Option Addr) (P g n : Nat) : Prop where
  rows : Rws X P g 0 n w.heap.size []
  nil_ : l = [] → B1 = none
  list : 0 < l.length → ∃ G, B1 = some ⟨G, 0, none⟩ ∧ w.heap.size ≤ G ∧ G ≠ P ∧ G ≠ g ∧ Own X G 48 (l.flatMap Up.cells)
  p_ : w.heap.size ≤ P
  g_ : w.heap.size ≤ g
  below : Below w.heap.size w X
theorem mk_gen {w X : World} {l : List Up} {B1 : Option Addr} {P g G n : Nat} {Z : List Value} (hZ : Z.length = n * 3) (hn : n ≤ 4398046511104) (hP : Own X P 147 [.slice (some ⟨g, 0, none⟩) 0 n]) (hg : Own X g 50 Z) (hne : g ≠ P) (hPb : w.heap.size ≤ P) (hgb : w.heap.size ≤ g) (hGb : w.heap.size ≤ G) (hnil : l = [] → B1 = none)
    (hl : 0 < l.length → B1 = some ⟨G, 0, none⟩ ∧ G ≠ P ∧ G ≠ g ∧ Own X G 48 (l.flatMap Up.cells)) (hb : Below w.heap.size w X) : Mk w X l B1 P g n :=
  ⟨⟨hP, ⟨by simp, .inr ⟨g, n, Z.toArray, rfl, hgb, hg, Nat.zero_le _, by unfold maxLen; omega, by simpa using hZ, by simp⟩⟩, hne⟩, hnil, fun h => ⟨G, (hl h).1, hGb, (hl h).2⟩, hPb, hgb, hb⟩
section
variable {w w0 w1 : World} {l : List Up} {B1 : Option Addr} {n : Nat} {Z : List Value}
theorem mkF1 (hZ : Z.length = n * 3) (hn : n ≤ 4398046511104) (HB : Below w.heap.size w w0) (hb1 : Bl w0 w1) (b1 : Below w0.drew.heap.size w0.drew w1) (hnil : l = [] → B1 = none ∧ w1 = w0.drew) (hown : 0 < l.length → B1 = some ⟨w0.drew.heap.size, 0, none⟩ ∧ Own w1 w0.drew.heap.size 48 (l.flatMap Up.cells)) :
    Mk w ((w1.alloc (.cells Z.toArray 50)).alloc (.cells #[.slice (some ⟨w1.heap.size, 0, none⟩) 0 n] 147)) l B1 (w1.heap.size + 1) w1.heap.size n := by
  have s1 := HB.size
  have s2 : w0.heap.size ≤ w1.heap.size := hb1.below.size
  have s3 := b1.size
  simp at s3
  have hbm : Bm w.heap.size w w1 := HB.trans (hb1.below.mono HB.size)
  refine mk_gen (G := w0.heap.size) hZ hn (own_next (w := w1.alloc (.cells Z.toArray 50)) (l := [.slice (some ⟨w1.heap.size, 0, none⟩) 0 n]) (by simp)) ((Own.made w1 _ Z).more _) (by omega) (by omega) (by omega) (by omega) (fun h => (hnil h).1) (fun h => ?_) ?_
  · have k : Own w1 w0.heap.size 48 (l.flatMap Up.cells) := by simpa using (hown h).2
    have hin := k.inside
    exact ⟨by simpa using (hown h).1, by omega, by omega, ((k.more _).more _)⟩
  · show Bm w.heap.size w _
    repeat (first | exact hbm | refine Bm.set ?_ (by omega) _ _ | refine Bm.more ?_ (Nat.le_refl _) _ | refine Bm.drew ?_)
theorem mkF2 (hZ : Z.length = n * 3) (hn : n ≤ 4398046511104) (HB : Below w.heap.size w w0) (hb1 : Bl w0 w1) (b1 : Below w0.drew.heap.size w0.drew w1) (hnil : l = [] → B1 = none ∧ w1 = w0.drew) (hown : 0 < l.length → B1 = some ⟨w0.drew.heap.size, 0, none⟩ ∧ Own w1 w0.drew.heap.size 48 (l.flatMap Up.cells)) :
    Mk w ((w1.alloc (.cells #[.slice (some ⟨w1.heap.size + 1, 0, none⟩) 0 n] 147)).alloc (.cells Z.toArray 50)) l B1 w1.heap.size (w1.heap.size + 1) n := by
  have s1 := HB.size
  have s2 : w0.heap.size ≤ w1.heap.size := hb1.below.size
  have s3 := b1.size
  simp at s3
  have hbm : Bm w.heap.size w w1 := HB.trans (hb1.below.mono HB.size)
  refine mk_gen (G := w0.heap.size) hZ hn ((Own.made w1 _ [.slice (some ⟨w1.heap.size + 1, 0, none⟩) 0 n]).more _) (own_next (w := w1.alloc (.cells #[.slice (some ⟨w1.heap.size + 1, 0, none⟩) 0 n] 147)) (l := Z) (by simp)) (by omega) (by omega) (by omega) (by omega) (fun h => (hnil h).1) (fun h => ?_) ?_
  · have k : Own w1 w0.heap.size 48 (l.flatMap Up.cells) := by simpa using (hown h).2
    have hin := k.inside
    exact ⟨by simpa using (hown h).1, by omega, by omega, ((k.more _).more _)⟩
  · show Bm w.heap.size w _
    repeat (first | exact hbm | refine Bm.set ?_ (by omega) _ _ | refine Bm.more ?_ (Nat.le_refl _) _ | refine Bm.drew ?_)
theorem mkF3 (hZ : Z.length = n * 3) (hn : n ≤ 4398046511104) (HB : Below w.heap.size w w0) (hb1 : Bl w0 w1) (b1 : Below (w0.alloc (.cells Z.toArray 50)).drew.heap.size (w0.alloc (.cells Z.toArray 50)).drew w1) (hnil : l = [] → B1 = none ∧ w1 = (w0.alloc (.cells Z.toArray 50)).drew) (hown : 0 < l.length → B1 = some ⟨(w0.alloc (.cells Z.toArray 50)).drew.heap.size, 0, none⟩ ∧ Own w1 (w0.alloc (.cells Z.toArray 50)).drew.heap.size 48 (l.flatMap Up.cells)) :
    Mk w (w1.alloc (.cells #[.slice (some ⟨w0.heap.size, 0, none⟩) 0 n] 147)) l B1 w1.heap.size w0.heap.size n := by
  have s1 := HB.size
  have s2 : w0.heap.size ≤ w1.heap.size := hb1.below.size
  have s3 := b1.size
  simp at s3
  have hbm : Bm w.heap.size w w1 := HB.trans (hb1.below.mono HB.size)
  refine mk_gen (G := (w0.heap.size + 1)) hZ hn (Own.made w1 _ [.slice (some ⟨w0.heap.size, 0, none⟩) 0 n]) (((own_drew' (Own.made w0 _ Z)).past b1 (by simp)).more _) (by omega) (by omega) (by omega) (by omega) (fun h => (hnil h).1) (fun h => ?_) ?_
  · have k : Own w1 (w0.heap.size + 1) 48 (l.flatMap Up.cells) := by simpa using (hown h).2
    have hin := k.inside
    exact ⟨by simpa using (hown h).1, by omega, by omega, (k.more _)⟩
  · show Bm w.heap.size w _
    repeat (first | exact hbm | refine Bm.set ?_ (by omega) _ _ | refine Bm.more ?_ (Nat.le_refl _) _ | refine Bm.drew ?_)
theorem mkF4 (hZ : Z.length = n * 3) (hn : n ≤ 4398046511104) (HB : Below w.heap.size w w0) (hb1 : Bl w0 w1) (b1 : Below ((w0.alloc (.cells Z.toArray 50)).alloc (.cells #[.slice none 0 0] 147)).drew.heap.size ((w0.alloc (.cells Z.toArray 50)).alloc (.cells #[.slice none 0 0] 147)).drew w1) (hnil : l = [] → B1 = none ∧ w1 = ((w0.alloc (.cells Z.toArray 50)).alloc (.cells #[.slice none 0 0] 147)).drew) (hown : 0 < l.length → B1 = some ⟨((w0.alloc (.cells Z.toArray 50)).alloc (.cells #[.slice none 0 0] 147)).drew.heap.size, 0, none⟩ ∧ Own w1 ((w0.alloc (.cells Z.toArray 50)).alloc (.cells #[.slice none 0 0] 147)).drew.heap.size 48 (l.flatMap Up.cells)) :
    Mk w (w1.setCell ⟨w0.heap.size + 1, 0, none⟩ (.slice (some ⟨w0.heap.size, 0, none⟩) 0 n)) l B1 (w0.heap.size + 1) w0.heap.size n := by
  have s1 := HB.size
  have s2 : w0.heap.size ≤ w1.heap.size := hb1.below.size
  have s3 := b1.size
  simp at s3
  have hbm : Bm w.heap.size w w1 := HB.trans (hb1.below.mono HB.size)
  refine mk_gen (G := (w0.heap.size + 2)) hZ hn (((own_drew' (own_next (w := w0.alloc (.cells Z.toArray 50)) (l := [.slice none 0 0]) (t := 147) (N := w0.heap.size + 1) (by simp))).past b1 (by simp)).set_ 0 _) (((own_drew' ((Own.made w0 _ Z).more _)).past b1 (by simp; omega)).other (p := ⟨w0.heap.size + 1, 0, none⟩) (by simp) _) (by omega) (by omega) (by omega) (by omega) (fun h => (hnil h).1) (fun h => ?_) ?_
  · have k : Own w1 (w0.heap.size + 2) 48 (l.flatMap Up.cells) := by simpa using (hown h).2
    have hin := k.inside
    exact ⟨by simpa using (hown h).1, by omega, by omega, (k.other (p := ⟨w0.heap.size + 1, 0, none⟩) (by simp) _)⟩
  · show Bm w.heap.size w _
    repeat (first | exact hbm | refine Bm.set ?_ (by omega) _ _ | refine Bm.more ?_ (Nat.le_refl _) _ | refine Bm.drew ?_)
theorem mkF5 (hZ : Z.length = n * 3) (hn : n ≤ 4398046511104) (HB : Below w.heap.size w w0) (hb1 : Bl w0 w1) (b1 : Below (w0.alloc (.cells #[.slice none 0 0] 147)).drew.heap.size (w0.alloc (.cells #[.slice none 0 0] 147)).drew w1) (hnil : l = [] → B1 = none ∧ w1 = (w0.alloc (.cells #[.slice none 0 0] 147)).drew) (hown : 0 < l.length → B1 = some ⟨(w0.alloc (.cells #[.slice none 0 0] 147)).drew.heap.size, 0, none⟩ ∧ Own w1 (w0.alloc (.cells #[.slice none 0 0] 147)).drew.heap.size 48 (l.flatMap Up.cells)) :
    Mk w ((w1.alloc (.cells Z.toArray 50)).setCell ⟨w0.heap.size, 0, none⟩ (.slice (some ⟨w1.heap.size, 0, none⟩) 0 n)) l B1 w0.heap.size w1.heap.size n := by
  have s1 := HB.size
  have s2 : w0.heap.size ≤ w1.heap.size := hb1.below.size
  have s3 := b1.size
  simp at s3
  have hbm : Bm w.heap.size w w1 := HB.trans (hb1.below.mono HB.size)
  refine mk_gen (G := (w0.heap.size + 1)) hZ hn ((((own_drew' (Own.made w0 _ [.slice none 0 0])).past b1 (by simp)).more _).set_ 0 _) ((Own.made w1 _ Z).other (p := ⟨w0.heap.size, 0, none⟩) (by simp; omega) _) (by omega) (by omega) (by omega) (by omega) (fun h => (hnil h).1) (fun h => ?_) ?_
  · have k : Own w1 (w0.heap.size + 1) 48 (l.flatMap Up.cells) := by simpa using (hown h).2
    have hin := k.inside
    exact ⟨by simpa using (hown h).1, by omega, by omega, ((k.more _).other (p := ⟨w0.heap.size, 0, none⟩) (by simp) _)⟩
  · show Bm w.heap.size w _
    repeat (first | exact hbm | refine Bm.set ?_ (by omega) _ _ | refine Bm.more ?_ (Nat.le_refl _) _ | refine Bm.drew ?_)
theorem mkF6 (hZ : Z.length = n * 3) (hn : n ≤ 4398046511104) (HB : Below w.heap.size w w0) (hb1 : Bl w0 w1) (b1 : Below ((w0.alloc (.cells #[.slice none 0 0] 147)).alloc (.cells Z.toArray 50)).drew.heap.size ((w0.alloc (.cells #[.slice none 0 0] 147)).alloc (.cells Z.toArray 50)).drew w1) (hnil : l = [] → B1 = none ∧ w1 = ((w0.alloc (.cells #[.slice none 0 0] 147)).alloc (.cells Z.toArray 50)).drew) (hown : 0 < l.length → B1 = some ⟨((w0.alloc (.cells #[.slice none 0 0] 147)).alloc (.cells Z.toArray 50)).drew.heap.size, 0, none⟩ ∧ Own w1 ((w0.alloc (.cells #[.slice none 0 0] 147)).alloc (.cells Z.toArray 50)).drew.heap.size 48 (l.flatMap Up.cells)) :
    Mk w (w1.setCell ⟨w0.heap.size, 0, none⟩ (.slice (some ⟨w0.heap.size + 1, 0, none⟩) 0 n)) l B1 w0.heap.size (w0.heap.size + 1) n := by
  have s1 := HB.size
  have s2 : w0.heap.size ≤ w1.heap.size := hb1.below.size
  have s3 := b1.size
  simp at s3
  have hbm : Bm w.heap.size w w1 := HB.trans (hb1.below.mono HB.size)
  refine mk_gen (G := (w0.heap.size + 2)) hZ hn (((own_drew' ((Own.made w0 _ [.slice none 0 0]).more _)).past b1 (by simp; omega)).set_ 0 _) (((own_drew' (own_next (w := w0.alloc (.cells #[.slice none 0 0] 147)) (l := Z) (t := 50) (N := w0.heap.size + 1) (by simp))).past b1 (by simp)).other (p := ⟨w0.heap.size, 0, none⟩) (by simp) _) (by omega) (by omega) (by omega) (by omega) (fun h => (hnil h).1) (fun h => ?_) ?_
  · have k : Own w1 (w0.heap.size + 2) 48 (l.flatMap Up.cells) := by simpa using (hown h).2
    have hin := k.inside
    exact ⟨by simpa using (hown h).1, by omega, by omega, (k.other (p := ⟨w0.heap.size, 0, none⟩) (by simp) _)⟩
  · show Bm w.heap.size w _
    repeat (first | exact hbm | refine Bm.set ?_ (by omega) _ _ | refine Bm.more ?_ (Nat.le_refl _) _ | refine Bm.drew ?_)
end
/-- a row lies in block g, among the cells xs -/
structure InBlock (xs : List Value) (g : Nat) (A : Option Addr) (r : List Vl) : Prop where
  at_ : 0 < r.length → ∃ i, A = some ⟨g, i * 3, none⟩ ∧ ∀ j v, r[j]? = some v → ∀ q u, v.cells[q]? = some u → xs[i * 3 + j * 3 + q]? = some u
  far : ∀ b o, A = some (⟨b, o, none⟩ : Addr) → b = g
theorem InBlock.more {xs : List Value} {g : Nat} {A : Option Addr} {r : List Vl} (h : InBlock xs g A r) (ys : List Value) : InBlock (xs ++ ys) g A r :=
  ⟨fun hp => by
    obtain ⟨i, e, hc⟩ := h.at_ hp
    exact ⟨i, e, fun j v hj q u hq => by
      have := hc j v hj q u hq
      rw [List.getElem?_append_left (List.getElem?_eq_some_iff.1 this).1]
      exact this⟩, h.far⟩
theorem inblock_new {xs : List Value} {n g : Nat} {A : Option Addr} {r : List Vl} (hx : xs.length = n * 3) (h1 : 0 < r.length → A = some ⟨g, n * 3, none⟩) (h2 : r = [] → A = none) : InBlock (xs ++ r.flatMap Vl.cells) g A r :=
  ⟨fun hp => ⟨n, h1 hp, fun j v hj q u hq => by
    rw [List.getElem?_append_right (by omega), hx, show n * 3 + j * 3 + q - n * 3 = j * 3 + q by omega]
    exact flat_of (size := 3) (cells := Vl.cells) (fun _ => rfl) r j q v u hj hq⟩, fun b o e => by
    by_cases hp : 0 < r.length
    · rw [h1 hp] at e
      simp only [Option.some.injEq, Addr.mk.injEq, and_true] at e
      exact e.1.symm
    · rw [h2 (List.eq_nil_of_length_eq_zero (by omega))] at e
      cases e⟩
theorem InBlock.vals {xs : List Value} {g n cap base : Nat} {A : Option Addr} {r : List Vl} {w : World} (h : InBlock xs g A r) (hr : w.ownsRow base 50 3 (.slice (some ⟨g, 0, none⟩) n cap) n xs) : Vals w w.heap.size A r := fun hp => by
  obtain ⟨i, rfl, hc⟩ := h.at_ hp
  have hin : g < w.heap.size := (hr.lt g rfl).2
  have hk : ∀ (j : Nat) (v : Vl) (q : Nat) (u : Value), r[j]? = some v → v.cells[q]? = some u → w.cell? ⟨g, i * 3 + j * 3 + q, none⟩ = some u := fun j v q u hj hq => by
    have h1 := hc j v hj q u hq
    have hlt : i * 3 + j * 3 + q < n * 3 := by have := (List.getElem?_eq_some_iff.1 h1).1; rw [hr.1] at this; exact this
    rw [hr.cellAt _ hlt]
    exact h1
  exact ⟨g, i * 3, rfl, hin, fun j v hj => ⟨hk j v 0 _ hj rfl, hk j v 1 _ hj rfl, hk j v 2 _ hj rfl⟩⟩
def rowsOf (l : List Up) : List Value := l.flatMap fun u => u.key.flatMap Vl.cells ++ u.row.flatMap Vl.cells
theorem rowsOf_snoc {l : List Up} {k : Nat} {u : Up} (h : l[k]? = some u) : rowsOf (l.take (k + 1)) = rowsOf (l.take k) ++ u.key.flatMap Vl.cells ++ u.row.flatMap Vl.cells := by
  unfold rowsOf
  rw [List.take_add_one, h, List.flatMap_append]
  simp
/-- so far -/
structure Cpd (w wr : World) (l : List Up) (P g n G k : Nat) (done : List Up) : Prop where
  len : done.length = k
  p_ : done.map Up.p = (l.take k).map Up.p
  own : Own wr G 48 ((done ++ l.drop k).flatMap Up.cells)
  rows : Rws wr P g (wide (l.take k)) n w.heap.size (rowsOf (l.take k))
  in_ : ∀ u ∈ done, InBlock (rowsOf (l.take k)) g u.kA u.key ∧ InBlock (rowsOf (l.take k)) g u.rA u.row
  below : Below w.heap.size w wr
theorem Rws.drew {w : World} {P g n cap base : Nat} {xs : List Value} (h : Rws w P g n cap base xs) : Rws w.drew P g n cap base xs := ⟨h.var, h.row, h.ne⟩
theorem Rws.past {w w' : World} {P g n cap base : Nat} {xs : List Value} (h : Rws w P g n cap base xs) (hb : Below w.heap.size w w') : Rws w' P g n cap base xs := ⟨h.var.past hb h.var.inside, own_below h.row hb, h.ne⟩
theorem Fr.own {w w' : World} {P g k : Nat} {t : TypeId} {l : List Value} (h : Fr w w' P g) (ho : Own w k t l) (hP : k ≠ P) (hg : k ≠ g) : Own w' k t l := (h.block k ho.inside hP hg).trans ho
theorem done_at {l done : List Up} {k : Nat} {u u' : Up} (hl : done.length = k) (h : l[k]? = some u) : (done ++ l.drop k)[k]? = some u ∧ (done ++ l.drop k).set k u' = done ++ [u'] ++ l.drop (k + 1) := by
  obtain ⟨hk, rfl⟩ := List.getElem?_eq_some_iff.1 h
  constructor
  · rw [List.getElem?_append_right (by omega), hl, Nat.sub_self, List.getElem?_drop, Nat.add_zero, List.getElem?_eq_getElem hk]
  · rw [List.set_append_right _ _ (by omega), hl, Nat.sub_self, List.drop_eq_getElem_cons hk, List.set_cons_zero]
    simp
theorem copy_p {l done : List Up} {k : Nat} {u : Up} {kA' rA' : Option Addr} {kc' rc' : Nat} (h : l[k]? = some u) (hd : done.map Up.p = (l.take k).map Up.p) : (done ++ [{ u with kA := kA', kc := kc', rA := rA', rc := rc' }]).map Up.p = (l.take (k + 1)).map Up.p := by
  rw [List.take_add_one, h, List.map_append, List.map_append, hd]
  rfl
theorem uok_p {x y : Up} (h : x.p = y.p) (hx : UOk x) : UOk y := by
  obtain ⟨a, b, _, d⟩ := up_p h
  exact ⟨a ▸ hx.kn, b ▸ hx.rn, a ▸ hx.ks, b ▸ hx.rs, d ▸ hx.dn⟩
set_option maxRecDepth 100000 in
set_option maxHeartbeats 12800000 in
theorem copyUps_any (A : Option Addr) (c : Nat) (l : List Up) (w : World) (hl : Ups w w.heap.size A l) (hok : UsOk l) (h8 : chkUs l = 0) (hn : l.length ≤ 274877906944) :
    Calls Tryz.prog 38 #[.slice A l.length c] w (CopyUps l w) := by
  have hwd := wide_le h8
  have HL := Lib.hid (And.intro hl (And.intro hok h8))
  clear hl hok h8
  go_enter Tryz.func38, Tryz.ntmps38
  go_wp2_with fail
  go_loopw [3, 12] (fun v3 v12 wr => ∃ k : Nat, v12 = .int .i64 (k : Int) ∧ v3 = .int .i64 ((wide (l.take k) : Nat) : Int) ∧ k ≤ l.length ∧ Below w.heap.size w wr) (fun _ v12 _ => l.length - (intOf v12).toNat)
  case atStart => exact ⟨0, rfl, rfl, by omega, Below.refl _ _⟩
  case round =>
    obtain ⟨k, rfl, rfl, hk, hb⟩ := hrel
    by_cases hlt : k < l.length
    · have hx : l[k]? = some l[k] := List.getElem?_eq_getElem hlt
      generalize l[k] = u at *
      obtain ⟨b, o, rfl, hB, hys⟩ := lies_up HL.out.1.head (by omega)
      obtain ⟨e0, e1, e2, e3, e4, e5⟩ := ((hys k u hx).past_ hb hB).six
      have hsn := wide_snoc hx
      have hle := wide_take l (k + 1)
      generalize wide (l.take k) = m at *
      have q0 : (0 : Int) ≤ (k : Int) := by omega
      have q1 : (k : Int) < (l.length : Int) := by omega
      have q2 : m + (u.key.length + u.row.length) ≤ 4398046511104 := by omega
      have HH := Lib.hid (And.intro hb hsn)
      clear hb hx hys hsn hle
      go_wp2_with fail
      go_roundw
      case rel => exact ⟨k + 1, by go_num, by rw [HH.out.2]; go_num, by omega, HH.out.1.alloc HH.out.1.size _⟩
      case measure => simp [intOf]; omega
    · have hk2 : k = l.length := by omega
      subst hk2
      rw [List.take_length]
      generalize hW : wide l = n at *
      have HB := Lib.hid hb
      have HW := Lib.hid hW
      obtain ⟨w0, hw0⟩ : ∃ w0, w0 = wr := ⟨_, rfl⟩
      subst hw0
      clear hb hW
      obtain ⟨Z, hZ, hmk⟩ := make_rows n (by omega)
      have y1 := fun W (h : Bl w0 W) => Lib.hid (listU_any A c l W (((HL.out.1.head.past HB.out (Nat.le_refl _)).wide HB.out.size).past h (Nat.le_refl _) |>.wide h.size) (by omega))
      have hself := Bl.refl w0
      go_wp2_with fail
      go_cut [6, 7] (fun s6 s7 wx => ∃ (B1 : Option Addr) (P g : Nat), s6 = .slice B1 l.length l.length ∧ s7 = .pointer (some ⟨P, 0, none⟩) ∧ Mk w wx l B1 P g n)
      case first =>
        go_region_with (go_at_call 86; refine (y1 _ (by repeat (first | with_reducible exact hself | with_reducible refine Bl.more ?_ _ | with_reducible refine Bl.drew ?_))).out.mono ?_; rintro _ w1 ⟨B1, rfl, hnil, hown, b1⟩; have hbl : Bl w0 w1 := Bl.call (by repeat (first | with_reducible exact hself | with_reducible refine Bl.more ?_ _ | with_reducible refine Bl.drew ?_)) b1; (first | have hv := var_s4 b1 | have hv := var_s3 b1 | have hv := var_s1 b1 | skip); (try have hv0 := hv.at_ 0); (try have hv1 := hv.open_ 0); (try simp only [List.getElem?_cons_zero] at hv0); (try have hv2 := fun o => (hv.more o).at_ 0); (try have hv3 := fun o => (hv.more o).open_ 0); (try simp only [List.getElem?_cons_zero] at hv2))
        all_goals
          go_wp2_with fail
          go_meet
        · exact ⟨_, _, _, rfl, rfl, mkF1 hZ (by omega) HB.out hbl b1 hnil hown⟩
        · exact ⟨_, _, _, rfl, rfl, mkF2 hZ (by omega) HB.out hbl b1 hnil hown⟩
        · exact ⟨_, _, _, rfl, rfl, mkF3 hZ (by omega) HB.out hbl b1 hnil hown⟩
        · exact ⟨_, _, _, rfl, rfl, mkF4 hZ (by omega) HB.out hbl b1 hnil hown⟩
        · exact ⟨_, _, _, rfl, rfl, mkF5 hZ (by omega) HB.out hbl b1 hnil hown⟩
        · exact ⟨_, _, _, rfl, rfl, mkF6 hZ (by omega) HB.out hbl b1 hnil hown⟩
      case rest =>
        obtain ⟨B1, P, g, rfl, rfl, hm⟩ := hcut
        by_cases h0 : l = []
        · subst h0
          have hB1 := hm.nil_ rfl
          subst hB1
          have HM := Lib.hid hm.below
          clear hm y1 hmk hself
          go_wp2_with fail
          go_loopw [32] (fun v32 wr => v32 = .int .i64 0 ∧ Below w.heap.size w wr) (fun v32 _ => 0)
          case atStart => exact ⟨rfl, HM.out⟩
          case round =>
            obtain ⟨rfl, hb⟩ := hrel
            have HX := Lib.hid hb
            clear hb
            go_wp2_with fail
            go_ret
            exact ⟨none, [], rfl, rfl, ⟨Lies.nil_, fun u hu => by cases hu⟩, fun u hu => (by cases hu), lo_nil _, HX.out, fun _ => rfl, fun h => absurd h (by simp)⟩
        · have hpos : 0 < l.length := List.length_pos_iff.2 h0
          obtain ⟨G, rfl, hGb, hGP, hGg, hG⟩ := hm.list hpos
          have hst : Cpd w wc l P g n G 0 [] := ⟨rfl, rfl, by simpa using hG, by simpa [wide, rowsOf] using hm.rows, fun u hu => (by cases hu), hm.below⟩
          have HM := Lib.hid (And.intro hm.p_ (And.intro hm.g_ (And.intro hGb (And.intro hGP (And.intro hGg (And.intro hst hpos))))))
          clear hm y1 hmk hself hG hGb hGP hGg hst h0
          go_wp2_with fail
          go_loopw [32] (fun v32 wr => ∃ (k : Nat) (done : List Up), v32 = .int .i64 (k : Int) ∧ k ≤ l.length ∧ Cpd w wr l P g n G k done) (fun v32 _ => l.length - (intOf v32).toNat)
          case atStart => exact ⟨0, [], rfl, by omega, HM.out.2.2.2.2.2.1⟩
          case round =>
            obtain ⟨k, done, rfl, hk, hc⟩ := hrel
            by_cases hlt : k < l.length
            · have hx : l[k]? = some l[k] := List.getElem?_eq_getElem hlt
              have hum := List.mem_of_getElem? hx
              generalize l[k] = u at *
              obtain ⟨hx1, _⟩ := done_at (u' := u) hc.len hx
              have hcl := fun r v (hr : u.cells[r]? = some v) => (show wr.cell? ⟨G, k * 6 + r, none⟩ = some v by rw [hc.own.at_]; exact flat_of (size := 6) (cells := Up.cells) (fun _ => rfl) _ k r u v hx1 hr)
              have c0 := hcl 0 _ rfl
              have c1 := hcl 1 _ rfl
              have c2 := hcl 2 _ rfl
              have c3 := hcl 3 _ rfl
              have c4 := hcl 4 _ rfl
              have c5 := hcl 5 _ rfl
              rw [Nat.add_zero] at c0
              obtain ⟨V, hV, hvb, hvs, hvo⟩ := upbox wr u
              have hbV := hc.below.trans (hvb.mono hc.below.size)
              have hoV := hc.own.past hvb hc.own.inside
              have hrV := hc.rows.past hvb
              have hsn := wide_snoc hx
              have hle := wide_take l (k + 1)
              have hrs := rowsOf_snoc hx
              have hPin := hc.rows.var.inside
              have hgin := (hc.rows.row.lt g rfl).2
              have hGin := hc.own.inside
              have hin := fun (W : World) (h : Below w.heap.size w W) => ((HL.out.1.each_ u hum).past h (Nat.le_refl _)).wide h.size
              rw [HW.out] at hle
              obtain ⟨m, hm⟩ : ∃ m, wide (l.take k) = m := ⟨_, rfl⟩
              obtain ⟨xs, hxs⟩ : ∃ xs, rowsOf (l.take k) = xs := ⟨_, rfl⟩
              rw [hm, hxs] at hrV
              rw [hm] at hsn
              rw [hxs] at hrs
              have hnn : n ≤ 140737488351232 := by omega
              have y1 := fun W (h1 : Rws W P g m n w.heap.size xs) (h2 : Below w.heap.size w W) => Lib.hid (rowcopy_any P g m n w.heap.size xs u.kA u.kc u.key W h1 (hin W h2).key (by omega) hnn)
              have y2 := fun W (h1 : Rws W P g (m + u.key.length) n w.heap.size (xs ++ u.key.flatMap Vl.cells)) (h2 : Below w.heap.size w W) => Lib.hid (rowcopy_any P g (m + u.key.length) n w.heap.size (xs ++ u.key.flatMap Vl.cells) u.rA u.rc u.row W h1 (hin W h2).row (by omega) hnn)
              have HC := Lib.hid (And.intro hc (And.intro hbV (And.intro hoV (And.intro hrV (And.intro hvo (And.intro hvs (And.intro hx1 (And.intro hx (And.intro hm (And.intro hxs (And.intro hsn hrs)))))))))))
              have HI := Lib.hid (And.intro hPin (And.intro hgin hGin))
              obtain ⟨d0, d1, d2, d3, d4, d5⟩ := own6 hvo
              have q0 : (0 : Int) ≤ (k : Int) := by omega
              have q1 : (k : Int) < (l.length : Int) := by omega
              clear hx hum hx1 hcl hc hvb hvs hvo hbV hoV hrV hsn hle hrs hPin hgin hGin hin hm hxs hnn
              go_upto_region 11 with fail
              rw [← hV]
              clear hV c0 c1 c2 c3 c4 c5
              have HP1 := Lib.hid (show wr.heap.size ≠ P ∧ wr.heap.size ≠ g ∧ wr.heap.size ≠ G from by have := HI.out; omega)
              have HBd := Lib.hid (show w.heap.size ≤ V.drew.heap.size from HC.out.2.1.size)
              go_region_held3 (fun w' => w'.cell? ⟨wr.heap.size, 0, none⟩ = some (.slice u.kA u.key.length u.kc) ∧ w'.cell? ⟨wr.heap.size, 1, none⟩ = some (.slice u.rA u.row.length u.rc))
                ((first | exact ⟨d0, d1⟩ | exact ⟨e10, e11⟩ | exact ⟨e20, e21⟩ | exact ⟨e30 _, e31 _⟩ | exact ⟨e40 _ _, e41 _ _⟩))
                (first | (go_at_call 87; have hq := hr1; refine (y2 _ hr1 hb1).out.mono ?_; rintro _ w2 ⟨A2, k2, rfl, hA2, hN2, hr2, f2⟩; have hb2 := hb1.trans (f2.below HM.out.1 HM.out.2.1 hb1.size); have ho2 := f2.own ho1 HM.out.2.2.2.1 HM.out.2.2.2.2.1; have hv2 := f2.own hv1 HP1.out.1 HP1.out.2.1; have e20 := hv2.at_ 0; have e21 := hv2.at_ 1; have e30 := fun x => (hv2.other (p := ⟨G, k * 6, none⟩) (Ne.symm HP1.out.2.2) x).at_ 0; have e31 := fun x => (hv2.other (p := ⟨G, k * 6, none⟩) (Ne.symm HP1.out.2.2) x).at_ 1; have e40 := fun x y => ((hv2.other (p := ⟨G, k * 6, none⟩) (Ne.symm HP1.out.2.2) x).other (p := ⟨G, k * 6 + 1, none⟩) (Ne.symm HP1.out.2.2) y).at_ 0; have e41 := fun x y => ((hv2.other (p := ⟨G, k * 6, none⟩) (Ne.symm HP1.out.2.2) x).other (p := ⟨G, k * 6 + 1, none⟩) (Ne.symm HP1.out.2.2) y).at_ 1; have g0 := (ho2.at_ (k * 6 + 0)).trans (flat_of (size := 6) (cells := Up.cells) (fun _ => rfl) _ k 0 u _ HC.out.2.2.2.2.2.2.1 rfl); have g1 := fun x => ((ho2.set_ (k * 6) x).at_ (k * 6 + 1)).trans ((List.getElem?_set_ne (by omega)).trans (flat_of (size := 6) (cells := Up.cells) (fun _ => rfl) _ k 1 u _ HC.out.2.2.2.2.2.2.1 rfl)); have z0 := ho2.open_ (k * 6); have z1 := fun x => (ho2.set_ (k * 6) x).open_ (k * 6 + 1); rw [Nat.add_zero] at g0) | (go_at_call 87; refine (y1 _ HC.out.2.2.2.1.drew (Below.drew HC.out.2.1)).out.mono ?_; rintro _ w1 ⟨A1, k1, rfl, hA1, hN1, hr1, f1⟩; have hb1 := (Below.drew HC.out.2.1).trans (f1.below HM.out.1 HM.out.2.1 HBd.out); have ho1 := f1.own (own_drew' HC.out.2.2.1) HM.out.2.2.2.1 HM.out.2.2.2.2.1; have hv1 := f1.own (own_drew' HC.out.2.2.2.2.1) HP1.out.1 HP1.out.2.1; have e10 := hv1.at_ 0; have e11 := hv1.at_ 1))
              have X2 := (ho2.set_ (k * 6 + 0) (.slice A1 u.key.length k1)).set_ (k * 6 + 1) (.slice A2 u.row.length k2)
              rw [set_rows HC.out.2.2.2.2.2.2.1 A1 A2 k1 k2, (done_at (u' := { u with kA := A1, kc := k1, rA := A2, rc := k2 }) HC.out.1.len HC.out.2.2.2.2.2.2.2.1).2, Nat.add_zero] at X2
              have hbf := (hb2.setCell (p := ⟨G, k * 6, none⟩) HM.out.2.2.1 (.slice A1 u.key.length k1)).setCell (p := ⟨G, k * 6 + 1, none⟩) HM.out.2.2.1 (.slice A2 u.row.length k2)
              have hvr := ((hr2.var.other (p := ⟨G, k * 6, none⟩) HM.out.2.2.2.1 (.slice A1 u.key.length k1)).other (p := ⟨G, k * 6 + 1, none⟩) HM.out.2.2.2.1 (.slice A2 u.row.length k2))
              have hrw := World.ownsRow.kept (row := some G) (w' := (w2.setCell ⟨G, k * 6, none⟩ (.slice A1 u.key.length k1)).setCell ⟨G, k * 6 + 1, none⟩ (.slice A2 u.row.length k2)) hr2.row ⟨rfl, rfl, rfl, by simp [World.setCell], fun i _ hne => (Below.heap_setCell _ ⟨G, k * 6 + 1, none⟩ _ i (by simpa using hne)).trans (Below.heap_setCell w2 ⟨G, k * 6, none⟩ _ i (by simpa using hne))⟩ (.inr fun h => HM.out.2.2.2.2.1 (by simpa [Value.ownBlock, eq_comm] using h))
              have HF := Lib.hid (And.intro X2 (And.intro hbf (And.intro hvr (And.intro hrw (And.intro hr2.ne (And.intro (And.intro hA1 hN1) (And.intro hA2 hN2)))))))
              have hR1 := Lib.hid hr1.row.1
              have hR0 := Lib.hid HC.out.2.2.2.1.row.1
              clear hq hA1 hN1 hA2 hN2 hr1 hr2 f1 f2 hb1 hb2 ho1 ho2 hv1 hv2 e10 e11 e20 e21 e30 e31 e40 e41 g0 g1 z0 z1 X2 hbf hvr hrw d0 d1 d2 d3 d4 d5 y1 y2
              go_wp2_with fail
              go_roundw
              case rel =>
                refine ⟨k + 1, done ++ [{ u with kA := A1, kc := k1, rA := A2, rc := k2 }], by go_num, by omega, ⟨by rw [List.length_append, HC.out.1.len]; rfl, copy_p HC.out.2.2.2.2.2.2.2.1 HC.out.1.p_, HF.out.1, ?_, fun x hx => ?_, HF.out.2.1⟩⟩
                · have h1 := HF.out.2.2.2.1
                  have h2 := HC.out.2.2.2.2.2.2.2.2.2.2.1
                  have h3 := HC.out.2.2.2.2.2.2.2.2.2.2.2
                  rw [h3, h2, ← Nat.add_assoc]
                  exact ⟨HF.out.2.2.1, h1, HF.out.2.2.2.2.1⟩
                · have h3 := HC.out.2.2.2.2.2.2.2.2.2.2.2
                  rw [h3]
                  rcases List.mem_append.1 hx with hx | hx
                  · have := HC.out.1.in_ x hx
                    rw [HC.out.2.2.2.2.2.2.2.2.2.1] at this
                    exact ⟨(this.1.more _).more _, (this.2.more _).more _⟩
                  · obtain rfl : x = { u with kA := A1, kc := k1, rA := A2, rc := k2 } := by simpa using hx
                    exact ⟨(inblock_new hR0.out HF.out.2.2.2.2.2.1.1 HF.out.2.2.2.2.2.1.2).more _, inblock_new hR1.out HF.out.2.2.2.2.2.2.1 HF.out.2.2.2.2.2.2.2⟩
              case measure => simp [intOf]; omega
            · have hk2 : k = l.length := by omega
              subst hk2
              have HC := Lib.hid hc
              clear hc
              go_wp2_with fail
              go_ret
              have hp := HC.out.p_
              have ho := HC.out.own
              rw [List.take_length] at hp
              rw [List.drop_length, List.append_nil] at ho
              refine ⟨some ⟨G, 0, none⟩, done, by rw [HC.out.len]; rfl, hp, ups_own ho fun x hx => ⟨(HC.out.in_ x hx).1.vals HC.out.rows.row, (HC.out.in_ x hx).2.vals HC.out.rows.row⟩, fun x hx => ?_, ⟨fun b o e => ?_, fun x hx b o e => ?_⟩, HC.out.below, fun h => absurd (show l.length = 0 from by rw [← HC.out.len, h]; rfl) (by omega), fun _ => ⟨G, rfl, ho, fun x hx b o e => ?_⟩⟩
              · obtain ⟨y, hy, e⟩ := mem_p hp hx
                exact uok_p e (HL.out.2.1.ok y hy)
              · simp only [Option.some.injEq, Addr.mk.injEq, and_true] at e
                have := HM.out.2.2.1
                omega
              · have h1 := HC.out.in_ x hx
                have h2 := HM.out.2.1
                rcases e with e | e
                · rw [h1.1.far b o e]; exact h2
                · rw [h1.2.far b o e]; exact h2
              · have h1 := HC.out.in_ x hx
                rcases e with e | e
                · rw [h1.1.far b o e]; exact Ne.symm HM.out.2.2.2.2.1
                · rw [h1.2.far b o e]; exact Ne.symm HM.out.2.2.2.2.1
end Go.Proofs.YtllpfngmnccejaaGreat
