/- Part 13 of the texts on which BatchOwn rests: facts and contracts. -/
import Derived.Test.YthpjkikfadfgeaaGreatBatchOwnM12
import Derived.Lib.Bytealg
import Derived.Laws.CopyRow
import Derived.Laws.CopyOwn
import Derived.OwnWalk
import Derived.Lib.AppendZerosOnto
import Derived.Lib.Overlaps
import Derived.Laws.Externs
namespace Go.Proofs.YthpjkikfadfgeaaGreat
open Go Go.RowKit

def KpU (B : Nat) (l : List Up) (v : Value) (W : World) : Prop := ∃ A c, ∃ outL : List Up, v = .slice A outL.length c ∧ outL.map Up.p = l.map Up.p ∧ Ups W W.heap.size A outL ∧ UsOk outL ∧ Lo B A outL ∧ W.ownsRow B 38 6 v outL.length (outL.flatMap Up.cells) ∧ ∀ u ∈ outL, Far B v W u
def KpD (B D : Nat) (l : List Up) (v : Value) (W : World) : Prop := ∃ A c, ∃ outL : List Up, v = .slice A outL.length c ∧ outL.map Up.p = l.map Up.p ∧ Ups W D A outL ∧ UsOk outL ∧ Lo B A outL
theorem KpU.keep {B : Nat} {l : List Up} {v : Value} {W W' : World} (h : KpU B l v W) (b : Below W.heap.size W W') : KpU B l v W' := by
  obtain ⟨A, c, outL, e, hp, hu, ok, lo, ro, fa⟩ := h
  exact ⟨A, c, outL, e, hp, hu.keep b, ok, lo, own_below ro b, fun u hu => (fa u hu).next b.size⟩
theorem KpU.bound {B : Nat} {l : List Up} {v : Value} {W W' : World} (h : KpU B l v W) (b : Below W.heap.size W W') : KpD B W.heap.size l v W' := by
  obtain ⟨A, c, outL, e, hp, hu, ok, lo, _, _⟩ := h
  exact ⟨A, c, outL, e, hp, hu.past b (Nat.le_refl _), ok, lo⟩
theorem KpU.lower {B B' : Nat} {l : List Up} {v : Value} {W : World} (h : KpU B l v W) (hB : B' ≤ B) : KpU B' l v W := by
  obtain ⟨A, c, outL, e, hp, hu, ok, lo, ro, fa⟩ := h
  exact ⟨A, c, outL, e, hp, hu, ok, lo.mono hB, ⟨ro.1, ro.2.imp id fun ⟨g, cap, cur, h1, h2, h3⟩ => ⟨g, cap, cur, h1, Nat.le_trans hB h2, h3⟩⟩, fun u hu b o e => ⟨(fa u hu b o e).1, (fa u hu b o e).2.1, Nat.le_trans hB (fa u hu b o e).2.2⟩⟩
theorem KpD.lower {B B' D : Nat} {l : List Up} {v : Value} {W : World} (h : KpD B D l v W) (hB : B' ≤ B) : KpD B' D l v W := by
  obtain ⟨A, c, outL, e, hp, hu, ok, lo⟩ := h
  exact ⟨A, c, outL, e, hp, hu, ok, lo.mono hB⟩
theorem copyU_kp0 (A : Option Addr) (c : Nat) (l : List Up) (w : World) (hl : Ups w w.heap.size A l) (hok : UsOk l) (h8 : ∀ u ∈ l, u.key.length ≤ 1099511627776 ∧ u.row.length ≤ 1099511627776) :
    Calls Tryz.prog 37 #[.slice A l.length c] w fun x w' => ∃ v, x = .returned v ∧ KpU w.heap.size l v w' ∧ Below w.heap.size w w' := by
  refine (copyU_own A c l w hl hok.ok h8 hok.n).mono ?_
  rintro x w' ⟨v, outL, rfl, hm, hown, hout, hb⟩
  have hlt := hown.lt
  obtain ⟨A', c', rfl, _, _, hl'⟩ := lies_of_own (size := 6) (cells := Up.cells) (by decide) ucells_len rfl hown
  have hn : outL.length = l.length := by have := congrArg List.length hm; simpa using this
  exact ⟨_, rfl, ⟨A', c', outL, rfl, hm, ⟨hl', fun u hu => (hout u hu).1⟩, ⟨by have := hok.n; omega, fun u hu => (hout u hu).2.1⟩, ⟨fun b o e => by subst e; exact (hlt b rfl).1, fun u hu b o e => ((hout u hu).2.2 b o e).2.2⟩, hown, fun u hu => (hout u hu).2.2⟩, hb⟩
theorem copyU_kp (A : Option Addr) (c : Nat) (l : List Up) (w : World) (hl : Ups w w.heap.size A l) (hok : UsOk l) (h8 : ∀ u ∈ l, u.key.length ≤ 1099511627776 ∧ u.row.length ≤ 1099511627776) :
    Calls Tryz.prog 37 #[.slice A l.length c] w fun x w' => ∃ (A' : Option Addr) (c' n' : Nat), x = .returned (.slice A' n' c') ∧ KpU w.heap.size l (.slice A' n' c') w' ∧ Below w.heap.size w w' := by
  refine (copyU_kp0 A c l w hl hok h8).mono ?_
  rintro x w' ⟨v, rfl, h, hb⟩
  have h' := h
  obtain ⟨A', c', outL, rfl, _⟩ := h'
  exact ⟨A', c', outL.length, rfl, h, hb⟩
def CpMid (P : Nat) (m : Mg) (V wx : World) : Prop := ∃ D va vb vo, V.heap.size ≤ D ∧ D ≤ wx.heap.size ∧ Own wx P 25 [va, vb, .int .i64 m.i, .int .i64 m.j, .slice m.sA m.f.length m.sc, vo] ∧ KpD V.heap.size D m.a va wx ∧ KpD V.heap.size D m.b vb wx ∧ KpU D m.o vo wx ∧ Below P V wx ∧ (∀ b, b < V.heap.size → b ≠ P → wx.heap[b]? = V.heap[b]?)
structure Put3 (P : Nat) (a b c : Value) (W X : World) : Prop where
  own : ∀ t z0 z1 z2 z3 z4 z5, Own W P t [z0, z1, z2, z3, z4, z5] → Own X P t [a, b, z2, z3, z4, c]
  size : X.heap.size = W.heap.size
  other : ∀ k, k ≠ P → X.heap[k]? = W.heap[k]?
  below : ∀ B u, Below B u W → B ≤ P → Below B u X
theorem put3_a (P : Nat) (a b c : Value) (W : World) : Put3 P a b c W (((W.setCell ⟨P, 0, none⟩ a).setCell ⟨P, 1, none⟩ b).setCell ⟨P, 5, none⟩ c) :=
  ⟨fun t z0 z1 z2 z3 z4 z5 h => ((h.set_ 0 a).set_ 1 b).set_ 5 c, by simp [World.setCell], fun k hk => by
    have q := fun (W : World) (i : Nat) (v : Value) => Below.heap_setCell W ⟨P, i, none⟩ v k hk
    rw [q, q, q], fun B u hb hB => ((hb.setCell (p := ⟨P, 0, none⟩) hB _).setCell (p := ⟨P, 1, none⟩) hB _).setCell (p := ⟨P, 5, none⟩) hB _⟩
theorem KpD.put {P B D : Nat} {l : List Up} {v x y z : Value} {W X : World} (h : KpD B D l v W) (hP : P < B) (k : Put3 P x y z W X) (hD : D ≤ W.heap.size) : KpD B D l v X := by
  obtain ⟨A, c, outL, e, hp, hu, ok, lo⟩ := h
  have hb : ∀ b o j, b ≠ P → X.cell? ⟨b, o + j, none⟩ = W.cell? ⟨b, o + j, none⟩ := fun b o j hb => by unfold World.cell?; rw [k.other b hb]
  have hv : ∀ {A : Option Addr} {l : List Vl}, Vals W D A l → (∀ b o, A = some ⟨b, o, none⟩ → b ≠ P) → Vals X D A l := fun {A l} h hA hp => by
    obtain ⟨b, o, e, hB, hc⟩ := h hp
    have hk : ∀ j, X.cell? ⟨b, j, none⟩ = W.cell? ⟨b, j, none⟩ := fun j => by unfold World.cell?; rw [k.other b (hA b o e)]
    refine ⟨b, o, e, hB, fun i v hi => ?_⟩
    obtain ⟨a0, a1, a2⟩ := hc i v hi
    exact ⟨(hk _).trans a0, (hk _).trans a1, (hk _).trans a2⟩
  refine ⟨A, c, outL, e, hp, ⟨fun hp => ?_, fun u hu' => ⟨hv (hu.each_ u hu').key fun b o e => by have := lo.2 u hu' b o (.inl e); omega, hv (hu.each_ u hu').row fun b o e => by have := lo.2 u hu' b o (.inr e); omega⟩⟩, ok, lo⟩
  obtain ⟨b, o, e, hB, hc⟩ := hu.head hp
  have hne : b ≠ P := by have := lo.1 b o e; omega
  exact ⟨b, o, e, hB, fun i x hi j u hj => by
    rw [← hc i x hi j u hj]
    unfold World.cell?
    rw [k.other b hne]⟩
theorem KpU.put {P B : Nat} {l : List Up} {v x y z : Value} {W X : World} (h : KpU B l v W) (hP : P < B) (k : Put3 P x y z W X) : KpU B l v X := by
  obtain ⟨A, c, outL, e, hp, hu, ok, lo, ro, fa⟩ := h
  refine ⟨A, c, outL, e, hp, ups_other hu (lo.mono hP) k.size k.other, ok, lo, ⟨ro.1, ?_⟩, fun u hu => (fa u hu).next (by rw [k.size]; exact Nat.le_refl _)⟩
  rcases ro.2 with h0 | ⟨g, cap, cur, h1, h2, h3, rest⟩
  · exact .inl h0
  · exact .inr ⟨g, cap, cur, h1, h2, (k.other g (by omega)).trans h3, rest⟩
theorem cpmid_of {P D : Nat} {m : Mg} {V W X : World} {va vb vo : Value} (hP : P < V.heap.size) (ho : Own W P 25 m.cells) (hb : Below V.heap.size V W) (hD : V.heap.size ≤ D) (hW : D ≤ W.heap.size) (ka : KpD V.heap.size D m.a va W) (kb : KpD V.heap.size D m.b vb W) (ko : KpU D m.o vo W) (hx : Put3 P va vb vo W X) : CpMid P m V X :=
  ⟨D, va, vb, vo, hD, by rw [hx.size]; exact hW, hx.own _ _ _ _ _ _ _ ho, ka.put hP hx hW, kb.put hP hx hW, ko.put (by omega) hx, hx.below P V (hb.mono (Nat.le_of_lt hP)) (Nat.le_refl _), fun b hb' hne => (hx.other b hne).trans (hb.block b hb')⟩
structure Nb (B : Nat) (W X : World) : Prop where
  size : X.heap.size = W.heap.size
  other : ∀ b, B ≤ b → X.heap[b]? = W.heap[b]?
theorem Nb.cell {B b j : Nat} {W X : World} (k : Nb B W X) (hb : B ≤ b) : X.cell? ⟨b, j, none⟩ = W.cell? ⟨b, j, none⟩ := by unfold World.cell?; rw [k.other b hb]
theorem Nb.vals {B : Nat} {W X : World} {A : Option Addr} {l : List Vl} (k : Nb B W X) (h : Vals W W.heap.size A l) (hA : ∀ b o, A = some ⟨b, o, none⟩ → B ≤ b) : Vals X X.heap.size A l := fun hp => by
  obtain ⟨b, o, e, hB, hc⟩ := h hp
  have hk := fun j => k.cell (j := j) (hA b o e)
  refine ⟨b, o, e, by rw [k.size]; exact hB, fun i v hi => ?_⟩
  obtain ⟨a0, a1, a2⟩ := hc i v hi
  exact ⟨(hk _).trans a0, (hk _).trans a1, (hk _).trans a2⟩
theorem Nb.ups {B : Nat} {W X : World} {A : Option Addr} {l : List Up} (k : Nb B W X) (h : Ups W W.heap.size A l) (lo : Lo B A l) : Ups X X.heap.size A l := by
  refine ⟨fun hp => ?_, fun u hu => ⟨k.vals (h.each_ u hu).key fun b o e => lo.2 u hu b o (.inl e), k.vals (h.each_ u hu).row fun b o e => lo.2 u hu b o (.inr e)⟩⟩
  obtain ⟨b, o, e, hB, hc⟩ := h.head hp
  exact ⟨b, o, e, by rw [k.size]; exact hB, fun i x hi j u hj => (k.cell (lo.1 b o e)).trans (hc i x hi j u hj)⟩
theorem Nb.times {B : Nat} {W X : World} {A : Option Addr} {l : List Tm} (k : Nb B W X) (h : Times W W.heap.size A l) (lo : LoT B A) : Times X X.heap.size A l := fun hp => by
  obtain ⟨b, o, e, hB, hc⟩ := h hp
  have hk := fun j => k.cell (j := j) (lo b o e)
  refine ⟨b, o, e, by rw [k.size]; exact hB, fun i v hi => ?_⟩
  obtain ⟨a0, a1, a2⟩ := hc i v hi
  exact ⟨(hk _).trans a0, (hk _).trans a1, (hk _).trans a2⟩
theorem Nb.row {B base n size : Nat} {e : TypeId} {v : Value} {xs : List Value} {W X : World} (k : Nb B W X) (h : W.ownsRow base e size v n xs) (hB : B ≤ base) : X.ownsRow base e size v n xs := by
  refine ⟨h.1, ?_⟩
  rcases h.2 with h0 | ⟨g, cap, cur, h1, h2, h3, rest⟩
  · exact .inl h0
  · exact .inr ⟨g, cap, cur, h1, h2, (k.other g (by omega)).trans h3, rest⟩
structure MgRow (w : World) (base : Nat) (m : Mg) : Prop where
  row : w.ownsRow base 38 6 (.slice m.oA m.o.length m.oc) m.o.length (m.o.flatMap Up.cells)
  a : Off w.heap.size (.slice m.oA m.o.length m.oc) m.aA m.a
  b : Off w.heap.size (.slice m.oA m.o.length m.oc) m.bA m.b
  f : OffR w.heap.size (.slice m.oA m.o.length m.oc) m.sA m.f.length
  o : ∀ u ∈ m.o, OffU w.heap.size (.slice m.oA m.o.length m.oc) u
theorem off_bound {D P : Nat} {v : Value} {W : World} {A : Option Addr} {l : List Up} (h : Ups W D A l) (hP : D ≤ P) (hv : ∀ j, v.ownBlock = some j → D ≤ j) : Off P v A l := by
  have key : ∀ {A : Option Addr} {n : Nat}, (0 < n → ∀ b o, A = some (⟨b, o, none⟩ : Addr) → b < D) → OffR P v A n := fun h hp b o e => by
    have := h hp b o e
    exact ⟨by omega, fun e' => by have := hv b e'; omega⟩
  refine ⟨key fun hp b o e => ?_, fun u hu => ⟨key fun hp b o e => ?_, key fun hp b o e => ?_⟩⟩
  · obtain ⟨b', o', e', hB, _⟩ := h.head hp
    rw [e] at e'; injection e' with e'; injection e' with e1 _; omega
  · obtain ⟨b', o', e', hB, _⟩ := (h.each_ u hu).key hp
    rw [e] at e'; injection e' with e'; injection e' with e1 _; omega
  · obtain ⟨b', o', e', hB, _⟩ := (h.each_ u hu).row hp
    rw [e] at e'; injection e' with e'; injection e' with e1 _; omega
theorem nb_one {B P i : Nat} {W : World} {x : Value} (hP : P < B) : Nb B W (W.setCell ⟨P, i, none⟩ x) := ⟨by simp [World.setCell], fun b hb => Below.heap_setCell W ⟨P, i, none⟩ x b (by intro e; dsimp only at e; omega)⟩
def CopiedM (m : Mg) (w : World) (x : Ending) (w' : World) : Prop := ∃ m' : Mg, x = .returned m'.val ∧ SameM m' m ∧ MgIn w' w'.heap.size m' ∧ MgOk m' ∧ MgLo w.heap.size m' ∧ Below w.heap.size w w' ∧ MgRow w' w.heap.size m'
set_option maxRecDepth 100000 in
set_option maxHeartbeats 25600000 in
theorem rcopyM_any (m : Mg) (w : World) (hm : MgIn w w.heap.size m) (hok : MgOk m) (h8 : ∀ u, u ∈ m.a ∨ u ∈ m.b ∨ u ∈ m.o → u.key.length ≤ 1099511627776 ∧ u.row.length ≤ 1099511627776) :
    Calls Tryz.prog 11 #[m.val] w (CopiedM m w) := by
  obtain ⟨V, hV, hvb, hvo, hvz⟩ := wk_box w m
  have hin := hm.keep hvb
  have za := fun W (h : Below V.heap.size V W) => Lib.hid (copyU_kp m.aA m.ac m.a W (hin.keep h).a hok.a fun u hu => h8 u (.inl hu))
  have zb := fun W (h : Below V.heap.size V W) => Lib.hid (copyU_kp m.bA m.bc m.b W (hin.keep h).b hok.b fun u hu => h8 u (.inr (.inl hu)))
  have zo := fun W (h : Below V.heap.size V W) => Lib.hid (copyU_kp m.oA m.oc m.o W (hin.keep h).o hok.o fun u hu => h8 u (.inr (.inr hu)))
  have HV := Lib.hid (And.intro hvb (And.intro hvo (And.intro hvz (And.intro hin hok))))
  have HF := Lib.hid (And.intro hm.f (show m.f.length ≤ 1099511627776 from hok.f.n))
  have hmv : m.val = .agg #[.slice m.aA m.a.length m.ac, .slice m.bA m.b.length m.bc, .int .i64 m.i, .int .i64 m.j, .slice m.sA m.f.length m.sc, .slice m.oA m.o.length m.oc] := rfl
  rw [hmv]
  have HO := Lib.hid (show Own V.drew w.heap.size 25 m.cells from hvo)
  have HB := Lib.hid (Below.refl V.heap.size V).drew
  obtain ⟨a0, a1, a2, a3, a4, a5⟩ := own6 HO.out
  obtain ⟨f0, f1, f2, f3, f4, f5⟩ := own_frozen6 HO.out
  clear hm hok hvb hvo hvz hin hmv h8
  go_enter Tryz.func11, Tryz.ntmps11
  go_upto_region 1 with fail
  rw [← hV]
  clear hV
  go_cut [5] (fun s5 wx => CpMid w.heap.size m V wx)
  case first =>
    go_region_with (first
      | (go_at_call 37; with_reducible refine (za _ HB.out).out.mono ?_; rintro _ _ ⟨Ava, cva, nva, rfl, ha, b⟩; have HA := Lib.hid (ha.lower HB.out.size); have HO := Lib.hid (HO.out.past b HO.out.inside); clear a0 a1 a2 a3 a4 a5 f0 f1 f2 f3 f4 f5; obtain ⟨a0, a1, a2, a3, a4, a5⟩ := own6 HO.out; obtain ⟨f0, f1, f2, f3, f4, f5⟩ := own_frozen6 HO.out; have HB := Lib.hid (belows HB.out b); clear b ha)
      | (go_at_call 37; with_reducible refine (zb _ HB.out).out.mono ?_; rintro _ _ ⟨Avb, cvb, nvb, rfl, ha, b⟩; have HA := Lib.hid (HA.out.keep b); have HBB := Lib.hid (ha.lower HB.out.size); have HO := Lib.hid (HO.out.past b HO.out.inside); clear a0 a1 a2 a3 a4 a5 f0 f1 f2 f3 f4 f5; obtain ⟨a0, a1, a2, a3, a4, a5⟩ := own6 HO.out; obtain ⟨f0, f1, f2, f3, f4, f5⟩ := own_frozen6 HO.out; have HB := Lib.hid (belows HB.out b); clear b ha)
      | (go_at_call 37; with_reducible refine (zo _ HB.out).out.mono ?_; rintro _ _ ⟨Avo, cvo, nvo, rfl, ha, b⟩; have HD := Lib.hid (And.intro (HA.out.bound b) (And.intro (HBB.out.bound b) (And.intro HB.out.size b.size))); have HOO := Lib.hid ha; have HO := Lib.hid (HO.out.past b HO.out.inside); clear a0 a1 a2 a3 a4 a5 f0 f1 f2 f3 f4 f5; obtain ⟨a0, a1, a2, a3, a4, a5⟩ := own6 HO.out; obtain ⟨f0, f1, f2, f3, f4, f5⟩ := own_frozen6 HO.out; have HB := Lib.hid (belows HB.out b); clear b ha))
    all_goals
      go_wp2_with fail
      go_meet
      exact cpmid_of HV.out.2.1.inside HO.out HB.out HD.out.2.2.1 HD.out.2.2.2 HD.out.1 HD.out.2.1 HOO.out (put3_a _ _ _ _ _)
  case rest =>
    obtain ⟨D, va, vb, vo, hD, hDw, ho, ka, kb, ko, hbP, hoth⟩ := hcut
    obtain ⟨Aa, ca, la, rfl, pa, ua, oka, loa⟩ := ka
    obtain ⟨Ab, cb, lb, rfl, pb, ub, okb, lob⟩ := kb
    obtain ⟨Ao, co, lo_, rfl, po, uo, oko, loo, ro, fa⟩ := ko
    have hPV : w.heap.size + 1 < V.heap.size := HV.out.2.2.1.inside
    have hnil : Own wc (w.heap.size + 1) 25 Mg.nil.cells := (hoth _ hPV (by omega)).trans HV.out.2.2.1
    have hbw : Below w.heap.size w wc := HV.out.1.trans hbP
    have hfx : Times wc w.heap.size m.sA m.f := HF.out.1.past hbw (Nat.le_refl _)
    have hr0 := Lib.hid (show (wc.alloc (.cells #[] 36)).ownsRow wc.heap.size 36 3 (.slice (some ⟨wc.heap.size, 0, none⟩) 0 0) 0 [] from World.ownsRow_made wc #[] 0 (Nat.le_refl _) (Nat.zero_le _) rfl)
    have hal : Below wc.heap.size wc (wc.alloc (.cells #[] 36)) := (Below.refl _ _).alloc (Nat.le_refl _) _
    have hft := Lib.hid (hfx.past hal (Nat.le_trans hbw.size (Nat.le_refl _)))
    have hfn := HF.out.2
    have HAL := Lib.hid hal
    have HC := Lib.hid (And.intro hD (And.intro hDw (And.intro ho (And.intro hnil (And.intro hbw hPV)))))
    have HAA := Lib.hid (And.intro pa (And.intro ua (And.intro oka loa)))
    have HBB := Lib.hid (And.intro pb (And.intro ub (And.intro okb lob)))
    have HOO := Lib.hid (And.intro po (And.intro uo (And.intro oko (And.intro loo (And.intro ro fa)))))
    obtain ⟨c0, c1, c2, c3, c4, c5⟩ := own6 (ho.past hal ho.inside)
    clear ho hnil hbw hfx hal pa ua oka loa pb ub okb lob po uo oko loo ro fa hbP hoth hD hDw za zb zo a0 a1 a2 a3 a4 a5 f0 f1 f2 f3 f4 f5
    go_wp2_with (at_builtin; refine wpList_append_tm _ rfl _ _ rfl wc.heap.size _ _ _ rfl hr0.out w.heap.size m.sA m.sc m.f rfl hft.out ?m1 ?m2 ?m3)
    case m1 => omega
    case m2 => simp
    intro v4 w4 ho4 hb4
    have hlt4 := ho4.lt
    obtain ⟨As, cs, rfl, hcs, hms, h4⟩ := times_of_own (l := m.f) (n := 0 + m.f.length) (by omega) (by simpa using ho4)
    have hb04 : Below wc.heap.size wc w4 := HAL.out.trans hb4
    have o4 := HC.out.2.2.1.past hb04 HC.out.2.2.1.inside
    have n4 := HC.out.2.2.2.1.past hb04 HC.out.2.2.2.1.inside
    obtain ⟨X, hX⟩ : ∃ X, X = w4.setCell ⟨w.heap.size, 4, none⟩ (.slice As m.f.length cs) := ⟨_, rfl⟩
    have oX := o4.set_ 4 (.slice As m.f.length cs)
    have nX := n4.other (p := ⟨w.heap.size, 4, none⟩) (by intro e; dsimp only at e; omega) (.slice As m.f.length cs)
    have nbX : Nb V.heap.size w4 X := hX ▸ nb_one (by omega)
    have bX : Below w.heap.size w X := by
      rw [hX]
      exact ((HC.out.2.2.2.2.1.trans (hb04.mono HC.out.2.2.2.2.1.size)).setCell (p := ⟨w.heap.size, 4, none⟩) (Nat.le_refl _) _)
    rw [← hX] at oX nX
    obtain ⟨Y, hY, hYo, hYb, hYs, hYh⟩ := own_six nX (.slice Aa la.length ca) (.slice Ab lb.length cb) (.int .i64 m.i) (.int .i64 m.j) (.slice As m.f.length cs) (.slice Ao lo_.length co)
    have nbY : Nb V.heap.size X Y := ⟨hYs, fun b hb => hYh b (by omega)⟩
    have k0 := o4.open_ 4
    obtain ⟨c0, c1, c2, c3, c4, c5⟩ := own6 o4
    obtain ⟨x0, x1, x2, x3, x4, x5⟩ := own6 oX
    obtain ⟨g0, g1, g2, g3, g4, g5⟩ := own_frozen6 nX
    obtain ⟨z0, z1, z2, z3, z4, z5⟩ := own6 nX
    have HX := Lib.hid hX
    have HY := Lib.hid (And.intro hY (And.intro hYo (hYb w.heap.size w bX (Nat.le_succ _))))
    have hKU := Lib.hid (show MgIn Y Y.heap.size ⟨Aa, ca, la, Ab, cb, lb, m.i, m.j, As, cs, m.f, Ao, co, lo_⟩ ∧ MgLo w.heap.size ⟨Aa, ca, la, Ab, cb, lb, m.i, m.j, As, cs, m.f, Ao, co, lo_⟩ ∧ MgRow Y w.heap.size ⟨Aa, ca, la, Ab, cb, lb, m.i, m.j, As, cs, m.f, Ao, co, lo_⟩ from by
      obtain ⟨pa, ua, oka, loa⟩ := HAA.out
      obtain ⟨pb, ub, okb, lob⟩ := HBB.out
      obtain ⟨po, uo, oko, loo, ro, fa⟩ := HOO.out
      have hDx := HC.out.2.1
      have hVD := HC.out.1
      have hsz : Y.heap.size = w4.heap.size := hYs.trans nbX.size
      have s4 := hb04.size
      have hVw : w.heap.size ≤ V.heap.size := by omega
      have hro4 := own_below ro hb04
      have hroY := nbY.row (nbX.row hro4 hVD) hVD
      have hlo : ∀ j, (Value.slice Ao lo_.length co).ownBlock = some j → D ≤ j ∧ j < wc.heap.size := fun j hj => ro.lt j hj
      have hsT : LoT V.heap.size As := fun b o e => by have := hlt4 b (by rw [e]; rfl); omega
      refine ⟨⟨nbY.ups (nbX.ups ((ua.past hb04 hDx).wide (by omega)) loa) loa, nbY.ups (nbX.ups ((ub.past hb04 hDx).wide (by omega)) lob) lob, nbY.times (nbX.times h4 hsT) hsT, nbY.ups (nbX.ups (uo.keep hb04) (loo.mono hVD)) (loo.mono hVD)⟩, ⟨loa.mono hVw, lob.mono hVw, fun b o e => Nat.le_trans hVw (hsT b o e), loo.mono (Nat.le_trans hVw hVD)⟩, ⟨⟨hroY.1, hroY.2.imp id fun ⟨g, cap, cur, h1, h2, h3⟩ => ⟨g, cap, cur, h1, by omega, h3⟩⟩, off_bound ua (by omega) (fun j hj => (hlo j hj).1), off_bound ub (by omega) (fun j hj => (hlo j hj).1), fun _ b o e => ?_, fun u hu => ⟨fun _ b o e => ?_, fun _ b o e => ?_⟩⟩⟩
      · have e : As = some ⟨b, o, none⟩ := e
        have h1 := hlt4 b (by rw [e]; rfl)
        exact ⟨by omega, fun e' => by have := (hlo b e').2; omega⟩
      · have h1 := fa u hu b o (.inl e)
        exact ⟨by omega, h1.2.1⟩
      · have h1 := fa u hu b o (.inr e)
        exact ⟨by omega, h1.2.1⟩)
    have HOK := Lib.hid (show SameM ⟨Aa, ca, la, Ab, cb, lb, m.i, m.j, As, cs, m.f, Ao, co, lo_⟩ m ∧ MgOk ⟨Aa, ca, la, Ab, cb, lb, m.i, m.j, As, cs, m.f, Ao, co, lo_⟩ from ⟨⟨HAA.out.1, HBB.out.1, rfl, rfl, rfl, HOO.out.1⟩, ⟨HAA.out.2.2.1, HBB.out.2.2.1, ⟨HV.out.2.2.2.2.f.n, hcs, hms⟩, HOO.out.2.2.1, HV.out.2.2.2.2.i, HV.out.2.2.2.2.j⟩⟩)
    clear o4 n4 oX nX nbX nbY bX hX hY hYo hYb hYs hYh h4 hlt4 ho4 hb4 hb04 hcs hms hr0 hft
    go_upto_region 3 with fail
    rw [← HX.out]
    clear c0 c1 c2 c3 c4 c5 k0
    go_wp2_with fail
    rw [← HY.out.1]
    obtain ⟨y0, y1, y2, y3, y4, y5⟩ := own6 HY.out.2.1
    exact bodyPost_ret (v := .agg #[.slice Aa la.length ca, .slice Ab lb.length cb, .int .i64 m.i, .int .i64 m.j, .slice As m.f.length cs, .slice Ao lo_.length co]) (by simp [results, Tryz.results11, go_sem, y0, y1, y2, y3, y4, y5]) rfl ⟨⟨Aa, ca, la, Ab, cb, lb, m.i, m.j, As, cs, m.f, Ao, co, lo_⟩, rfl, HOK.out.1, hKU.out.1, HOK.out.2, hKU.out.2.1, HY.out.2.2, hKU.out.2.2⟩
end Go.Proofs.YthpjkikfadfgeaaGreat
namespace Go.Proofs.YthpjkikfadfgeaaGreat
open Go Go.RowKit

structure SameS (s s' : MS) : Prop where
  ta : s.ta.map Up.p = s'.ta.map Up.p
  ra : s.ra.map Up.p = s'.ra.map Up.p
  tb : s.tb.map Up.p = s'.tb.map Up.p
  rb : s.rb.map Up.p = s'.rb.map Up.p
  out : s.out = s'.out
  cost : s.cost = s'.cost
  E : s.E = s'.E
end Go.Proofs.YthpjkikfadfgeaaGreat
namespace Go.Proofs.YthpjkikfadfgeaaGreat
open Go Go.RowKit

end Go.Proofs.YthpjkikfadfgeaaGreat
namespace Go.Proofs.YthpjkikfadfgeaaGreat
open Go Go.RowKit

section
variable {α : Type} {size : Nat} {cells : α → List Value}
end
end Go.Proofs.YthpjkikfadfgeaaGreat
namespace Go.Proofs.YthpjkikfadfgeaaGreat
open Go Go.RowKit

structure Fl where
  n : ByteArray
  d : ByteArray
instance : Inhabited Fl := ⟨⟨⟨#[]⟩, ⟨#[]⟩⟩⟩
def cmpN (a b : ByteArray) : Int := Lib.compareBytes a.data.toList b.data.toList
def SortedN (ns : List ByteArray) : Prop := ns.Pairwise (fun a b => cmpN a b < 0)
def posN (ns : List ByteArray) (n : ByteArray) : Nat := ns.countP (fun x => decide (cmpN x n < 0))
def hasN (ns : List ByteArray) (n : ByteArray) : Bool := ns.any (fun x => decide (x = n))
def namesF (l : List Fl) : List ByteArray := l.map Fl.n
def SortedF (l : List Fl) : Prop := SortedN (namesF l)
def posF (l : List Fl) (n : ByteArray) : Nat := posN (namesF l) n
def hasF (l : List Fl) (n : ByteArray) : Bool := hasN (namesF l) n
def putF (l : List Fl) (f : Fl) : List Fl := l.take (posF l f.n) ++ f :: l.drop (posF l f.n)
def takeF (l : List Fl) (n : ByteArray) : List Fl := if hasF l n then l.take (posF l n) ++ l.drop (posF l n + 1) else l
def oldF (l : List Fl) (n : ByteArray) : Fl := (l[posF l n]?).getD ⟨n, ⟨#[]⟩⟩
def extF (l : List Fl) (n d : ByteArray) : List Fl := if hasF l n then l.set (posF l n) ⟨n, (oldF l n).d ++ d⟩ else putF l ⟨n, ⟨#[]⟩ ++ d⟩
def renF (l : List Fl) (n t : ByteArray) : List Fl := if hasF l n then putF (takeF (takeF l n) t) ⟨t, (oldF l n).d⟩ else l
def getF (l : List Fl) (n : ByteArray) : Option ByteArray := (l.find? (fun f => decide (f.n = n))).map Fl.d
def szF (l : List Fl) : Nat := (l.map (fun f => f.d.size)).sum
structure Wr where
  k : Int
  n : ByteArray
  t : ByteArray
  d : ByteArray
instance : Inhabited Wr := ⟨⟨0, ⟨#[]⟩, ⟨#[]⟩, ⟨#[]⟩⟩⟩
def appF (l : List Fl) (w : Wr) : List Fl := if w.k = 1 then extF l w.n w.d else if w.k = 2 then renF l w.n w.t else if w.k = 3 then takeF l w.n else l
def baseF (fs : List Fl) : List Fl := fs.foldl (fun l f => extF l f.n f.d) []
def lookF (fs : List Fl) (ws : List Wr) : List Fl := ws.foldl appF (baseF fs)
end Go.Proofs.YthpjkikfadfgeaaGreat
namespace Go.Proofs.YthpjkikfadfgeaaGreat
open Go Go.RowKit

def splice (l : List Value) (o : Nat) (vs : List Value) : List Value := l.take o ++ vs ++ l.drop (o + vs.length)
structure KeptK (w w' : World) (S : Nat → Prop) : Prop where
  os : w'.os = w.os
  tape : w'.tape = w.tape
  output : w'.output = w.output
  size : w.heap.size ≤ w'.heap.size
  block : ∀ k, k < w.heap.size → ¬ S k → w'.heap[k]? = w.heap[k]?
section
variable {w w' w'' : World} {S T : Nat → Prop}
theorem KeptK.refl (w : World) (S : Nat → Prop) : KeptK w w S := ⟨rfl, rfl, rfl, Nat.le_refl _, fun _ _ _ => rfl⟩
theorem KeptK.trans (h : KeptK w w' S) (k : KeptK w' w'' T) (hs : ∀ b, b < w.heap.size → T b → S b) : KeptK w w'' S :=
  ⟨k.os.trans h.os, k.tape.trans h.tape, k.output.trans h.output, Nat.le_trans h.size k.size,
    fun b hb hn => (k.block b (Nat.lt_of_lt_of_le hb h.size) (fun ht => hn (hs b hb ht))).trans (h.block b hb hn)⟩
theorem KeptK.more (h : KeptK w w' S) (hs : ∀ b, S b → T b) : KeptK w w' T := ⟨h.os, h.tape, h.output, h.size, fun b hb hn => h.block b hb (fun x => hn (hs b x))⟩
theorem KeptK.of_grown {o : Option Nat} (h : w.grownBy w' o) (hs : ∀ b, o = some b → S b) : KeptK w w' S :=
  ⟨h.os, h.tape, h.output, h.size, fun b hb hn => h.block b hb (fun e => hn (hs b e.symm))⟩
theorem KeptK.below {B : Nat} (h : KeptK w w' S) (hB : ∀ b, S b → B ≤ b) (hs : B ≤ w.heap.size) : Below B w w' := ⟨h.os, h.tape, h.output, h.size, fun b hb => h.block b (by omega) (fun x => by have := hB b x; omega)⟩
theorem KeptK.row {base : Nat} {e : TypeId} {size : Nat} {v : Value} {n : Nat} {xs : List Value} (h : KeptK w w' S) (ho : w.ownsRow base e size v n xs) (hn : ∀ k, v.ownBlock = some k → ¬ S k) : w'.ownsRow base e size v n xs := by
  refine ⟨ho.1, ?_⟩
  rcases ho.2 with h0 | ⟨g, cap, cur, rfl, hb, hg, rest⟩
  · exact .inl h0
  · refine .inr ⟨g, cap, cur, rfl, hb, ?_, rest⟩
    rw [h.block g (Array.getElem?_eq_some_iff.1 hg).1 (hn g rfl)]
    exact hg
theorem KeptK.own {g : Nat} {t : TypeId} {l : List Value} (h : KeptK w w' S) (ho : Own w g t l) (hn : ¬ S g) : Own w' g t l := (h.block g ho.inside hn).trans ho
theorem KeptK.set_ (h : KeptK w w' S) {g o : Nat} (hg : S g ∨ w.heap.size ≤ g) (u : Value) : KeptK w (w'.setCell ⟨g, o, none⟩ u) S :=
  ⟨h.os, h.tape, h.output, by simpa using h.size, fun b hb hn => (Below.heap_setCell w' ⟨g, o, none⟩ u b (by intro e; dsimp only at e; subst e; rcases hg with h1 | h1; exact hn h1; omega)).trans (h.block b hb hn)⟩
theorem KeptK.alloc (h : KeptK w w' S) (o : Obj) : KeptK w (w'.alloc o) S := ⟨h.os, h.tape, h.output, Nat.le_trans h.size (by simp), fun b hb hn => (Below.heap_alloc w' o b (Nat.lt_of_lt_of_le hb h.size)).trans (h.block b hb hn)⟩
theorem KeptK.drew (h : KeptK w w' S) : KeptK w w'.drew S := ⟨h.os, h.tape, h.output, h.size, h.block⟩
end
end Go.Proofs.YthpjkikfadfgeaaGreat
namespace Go.Proofs.YthpjkikfadfgeaaGreat
open Go Go.RowKit

def rcells (m : Mg) (i j : Nat) (v : Value) : List Value := [.slice m.aA m.a.length m.ac, .slice m.bA m.b.length m.bc, .int .i64 (i : Int), .int .i64 (j : Int), .slice m.sA m.f.length m.sc, v]
structure RSt (base P : Nat) (m : Mg) (i j : Nat) (v : Value) (o : List Up) (w : World) : Prop where
  own : Own w P 25 (rcells m i j v)
  row : w.ownsRow base 38 6 v o.length (o.flatMap Up.cells)
  vP : v.ownBlock ≠ some P
  a : Ups w w.heap.size m.aA m.a
  b : Ups w w.heap.size m.bA m.b
  f : Times w w.heap.size m.sA m.f
  o_ : ∀ u ∈ o, UIn w w.heap.size u
  xa : Off P v m.aA m.a
  xb : Off P v m.bA m.b
  xf : OffR P v m.sA m.f.length
  xo : ∀ u ∈ o, OffU P v u
  ok : ∀ u ∈ o, UOk u
  base_ : P < base
  lo : ∀ u ∈ o, ∀ b o', (u.kA = some (⟨b, o', none⟩ : Addr) ∨ u.rA = some (⟨b, o', none⟩ : Addr)) → base ≤ b
theorem RSt.past {base P : Nat} {m : Mg} {i j : Nat} {v : Value} {o : List Up} {w w' : World} (h : RSt base P m i j v o w) (hb : Below w.heap.size w w') : RSt base P m i j v o w' :=
  ⟨h.own.past hb h.own.inside, own_below h.row hb, h.vP, h.a.keep hb, h.b.keep hb, (h.f.past hb (Nat.le_refl _)).wide hb.size, fun u hu => (h.o_ u hu).keep hb, h.xa, h.xb, h.xf, h.xo, h.ok, h.base_, h.lo⟩
theorem RSt.push {base P : Nat} {m : Mg} {i j i' j' : Nat} {v v' : Value} {o e : List Up} {w w1 w2 : World} (h : RSt base P m i j v o w) (hrow : w1.ownsRow base 38 6 v' (o ++ e).length ((o ++ e).flatMap Up.cells)) (hg : w.grownBy w1 v.ownBlock) (hv : v'.ownBlock = v.ownBlock ∨ v'.ownBlock = some w.heap.size)
    (he : ∀ u ∈ e, UIn w w.heap.size u) (hlo : ∀ u ∈ e, OffU P v u) (hek : ∀ u ∈ e, UOk u) (hel : ∀ u ∈ e, ∀ b o', (u.kA = some (⟨b, o', none⟩ : Addr) ∨ u.rA = some (⟨b, o', none⟩ : Addr)) → base ≤ b) (hP : Own w2 P 25 (rcells m i' j' v')) (h2 : w1.grownBy w2 (some P)) : RSt base P m i' j' v' (o ++ e) w2 := by
  have hPin := h.own.inside
  have hs : w.heap.size ≤ w2.heap.size := Nat.le_trans hg.size h2.size
  have hk : ∀ b, b < w.heap.size → b ≠ P → v.ownBlock ≠ some b → w2.heap[b]? = w.heap[b]? := fun b hb h3 h4 => (h2.block b (Nat.lt_of_lt_of_le hb hg.size) (by simpa using h3)).trans (hg.block b hb (Ne.symm h4))
  have hvP : v'.ownBlock ≠ some P := by
    rcases hv with hv | hv
    · rw [hv]; exact h.vP
    · rw [hv]; intro hh; injection hh with hh; omega
  have hin : ∀ u ∈ o ++ e, UIn w w.heap.size u := fun u hu => by
    rcases List.mem_append.1 hu with hu | hu
    · exact h.o_ u hu
    · exact he u hu
  have hof : ∀ u ∈ o ++ e, OffU P v u := fun u hu => by
    rcases List.mem_append.1 hu with hu | hu
    · exact h.xo u hu
    · exact hlo u hu
  exact ⟨hP, World.ownsRow.kept hrow h2 (.inr hvP), hvP, upsF h.a h.xa hs hk, upsF h.b h.xb hs hk, timesF h.f h.xf hs hk, fun u hu => uinF (hin u hu) (hof u hu) hs hk, off_next h.xa hv h.a, off_next h.xb hv h.b, offR_next h.xf hv (times_ad h.f), fun u hu => offU_next (hof u hu) hv (hin u hu), fun u hu => by
    rcases List.mem_append.1 hu with hu | hu
    · exact h.ok u hu
    · exact hek u hu, h.base_, fun u hu => by
    rcases List.mem_append.1 hu with hu | hu
    · exact h.lo u hu
    · exact hel u hu⟩
structure GSt (V wr : World) (g0 l : List Up) (i n : Nat) (u : Up) (v : Value) : Prop where
  below : Below V.heap.size V wr
  row : wr.ownsRow V.heap.size 38 6 v (g0.length + n) ((g0 ++ (l.drop i).take n).flatMap Up.cells)
  keys : ∀ q x, q < n → (l.drop i)[q]? = some x → plc x u = 0
  n_ : n ≤ l.length - i
theorem GSt.next {V wr X w' : World} {g0 l : List Up} {i n : Nat} {u x : Up} {v v' : Value} (h : GSt V wr g0 l i n u v) (hx : (l.drop i)[n]? = some x) (hk : plc x u = 0) (hb : Below wr.heap.size wr X) (hg : X.grownBy w' v.ownBlock) {t : Nat} (ht : t = g0.length + n) (ho : w'.ownsRow V.heap.size 38 6 v' (t + 1) ((g0 ++ (l.drop i).take n).flatMap Up.cells ++ x.cells)) : GSt V w' g0 l i (n + 1) u v' := by
  subst ht
  have hbX : Below V.heap.size V X := belows h.below hb
  have h1 := (List.getElem?_eq_some_iff.1 hx).1
  rw [List.length_drop] at h1
  refine ⟨hbX.trans ((KeptK.of_grown (S := fun j => v.ownBlock = some j) hg (fun _ e => e)).below (fun j hj => (h.row.lt j hj).1) hbX.size), ?_, fun q y hq hy => ?_, by omega⟩
  · have e : g0 ++ (l.drop i).take (n + 1) = (g0 ++ (l.drop i).take n) ++ [x] := by rw [List.take_add_one, hx, List.append_assoc]; rfl
    rw [e, List.flatMap_append, ← Nat.add_assoc]
    simpa using ho
  · by_cases hqn : q = n
    · subst hqn
      rw [hx] at hy
      injection hy with hy
      rw [← hy]; exact hk
    · exact h.keys q y (by omega) hy
end Go.Proofs.YthpjkikfadfgeaaGreat
