/- Part 17 of the texts on which SpineOwn rests: facts and contracts. -/
import Derived.Test.YtgalemkjgaiphaaGreatSpineOwnM16
import Derived.WalkKit
import Derived.ProofKit
import Derived.OpenShut
import Derived.JoinedCond
import Derived.Carry
import Derived.ChangeArms
import Derived.Deep.Slices
import Derived.SizedLaws
import Derived.Test.YtgalemkjgaiphaaGreatRows
namespace Go.Proofs.YtgalemkjgaiphaaGreat
open Go Go.RowKit

theorem two_bt (w : World) (a b : Bt) : ∃ V, V = (w.alloc (.cells #[.slice a.sA a.f.length a.sc, .slice a.uA a.l.length a.uc] 39)).alloc (.cells #[.slice b.sA b.f.length b.sc, .slice b.uA b.l.length b.uc] 39) ∧ Below w.heap.size w V ∧ Own V w.heap.size 39 a.cells ∧ Own V (w.heap.size + 1) 39 b.cells := by
  obtain ⟨V1, e1, b1, s1, o1⟩ := btbox w a
  obtain ⟨V2, e2, b2, s2, o2⟩ := btbox V1 b
  exact ⟨V2, by rw [e2, e1], b1.trans (b2.mono b1.size), o1.past b2 o1.inside, by rw [← s1]; exact o2⟩
set_option maxRecDepth 100000 in
set_option maxHeartbeats 6400000 in
theorem samebatch_any (a b : Bt) (w : World) (ha : BtIn w w.heap.size a) (oa : BtOk a) (hb : BtIn w w.heap.size b) (ob : BtOk b) :
    Calls Tryz.prog 36 #[a.val, b.val] w (Tells (a.f = b.f ∧ a.l.map Up.p = b.l.map Up.p) w) := by
  obtain ⟨V, hV, hvb, hv1, hv2⟩ := two_bt w a b
  have hX := fun p : Past V => own2 (hv1.past p.h hv1.inside)
  have hY := fun p : Past V => own2 (hv2.past p.h hv2.inside)
  have hia := ha.keep hvb
  have hib := hb.keep hvb
  obtain ⟨bu, hbu⟩ := bool_of (a.l.map Up.p = b.l.map Up.p)
  have m2 : a.f.length ≤ maxLen := Nat.le_trans oa.f.le oa.f.c_
  have m3 : b.f.length ≤ maxLen := Nat.le_trans ob.f.le ob.f.c_
  obtain ⟨bf, hbf⟩ : ∃ x : Bool, decide (a.f = b.f) = x := ⟨_, rfl⟩
  have u1 := fun p : Past V => calls_past (same_any a.sA b.sA a.sc b.sc a.f b.f p.w (hia.keep p.h).since (hib.keep p.h).since m2 m3)
  rw [hbf] at u1
  have u2 := fun p : Past V => calls_past ((sameU_any a.uA b.uA a.uc b.uc a.l b.l p.w (hia.keep p.h).ups (hib.keep p.h).ups oa.l.ok ob.l.ok oa.l.n ob.l.n).mono fun x w' h => tells_is hbu h)
  have HB := Lib.hid hvb
  have HE := Lib.hid (show (bf && bu) = true ↔ a.f = b.f ∧ a.l.map Up.p = b.l.map Up.p by rw [Bool.and_eq_true, hbu, ← hbf, decide_eq_true_iff])
  rw [show a.val = .agg #[.slice a.sA a.f.length a.sc, .slice a.uA a.l.length a.uc] from rfl, show b.val = .agg #[.slice b.sA b.f.length b.sc, .slice b.uA b.l.length b.uc] from rfl]
  have HP := Lib.hid (show ∀ c x w', (x = Ending.returned (.bool c) ∧ (c = true ↔ a.f = b.f ∧ a.l.map Up.p = b.l.map Up.p) ∧ Below w.heap.size w w') → Tells (a.f = b.f ∧ a.l.map Up.p = b.l.map Up.p) w x w' from fun n x w' h => ⟨n, h⟩)
  clear ha oa hb ob hvb hv1 hv2 hia hib hbu hbf m2 m3
  go_enter Tryz.func36, Tryz.ntmps36
  go_upto_region 1 with fail
  rw [← hV]
  clear hV
  obtain ⟨a0, a1⟩ := hX ⟨V, Below.refl _ _⟩
  obtain ⟨b0, b1⟩ := hY ⟨V, Below.refl _ _⟩
  dsimp only at a0 a1 b0 b1
  go_wp2_with fail
  refine (u1 ⟨V, Below.refl _ _⟩).mono ?_
  rintro _ _ ⟨rfl, ⟨p1, rfl⟩⟩
  clear a0 a1 b0 b1 u1
  obtain ⟨a0, a1⟩ := hX p1
  obtain ⟨b0, b1⟩ := hY p1
  cases bf with
  | false =>
    clear u2 hX hY
    go_wp2_with fail
    go_ret
    exact HP.out false _ _ ⟨rfl, HE.out, HB.out.trans (p1.h.mono HB.out.size)⟩
  | true =>
  go_wp2_with fail
  refine (u2 p1).mono ?_
  rintro _ _ ⟨rfl, ⟨p2, rfl⟩⟩
  clear a0 a1 b0 b1 u2 hX hY
  go_wp2_with fail
  go_ret
  exact HP.out bu _ _ ⟨rfl, HE.out, HB.out.trans (p2.h.mono HB.out.size)⟩
theorem samebatch_yes (a b : Bt) (w : World) (ha : BtIn w w.heap.size a) (oa : BtOk a) (hb : BtIn w w.heap.size b) (ob : BtOk b) (h : a.f = b.f ∧ a.l.map Up.p = b.l.map Up.p) :
    Calls Tryz.prog 36 #[a.val, b.val] w fun x w' => x = .returned (.bool true) ∧ Below w.heap.size w w' :=
  (samebatch_any a b w ha oa hb ob).mono fun x w' ⟨c, h1, h2, h3⟩ => ⟨by rw [h1, h2.2 h], h3⟩
theorem sameups_yes (A A' : Option Addr) (c c' : Nat) (l m : List Up) (w : World) (hl : Ups w w.heap.size A l) (hm : Ups w w.heap.size A' m) (ol : UsOk l) (om : UsOk m) (h : l.map Up.p = m.map Up.p) :
    Calls Tryz.prog 77 #[.slice A l.length c, .slice A' m.length c'] w fun x w' => x = .returned (.bool true) ∧ Below w.heap.size w w' :=
  (sameU_any A A' c c' l m w hl hm ol.ok om.ok ol.n om.n).mono fun x w' ⟨b, h1, h2, h3⟩ => ⟨by rw [h1, h2.2 h], h3⟩
end Go.Proofs.YtgalemkjgaiphaaGreat
namespace Go.Proofs.YtgalemkjgaiphaaGreat
open Go Go.RowKit

theorem two_mg (w : World) (a b : Mg) : ∃ V, V = (w.alloc (.cells #[.slice a.aA a.a.length a.ac, .slice a.bA a.b.length a.bc, .int .i64 a.i, .int .i64 a.j, .slice a.sA a.f.length a.sc, .slice a.oA a.o.length a.oc] 41)).alloc (.cells #[.slice b.aA b.a.length b.ac, .slice b.bA b.b.length b.bc, .int .i64 b.i, .int .i64 b.j, .slice b.sA b.f.length b.sc, .slice b.oA b.o.length b.oc] 41) ∧ Below w.heap.size w V ∧ Own V w.heap.size 41 a.cells ∧ Own V (w.heap.size + 1) 41 b.cells := by
  obtain ⟨V1, e1, b1, s1, o1⟩ := mgbox w a
  obtain ⟨V2, e2, b2, s2, o2⟩ := mgbox V1 b
  exact ⟨V2, by rw [e2, e1], b1.trans (b2.mono b1.size), o1.past b2 o1.inside, by rw [← s1]; exact o2⟩
structure SameM (x y : Mg) : Prop where
  a : x.a.map Up.p = y.a.map Up.p
  b : x.b.map Up.p = y.b.map Up.p
  i : x.i = y.i
  j : x.j = y.j
  f : x.f = y.f
  o : x.o.map Up.p = y.o.map Up.p
set_option maxRecDepth 100000 in
set_option maxHeartbeats 12800000 in
theorem samem_yes (a b : Mg) (w : World) (ha : MgIn w w.heap.size a) (oa : MgOk a) (hb : MgIn w w.heap.size b) (ob : MgOk b) (h : SameM a b) :
    Calls Tryz.prog 37 #[a.val, b.val] w fun x w' => x = .returned (.bool true) ∧ Below w.heap.size w w' := by
  obtain ⟨V, hV, hvb, hv1, hv2⟩ := two_mg w a b
  have hX := fun p : Past V => own6 (hv1.past p.h hv1.inside)
  have hY := fun p : Past V => own6 (hv2.past p.h hv2.inside)
  have hia := ha.keep hvb
  have hib := hb.keep hvb
  have m2 : a.f.length ≤ maxLen := Nat.le_trans oa.f.le oa.f.c_
  have m3 : b.f.length ≤ maxLen := Nat.le_trans ob.f.le ob.f.c_
  have u1 := fun p : Past V => calls_past (sameups_yes a.aA b.aA a.ac b.ac a.a b.a p.w (hia.keep p.h).a (hib.keep p.h).a oa.a ob.a h.a)
  have u2 := fun p : Past V => calls_past (sameups_yes a.bA b.bA a.bc b.bc a.b b.b p.w (hia.keep p.h).b (hib.keep p.h).b oa.b ob.b h.b)
  have u3 := fun p : Past V => calls_past (same_any a.sA b.sA a.sc b.sc a.f b.f p.w (((hia.keep p.h).f)) (((hib.keep p.h).f)) m2 m3)
  have u4 := fun p : Past V => calls_past (sameups_yes a.oA b.oA a.oc b.oc a.o b.o p.w (hia.keep p.h).o (hib.keep p.h).o oa.o ob.o h.o)
  rw [show decide (a.f = b.f) = true from decide_eq_true h.f] at u3
  have t1 : (a.i == b.i) = true := beq_iff_eq.2 h.i
  have t2 : (a.j == b.j) = true := beq_iff_eq.2 h.j
  have HB := Lib.hid hvb
  rw [show a.val = .agg #[.slice a.aA a.a.length a.ac, .slice a.bA a.b.length a.bc, .int .i64 a.i, .int .i64 a.j, .slice a.sA a.f.length a.sc, .slice a.oA a.o.length a.oc] from rfl, show b.val = .agg #[.slice b.aA b.a.length b.ac, .slice b.bA b.b.length b.bc, .int .i64 b.i, .int .i64 b.j, .slice b.sA b.f.length b.sc, .slice b.oA b.o.length b.oc] from rfl]
  clear ha oa hb ob hvb hv1 hv2 hia hib m2 m3 h
  go_enter Tryz.func37, Tryz.ntmps37
  go_upto_region 1 with fail
  rw [← hV]
  clear hV
  obtain ⟨a0, a1, a2, a3, a4, a5⟩ := hX ⟨V, Below.refl _ _⟩
  obtain ⟨b0, b1, b2, b3, b4, b5⟩ := hY ⟨V, Below.refl _ _⟩
  dsimp only at a0 a1 a2 a3 a4 a5 b0 b1 b2 b3 b4 b5
  go_wp2_with fail
  refine (u1 ⟨V, Below.refl _ _⟩).mono ?_
  rintro _ _ ⟨rfl, ⟨p0, rfl⟩⟩
  clear a0 a1 a2 a3 a4 a5 b0 b1 b2 b3 b4 b5 u1
  obtain ⟨a0, a1, a2, a3, a4, a5⟩ := hX p0
  obtain ⟨b0, b1, b2, b3, b4, b5⟩ := hY p0
  go_wp2_with fail
  refine (u2 p0).mono ?_
  rintro _ _ ⟨rfl, ⟨p1, rfl⟩⟩
  clear a0 a1 a2 a3 a4 a5 b0 b1 b2 b3 b4 b5 u2
  obtain ⟨a0, a1, a2, a3, a4, a5⟩ := hX p1
  obtain ⟨b0, b1, b2, b3, b4, b5⟩ := hY p1
  go_wp2_with fail
  refine (u3 p1).mono ?_
  rintro _ _ ⟨rfl, ⟨p2, rfl⟩⟩
  clear a0 a1 a2 a3 a4 a5 b0 b1 b2 b3 b4 b5 u3
  obtain ⟨a0, a1, a2, a3, a4, a5⟩ := hX p2
  obtain ⟨b0, b1, b2, b3, b4, b5⟩ := hY p2
  go_wp2_with fail
  refine (u4 p2).mono ?_
  rintro _ _ ⟨rfl, ⟨p3, rfl⟩⟩
  clear a0 a1 a2 a3 a4 a5 b0 b1 b2 b3 b4 b5 u4
  obtain ⟨a0, a1, a2, a3, a4, a5⟩ := hX p3
  obtain ⟨b0, b1, b2, b3, b4, b5⟩ := hY p3
  go_wp2_with fail
  go_ret
  exact ⟨rfl, HB.out.trans (p3.h.mono HB.out.size)⟩
end Go.Proofs.YtgalemkjgaiphaaGreat
namespace Go.Proofs.YtgalemkjgaiphaaGreat
open Go Go.RowKit

def KpU (B : Nat) (l : List Up) (v : Value) (W : World) : Prop := ∃ A c, ∃ outL : List Up, v = .slice A outL.length c ∧ outL.map Up.p = l.map Up.p ∧ Ups W W.heap.size A outL ∧ UsOk outL ∧ Lo B A outL ∧ W.ownsRow B 50 6 v outL.length (outL.flatMap Up.cells) ∧ ∀ u ∈ outL, Far B v W u
def KpD (B D : Nat) (l : List Up) (v : Value) (W : World) : Prop := ∃ A c, ∃ outL : List Up, v = .slice A outL.length c ∧ outL.map Up.p = l.map Up.p ∧ Ups W D A outL ∧ UsOk outL ∧ Lo B A outL
theorem KpU.keep {B : Nat} {l : List Up} {v : Value} {W W' : World} (h : KpU B l v W) (b : Below W.heap.size W W') : KpU B l v W' := by
  obtain ⟨A, c, outL, e, hp, hu, ok, lo, ro, fa⟩ := h
  exact ⟨A, c, outL, e, hp, hu.keep b, ok, lo, own_below ro b, fun u hu => (fa u hu).next b.size⟩
theorem KpU.bound {B : Nat} {l : List Up} {v : Value} {W W' : World} (h : KpU B l v W) (b : Below W.heap.size W W') : KpD B W.heap.size l v W' := by
  obtain ⟨A, c, outL, e, hp, hu, ok, lo, _, _⟩ := h
  exact ⟨A, c, outL, e, hp, hu.past b (Nat.le_refl _), ok, lo⟩
theorem KpU.lower {B B' : Nat} {l : List Up} {v : Value} {W : World} (h : KpU B l v W) (hB : B' ≤ B) : KpU B' l v W := by
  obtain ⟨A, c, outL, e, hp, hu, ok, lo, ro, fa⟩ := h
  exact ⟨A, c, outL, e, hp, hu, ok, lo.mono hB, ⟨ro.1, ro.2.imp id fun ⟨g, cap, cur, h1, h2, h3⟩ => ⟨g, cap, cur, h1, Nat.le_trans hB h2, h3⟩⟩, fun u hu b o e => ⟨(fa u hu b o e).1, (fa u hu b o e).2.1, Nat.le_trans hB (fa u hu b o e).2.2⟩⟩
theorem KpD.lower {B B' D : Nat} {l : List Up} {v : Value} {W : World} (h : KpD B D l v W) (hB : B' ≤ B) : KpD B' D l v W := by
  obtain ⟨A, c, outL, e, hp, hu, ok, lo⟩ := h
  exact ⟨A, c, outL, e, hp, hu, ok, lo.mono hB⟩
theorem copyU_kp0 (A : Option Addr) (c : Nat) (l : List Up) (w : World) (hl : Ups w w.heap.size A l) (hok : UsOk l) (h8 : ∀ u ∈ l, u.key.length ≤ 1099511627776 ∧ u.row.length ≤ 1099511627776) :
    Calls Tryz.prog 40 #[.slice A l.length c] w fun x w' => ∃ v, x = .returned v ∧ KpU w.heap.size l v w' ∧ Below w.heap.size w w' := by
  refine (copyU_own A c l w hl hok.ok h8 hok.n).mono ?_
  rintro x w' ⟨v, outL, rfl, hm, hown, hout, hb⟩
  have hlt := hown.lt
  obtain ⟨A', c', rfl, _, _, hl'⟩ := lies_of_own (size := 6) (cells := Up.cells) (by decide) ucells_len rfl hown
  have hn : outL.length = l.length := by have := congrArg List.length hm; simpa using this
  exact ⟨_, rfl, ⟨A', c', outL, rfl, hm, ⟨hl', fun u hu => (hout u hu).1⟩, ⟨by have := hok.n; omega, fun u hu => (hout u hu).2.1⟩, ⟨fun b o e => by subst e; exact (hlt b rfl).1, fun u hu b o e => ((hout u hu).2.2 b o e).2.2⟩, hown, fun u hu => (hout u hu).2.2⟩, hb⟩
theorem copyU_kp (A : Option Addr) (c : Nat) (l : List Up) (w : World) (hl : Ups w w.heap.size A l) (hok : UsOk l) (h8 : ∀ u ∈ l, u.key.length ≤ 1099511627776 ∧ u.row.length ≤ 1099511627776) :
    Calls Tryz.prog 40 #[.slice A l.length c] w fun x w' => ∃ (A' : Option Addr) (c' n' : Nat), x = .returned (.slice A' n' c') ∧ KpU w.heap.size l (.slice A' n' c') w' ∧ Below w.heap.size w w' := by
  refine (copyU_kp0 A c l w hl hok h8).mono ?_
  rintro x w' ⟨v, rfl, h, hb⟩
  have h' := h
  obtain ⟨A', c', outL, rfl, _⟩ := h'
  exact ⟨A', c', outL.length, rfl, h, hb⟩
def CpMidR (P : Nat) (m : Mg) (V wx : World) : Prop := ∃ D va vb vo, V.heap.size ≤ D ∧ D ≤ wx.heap.size ∧ Own wx P 41 [va, vb, .int .i64 m.i, .int .i64 m.j, .slice m.sA m.f.length m.sc, vo] ∧ KpD V.heap.size D m.a va wx ∧ KpD V.heap.size D m.b vb wx ∧ KpU D m.o vo wx ∧ Below P V wx ∧ (∀ b, b < V.heap.size → b ≠ P → wx.heap[b]? = V.heap[b]?)
structure Put3 (P : Nat) (a b c : Value) (W X : World) : Prop where
  own : ∀ t z0 z1 z2 z3 z4 z5, Own W P t [z0, z1, z2, z3, z4, z5] → Own X P t [a, b, z2, z3, z4, c]
  size : X.heap.size = W.heap.size
  other : ∀ k, k ≠ P → X.heap[k]? = W.heap[k]?
  below : ∀ B u, Below B u W → B ≤ P → Below B u X
theorem put3_a (P : Nat) (a b c : Value) (W : World) : Put3 P a b c W (((W.setCell ⟨P, 0, none⟩ a).setCell ⟨P, 1, none⟩ b).setCell ⟨P, 5, none⟩ c) :=
  ⟨fun t z0 z1 z2 z3 z4 z5 h => ((h.set_ 0 a).set_ 1 b).set_ 5 c, by simp [World.setCell], fun k hk => by
    have q := fun (W : World) (i : Nat) (v : Value) => Below.heap_setCell W ⟨P, i, none⟩ v k hk
    rw [q, q, q], fun B u hb hB => ((hb.setCell (p := ⟨P, 0, none⟩) hB _).setCell (p := ⟨P, 1, none⟩) hB _).setCell (p := ⟨P, 5, none⟩) hB _⟩
theorem KpD.put {P B D : Nat} {l : List Up} {v x y z : Value} {W X : World} (h : KpD B D l v W) (hP : P < B) (k : Put3 P x y z W X) (hD : D ≤ W.heap.size) : KpD B D l v X := by
  obtain ⟨A, c, outL, e, hp, hu, ok, lo⟩ := h
  have hb : ∀ b o j, b ≠ P → X.cell? ⟨b, o + j, none⟩ = W.cell? ⟨b, o + j, none⟩ := fun b o j hb => by unfold World.cell?; rw [k.other b hb]
  have hv : ∀ {A : Option Addr} {l : List Vl}, Vals W D A l → (∀ b o, A = some ⟨b, o, none⟩ → b ≠ P) → Vals X D A l := fun {A l} h hA hp => by
    obtain ⟨b, o, e, hB, hc⟩ := h hp
    have hk : ∀ j, X.cell? ⟨b, j, none⟩ = W.cell? ⟨b, j, none⟩ := fun j => by unfold World.cell?; rw [k.other b (hA b o e)]
    refine ⟨b, o, e, hB, fun i v hi => ?_⟩
    obtain ⟨a0, a1, a2⟩ := hc i v hi
    exact ⟨(hk _).trans a0, (hk _).trans a1, (hk _).trans a2⟩
  refine ⟨A, c, outL, e, hp, ⟨fun hp => ?_, fun u hu' => ⟨hv (hu.each_ u hu').key fun b o e => by have := lo.2 u hu' b o (.inl e); omega, hv (hu.each_ u hu').row fun b o e => by have := lo.2 u hu' b o (.inr e); omega⟩⟩, ok, lo⟩
  obtain ⟨b, o, e, hB, hc⟩ := hu.head hp
  have hne : b ≠ P := by have := lo.1 b o e; omega
  exact ⟨b, o, e, hB, fun i x hi j u hj => by
    rw [← hc i x hi j u hj]
    unfold World.cell?
    rw [k.other b hne]⟩
theorem KpU.put {P B : Nat} {l : List Up} {v x y z : Value} {W X : World} (h : KpU B l v W) (hP : P < B) (k : Put3 P x y z W X) : KpU B l v X := by
  obtain ⟨A, c, outL, e, hp, hu, ok, lo, ro, fa⟩ := h
  refine ⟨A, c, outL, e, hp, ups_other hu (lo.mono hP) k.size k.other, ok, lo, ⟨ro.1, ?_⟩, fun u hu => (fa u hu).next (by rw [k.size]; exact Nat.le_refl _)⟩
  rcases ro.2 with h0 | ⟨g, cap, cur, h1, h2, h3, rest⟩
  · exact .inl h0
  · exact .inr ⟨g, cap, cur, h1, h2, (k.other g (by omega)).trans h3, rest⟩
theorem cpmid_of {P D : Nat} {m : Mg} {V W X : World} {va vb vo : Value} (hP : P < V.heap.size) (ho : Own W P 41 m.cells) (hb : Below V.heap.size V W) (hD : V.heap.size ≤ D) (hW : D ≤ W.heap.size) (ka : KpD V.heap.size D m.a va W) (kb : KpD V.heap.size D m.b vb W) (ko : KpU D m.o vo W) (hx : Put3 P va vb vo W X) : CpMidR P m V X :=
  ⟨D, va, vb, vo, hD, by rw [hx.size]; exact hW, hx.own _ _ _ _ _ _ _ ho, ka.put hP hx hW, kb.put hP hx hW, ko.put (by omega) hx, hx.below P V (hb.mono (Nat.le_of_lt hP)) (Nat.le_refl _), fun b hb' hne => (hx.other b hne).trans (hb.block b hb')⟩
structure Nb (B : Nat) (W X : World) : Prop where
  size : X.heap.size = W.heap.size
  other : ∀ b, B ≤ b → X.heap[b]? = W.heap[b]?
theorem Nb.cell {B b j : Nat} {W X : World} (k : Nb B W X) (hb : B ≤ b) : X.cell? ⟨b, j, none⟩ = W.cell? ⟨b, j, none⟩ := by unfold World.cell?; rw [k.other b hb]
theorem Nb.vals {B : Nat} {W X : World} {A : Option Addr} {l : List Vl} (k : Nb B W X) (h : Vals W W.heap.size A l) (hA : ∀ b o, A = some ⟨b, o, none⟩ → B ≤ b) : Vals X X.heap.size A l := fun hp => by
  obtain ⟨b, o, e, hB, hc⟩ := h hp
  have hk := fun j => k.cell (j := j) (hA b o e)
  refine ⟨b, o, e, by rw [k.size]; exact hB, fun i v hi => ?_⟩
  obtain ⟨a0, a1, a2⟩ := hc i v hi
  exact ⟨(hk _).trans a0, (hk _).trans a1, (hk _).trans a2⟩
theorem Nb.ups {B : Nat} {W X : World} {A : Option Addr} {l : List Up} (k : Nb B W X) (h : Ups W W.heap.size A l) (lo : Lo B A l) : Ups X X.heap.size A l := by
  refine ⟨fun hp => ?_, fun u hu => ⟨k.vals (h.each_ u hu).key fun b o e => lo.2 u hu b o (.inl e), k.vals (h.each_ u hu).row fun b o e => lo.2 u hu b o (.inr e)⟩⟩
  obtain ⟨b, o, e, hB, hc⟩ := h.head hp
  exact ⟨b, o, e, by rw [k.size]; exact hB, fun i x hi j u hj => (k.cell (lo.1 b o e)).trans (hc i x hi j u hj)⟩
theorem Nb.times {B : Nat} {W X : World} {A : Option Addr} {l : List Tm} (k : Nb B W X) (h : Times W W.heap.size A l) (lo : LoT B A) : Times X X.heap.size A l := fun hp => by
  obtain ⟨b, o, e, hB, hc⟩ := h hp
  have hk := fun j => k.cell (j := j) (lo b o e)
  refine ⟨b, o, e, by rw [k.size]; exact hB, fun i v hi => ?_⟩
  obtain ⟨a0, a1, a2⟩ := hc i v hi
  exact ⟨(hk _).trans a0, (hk _).trans a1, (hk _).trans a2⟩
theorem Nb.row {B base n size : Nat} {e : TypeId} {v : Value} {xs : List Value} {W X : World} (k : Nb B W X) (h : W.ownsRow base e size v n xs) (hB : B ≤ base) : X.ownsRow base e size v n xs := by
  refine ⟨h.1, ?_⟩
  rcases h.2 with h0 | ⟨g, cap, cur, h1, h2, h3, rest⟩
  · exact .inl h0
  · exact .inr ⟨g, cap, cur, h1, h2, (k.other g (by omega)).trans h3, rest⟩
structure MgRow (w : World) (base : Nat) (m : Mg) : Prop where
  row : w.ownsRow base 50 6 (.slice m.oA m.o.length m.oc) m.o.length (m.o.flatMap Up.cells)
  a : Off w.heap.size (.slice m.oA m.o.length m.oc) m.aA m.a
  b : Off w.heap.size (.slice m.oA m.o.length m.oc) m.bA m.b
  f : OffR w.heap.size (.slice m.oA m.o.length m.oc) m.sA m.f.length
  o : ∀ u ∈ m.o, OffU w.heap.size (.slice m.oA m.o.length m.oc) u
theorem off_bound {D P : Nat} {v : Value} {W : World} {A : Option Addr} {l : List Up} (h : Ups W D A l) (hP : D ≤ P) (hv : ∀ j, v.ownBlock = some j → D ≤ j) : Off P v A l := by
  have key : ∀ {A : Option Addr} {n : Nat}, (0 < n → ∀ b o, A = some (⟨b, o, none⟩ : Addr) → b < D) → OffR P v A n := fun h hp b o e => by
    have := h hp b o e
    exact ⟨by omega, fun e' => by have := hv b e'; omega⟩
  refine ⟨key fun hp b o e => ?_, fun u hu => ⟨key fun hp b o e => ?_, key fun hp b o e => ?_⟩⟩
  · obtain ⟨b', o', e', hB, _⟩ := h.head hp
    rw [e] at e'; injection e' with e'; injection e' with e1 _; omega
  · obtain ⟨b', o', e', hB, _⟩ := (h.each_ u hu).key hp
    rw [e] at e'; injection e' with e'; injection e' with e1 _; omega
  · obtain ⟨b', o', e', hB, _⟩ := (h.each_ u hu).row hp
    rw [e] at e'; injection e' with e'; injection e' with e1 _; omega
theorem nb_one {B P i : Nat} {W : World} {x : Value} (hP : P < B) : Nb B W (W.setCell ⟨P, i, none⟩ x) := ⟨by simp [World.setCell], fun b hb => Below.heap_setCell W ⟨P, i, none⟩ x b (by intro e; dsimp only at e; omega)⟩
def CopiedM (m : Mg) (w : World) (x : Ending) (w' : World) : Prop := ∃ m' : Mg, x = .returned m'.val ∧ SameM m' m ∧ MgIn w' w'.heap.size m' ∧ MgOk m' ∧ MgLo w.heap.size m' ∧ Below w.heap.size w w' ∧ MgRow w' w.heap.size m'
set_option maxRecDepth 100000 in
set_option maxHeartbeats 25600000 in
theorem rcopyM_any (m : Mg) (w : World) (hm : MgIn w w.heap.size m) (hok : MgOk m) (h8 : ∀ u, u ∈ m.a ∨ u ∈ m.b ∨ u ∈ m.o → u.key.length ≤ 1099511627776 ∧ u.row.length ≤ 1099511627776) :
    Calls Tryz.prog 16 #[m.val] w (CopiedM m w) := by
  obtain ⟨V, hV, hvb, hvo, hvz⟩ := wk_box w m
  have hin := hm.keep hvb
  have za := fun W (h : Below V.heap.size V W) => Lib.hid (copyU_kp m.aA m.ac m.a W (hin.keep h).a hok.a fun u hu => h8 u (.inl hu))
  have zb := fun W (h : Below V.heap.size V W) => Lib.hid (copyU_kp m.bA m.bc m.b W (hin.keep h).b hok.b fun u hu => h8 u (.inr (.inl hu)))
  have zo := fun W (h : Below V.heap.size V W) => Lib.hid (copyU_kp m.oA m.oc m.o W (hin.keep h).o hok.o fun u hu => h8 u (.inr (.inr hu)))
  have HV := Lib.hid (And.intro hvb (And.intro hvo (And.intro hvz (And.intro hin hok))))
  have HF := Lib.hid (And.intro hm.f (show m.f.length ≤ 1099511627776 from hok.f.n))
  have hmv : m.val = .agg #[.slice m.aA m.a.length m.ac, .slice m.bA m.b.length m.bc, .int .i64 m.i, .int .i64 m.j, .slice m.sA m.f.length m.sc, .slice m.oA m.o.length m.oc] := rfl
  rw [hmv]
  have HO := Lib.hid (show Own V.drew w.heap.size 41 m.cells from hvo)
  have HB := Lib.hid (Below.refl V.heap.size V).drew
  obtain ⟨a0, a1, a2, a3, a4, a5⟩ := own6 HO.out
  obtain ⟨f0, f1, f2, f3, f4, f5⟩ := own_frozen6 HO.out
  clear hm hok hvb hvo hvz hin hmv h8
  go_enter Tryz.func16, Tryz.ntmps16
  go_upto_region 1 with fail
  rw [← hV]
  clear hV
  go_cut [5] (fun s5 wx => CpMidR w.heap.size m V wx)
  case first =>
    go_region_with (first
      | (go_at_call 40; with_reducible refine (za _ HB.out).out.mono ?_; rintro _ _ ⟨Ava, cva, nva, rfl, ha, b⟩; have HA := Lib.hid (ha.lower HB.out.size); have HO := Lib.hid (HO.out.past b HO.out.inside); clear a0 a1 a2 a3 a4 a5 f0 f1 f2 f3 f4 f5; obtain ⟨a0, a1, a2, a3, a4, a5⟩ := own6 HO.out; obtain ⟨f0, f1, f2, f3, f4, f5⟩ := own_frozen6 HO.out; have HB := Lib.hid (belows HB.out b); clear b ha)
      | (go_at_call 40; with_reducible refine (zb _ HB.out).out.mono ?_; rintro _ _ ⟨Avb, cvb, nvb, rfl, ha, b⟩; have HA := Lib.hid (HA.out.keep b); have HBB := Lib.hid (ha.lower HB.out.size); have HO := Lib.hid (HO.out.past b HO.out.inside); clear a0 a1 a2 a3 a4 a5 f0 f1 f2 f3 f4 f5; obtain ⟨a0, a1, a2, a3, a4, a5⟩ := own6 HO.out; obtain ⟨f0, f1, f2, f3, f4, f5⟩ := own_frozen6 HO.out; have HB := Lib.hid (belows HB.out b); clear b ha)
      | (go_at_call 40; with_reducible refine (zo _ HB.out).out.mono ?_; rintro _ _ ⟨Avo, cvo, nvo, rfl, ha, b⟩; have HD := Lib.hid (And.intro (HA.out.bound b) (And.intro (HBB.out.bound b) (And.intro HB.out.size b.size))); have HOO := Lib.hid ha; have HO := Lib.hid (HO.out.past b HO.out.inside); clear a0 a1 a2 a3 a4 a5 f0 f1 f2 f3 f4 f5; obtain ⟨a0, a1, a2, a3, a4, a5⟩ := own6 HO.out; obtain ⟨f0, f1, f2, f3, f4, f5⟩ := own_frozen6 HO.out; have HB := Lib.hid (belows HB.out b); clear b ha))
    all_goals
      go_wp2_with fail
      go_meet
      exact cpmid_of HV.out.2.1.inside HO.out HB.out HD.out.2.2.1 HD.out.2.2.2 HD.out.1 HD.out.2.1 HOO.out (put3_a _ _ _ _ _)
  case rest =>
    obtain ⟨D, va, vb, vo, hD, hDw, ho, ka, kb, ko, hbP, hoth⟩ := hcut
    obtain ⟨Aa, ca, la, rfl, pa, ua, oka, loa⟩ := ka
    obtain ⟨Ab, cb, lb, rfl, pb, ub, okb, lob⟩ := kb
    obtain ⟨Ao, co, lo_, rfl, po, uo, oko, loo, ro, fa⟩ := ko
    have hPV : w.heap.size + 1 < V.heap.size := HV.out.2.2.1.inside
    have hnil : Own wc (w.heap.size + 1) 41 Mg.nil.cells := (hoth _ hPV (by omega)).trans HV.out.2.2.1
    have hbw : Below w.heap.size w wc := HV.out.1.trans hbP
    have hfx : Times wc w.heap.size m.sA m.f := HF.out.1.past hbw (Nat.le_refl _)
    have hr0 := Lib.hid (show (wc.alloc (.cells #[] 48)).ownsRow wc.heap.size 48 3 (.slice (some ⟨wc.heap.size, 0, none⟩) 0 0) 0 [] from World.ownsRow_made wc #[] 0 (Nat.le_refl _) (Nat.zero_le _) rfl)
    have hal : Below wc.heap.size wc (wc.alloc (.cells #[] 48)) := (Below.refl _ _).alloc (Nat.le_refl _) _
    have hft := Lib.hid (hfx.past hal (Nat.le_trans hbw.size (Nat.le_refl _)))
    have hfn := HF.out.2
    have HAL := Lib.hid hal
    have HC := Lib.hid (And.intro hD (And.intro hDw (And.intro ho (And.intro hnil (And.intro hbw hPV)))))
    have HAA := Lib.hid (And.intro pa (And.intro ua (And.intro oka loa)))
    have HBB := Lib.hid (And.intro pb (And.intro ub (And.intro okb lob)))
    have HOO := Lib.hid (And.intro po (And.intro uo (And.intro oko (And.intro loo (And.intro ro fa)))))
    obtain ⟨c0, c1, c2, c3, c4, c5⟩ := own6 (ho.past hal ho.inside)
    clear ho hnil hbw hfx hal pa ua oka loa pb ub okb lob po uo oko loo ro fa hbP hoth hD hDw za zb zo a0 a1 a2 a3 a4 a5 f0 f1 f2 f3 f4 f5
    go_wp2_with (at_builtin; refine wpList_append_tm _ rfl _ _ rfl wc.heap.size _ _ _ rfl hr0.out w.heap.size m.sA m.sc m.f rfl hft.out ?m1 ?m2 ?m3)
    case m1 => omega
    case m2 => simp
    intro v4 w4 ho4 hb4
    have hlt4 := ho4.lt
    obtain ⟨As, cs, rfl, hcs, hms, h4⟩ := times_of_own (l := m.f) (n := 0 + m.f.length) (by omega) (by simpa using ho4)
    have hb04 : Below wc.heap.size wc w4 := HAL.out.trans hb4
    have o4 := HC.out.2.2.1.past hb04 HC.out.2.2.1.inside
    have n4 := HC.out.2.2.2.1.past hb04 HC.out.2.2.2.1.inside
    obtain ⟨X, hX⟩ : ∃ X, X = w4.setCell ⟨w.heap.size, 4, none⟩ (.slice As m.f.length cs) := ⟨_, rfl⟩
    have oX := o4.set_ 4 (.slice As m.f.length cs)
    have nX := n4.other (p := ⟨w.heap.size, 4, none⟩) (by intro e; dsimp only at e; omega) (.slice As m.f.length cs)
    have nbX : Nb V.heap.size w4 X := hX ▸ nb_one (by omega)
    have bX : Below w.heap.size w X := by
      rw [hX]
      exact ((HC.out.2.2.2.2.1.trans (hb04.mono HC.out.2.2.2.2.1.size)).setCell (p := ⟨w.heap.size, 4, none⟩) (Nat.le_refl _) _)
    rw [← hX] at oX nX
    obtain ⟨Y, hY, hYo, hYb, hYs, hYh⟩ := own_six nX (.slice Aa la.length ca) (.slice Ab lb.length cb) (.int .i64 m.i) (.int .i64 m.j) (.slice As m.f.length cs) (.slice Ao lo_.length co)
    have nbY : Nb V.heap.size X Y := ⟨hYs, fun b hb => hYh b (by omega)⟩
    have k0 := o4.open_ 4
    obtain ⟨c0, c1, c2, c3, c4, c5⟩ := own6 o4
    obtain ⟨x0, x1, x2, x3, x4, x5⟩ := own6 oX
    obtain ⟨g0, g1, g2, g3, g4, g5⟩ := own_frozen6 nX
    obtain ⟨z0, z1, z2, z3, z4, z5⟩ := own6 nX
    have HX := Lib.hid hX
    have HY := Lib.hid (And.intro hY (And.intro hYo (hYb w.heap.size w bX (Nat.le_succ _))))
    have hKU := Lib.hid (show MgIn Y Y.heap.size ⟨Aa, ca, la, Ab, cb, lb, m.i, m.j, As, cs, m.f, Ao, co, lo_⟩ ∧ MgLo w.heap.size ⟨Aa, ca, la, Ab, cb, lb, m.i, m.j, As, cs, m.f, Ao, co, lo_⟩ ∧ MgRow Y w.heap.size ⟨Aa, ca, la, Ab, cb, lb, m.i, m.j, As, cs, m.f, Ao, co, lo_⟩ from by
      obtain ⟨pa, ua, oka, loa⟩ := HAA.out
      obtain ⟨pb, ub, okb, lob⟩ := HBB.out
      obtain ⟨po, uo, oko, loo, ro, fa⟩ := HOO.out
      have hDx := HC.out.2.1
      have hVD := HC.out.1
      have hsz : Y.heap.size = w4.heap.size := hYs.trans nbX.size
      have s4 := hb04.size
      have hVw : w.heap.size ≤ V.heap.size := by omega
      have hro4 := own_below ro hb04
      have hroY := nbY.row (nbX.row hro4 hVD) hVD
      have hlo : ∀ j, (Value.slice Ao lo_.length co).ownBlock = some j → D ≤ j ∧ j < wc.heap.size := fun j hj => ro.lt j hj
      have hsT : LoT V.heap.size As := fun b o e => by have := hlt4 b (by rw [e]; rfl); omega
      refine ⟨⟨nbY.ups (nbX.ups ((ua.past hb04 hDx).wide (by omega)) loa) loa, nbY.ups (nbX.ups ((ub.past hb04 hDx).wide (by omega)) lob) lob, nbY.times (nbX.times h4 hsT) hsT, nbY.ups (nbX.ups (uo.keep hb04) (loo.mono hVD)) (loo.mono hVD)⟩, ⟨loa.mono hVw, lob.mono hVw, fun b o e => Nat.le_trans hVw (hsT b o e), loo.mono (Nat.le_trans hVw hVD)⟩, ⟨⟨hroY.1, hroY.2.imp id fun ⟨g, cap, cur, h1, h2, h3⟩ => ⟨g, cap, cur, h1, by omega, h3⟩⟩, off_bound ua (by omega) (fun j hj => (hlo j hj).1), off_bound ub (by omega) (fun j hj => (hlo j hj).1), fun _ b o e => ?_, fun u hu => ⟨fun _ b o e => ?_, fun _ b o e => ?_⟩⟩⟩
      · have e : As = some ⟨b, o, none⟩ := e
        have h1 := hlt4 b (by rw [e]; rfl)
        exact ⟨by omega, fun e' => by have := (hlo b e').2; omega⟩
      · have h1 := fa u hu b o (.inl e)
        exact ⟨by omega, h1.2.1⟩
      · have h1 := fa u hu b o (.inr e)
        exact ⟨by omega, h1.2.1⟩)
    have HOK := Lib.hid (show SameM ⟨Aa, ca, la, Ab, cb, lb, m.i, m.j, As, cs, m.f, Ao, co, lo_⟩ m ∧ MgOk ⟨Aa, ca, la, Ab, cb, lb, m.i, m.j, As, cs, m.f, Ao, co, lo_⟩ from ⟨⟨HAA.out.1, HBB.out.1, rfl, rfl, rfl, HOO.out.1⟩, ⟨HAA.out.2.2.1, HBB.out.2.2.1, ⟨HV.out.2.2.2.2.f.n, hcs, hms⟩, HOO.out.2.2.1, HV.out.2.2.2.2.i, HV.out.2.2.2.2.j⟩⟩)
    clear o4 n4 oX nX nbX nbY bX hX hY hYo hYb hYs hYh h4 hlt4 ho4 hb4 hb04 hcs hms hr0 hft
    go_upto_region 3 with fail
    rw [← HX.out]
    clear c0 c1 c2 c3 c4 c5 k0
    go_wp2_with fail
    rw [← HY.out.1]
    obtain ⟨y0, y1, y2, y3, y4, y5⟩ := own6 HY.out.2.1
    exact bodyPost_ret (v := .agg #[.slice Aa la.length ca, .slice Ab lb.length cb, .int .i64 m.i, .int .i64 m.j, .slice As m.f.length cs, .slice Ao lo_.length co]) (by simp [results, Tryz.results16, go_sem, y0, y1, y2, y3, y4, y5]) rfl ⟨⟨Aa, ca, la, Ab, cb, lb, m.i, m.j, As, cs, m.f, Ao, co, lo_⟩, rfl, HOK.out.1, hKU.out.1, HOK.out.2, hKU.out.2.1, HY.out.2.2, hKU.out.2.2⟩
end Go.Proofs.YtgalemkjgaiphaaGreat
namespace Go.Proofs.YtgalemkjgaiphaaGreat
open Go Go.RowKit

def CopiedB (b : Bt) (w : World) (x : Ending) (w' : World) : Prop := ∃ b' : Bt, x = .returned b'.val ∧ BtSame b b' ∧ BtIn w' w'.heap.size b' ∧ BtOk b' ∧ BtLo w.heap.size b' ∧ (b'.l.length ≤ b'.uc ∧ b'.uc ≤ maxLen) ∧ Below w.heap.size w w'
set_option maxRecDepth 100000 in
set_option maxHeartbeats 12800000 in
theorem rcopyB_any (b : Bt) (w : World) (hb : BtIn w w.heap.size b) (hok : BtOk b) (h8 : ∀ u ∈ b.l, u.key.length ≤ 1099511627776 ∧ u.row.length ≤ 1099511627776) :
    Calls Tryz.prog 15 #[b.val] w (CopiedB b w) := by
  obtain ⟨V, hV, hvb, hvo, hvz⟩ := bt_box2 w b
  have hin := hb.keep hvb
  have zu := fun W (h : Below w.heap.size w W) => Lib.hid (copyU_kp b.uA b.uc b.l W (hb.keep h).ups hok.l h8)
  have hr0 := Lib.hid (show (V.alloc (.cells #[] 48)).ownsRow V.heap.size 48 3 (.slice (some ⟨V.heap.size, 0, none⟩) 0 0) 0 [] from World.ownsRow_made V #[] 0 (Nat.le_refl _) (Nat.zero_le _) rfl)
  have hal : Below V.heap.size V (V.alloc (.cells #[] 48)) := (Below.refl _ _).alloc (Nat.le_refl _) _
  have hft := Lib.hid (hin.since.past hal (Nat.le_refl _))
  have hfn := hok.f.n
  have H := Lib.hid (And.intro hvb (And.intro hvo (And.intro hvz (And.intro hal (And.intro hok hvz.inside)))))
  obtain ⟨d0, d1⟩ := own2 (hvo.past hal hvo.inside)
  rw [show b.val = .agg #[.slice b.sA b.f.length b.sc, .slice b.uA b.l.length b.uc] from rfl]
  have HP := Lib.hid (show ∀ x w' (b' : Bt), x = .returned b'.val → BtSame b b' → BtIn w' w'.heap.size b' → BtOk b' → BtLo w.heap.size b' → (b'.l.length ≤ b'.uc ∧ b'.uc ≤ maxLen) → Below w.heap.size w w' → CopiedB b w x w' from fun x w' b' h1 h2 h3 h4 h5 h6 h7 => ⟨b', h1, h2, h3, h4, h5, h6, h7⟩)
  clear hb hok hvb hvo hvz hin h8 hal
  go_enter Tryz.func15, Tryz.ntmps15
  go_upto_region 1 with fail
  rw [← hV]
  clear hV
  go_wp2_with (at_builtin; refine wpList_append_tm _ rfl _ _ rfl V.heap.size _ _ _ rfl hr0.out V.heap.size b.sA b.sc b.f rfl hft.out ?m1 ?m2 ?m3)
  case m1 => omega
  case m2 => simp
  intro v1 w1 ho1 hb1
  have hlt1 := ho1.lt
  obtain ⟨As, cs, rfl, hcs, hms, h1⟩ := times_of_own (l := b.f) (n := 0 + b.f.length) (by omega) (by simpa using ho1)
  have hb01 : Below V.heap.size V w1 := H.out.2.2.2.1.trans hb1
  have hP1 := H.out.2.2.2.2.2
  have o1 := H.out.2.1.past hb01 H.out.2.1.inside
  have z1 := H.out.2.2.1.past hb01 hP1
  obtain ⟨X, hX⟩ : ∃ X, X = w1.setCell ⟨w.heap.size, 0, none⟩ (.slice As b.f.length cs) := ⟨_, rfl⟩
  have kX : KeptK w1 X (fun k => k = w.heap.size) := by rw [hX]; exact KeptK.set_ (S := fun k => k = w.heap.size) (KeptK.refl _ _) (.inl rfl) _
  have oX : Own X w.heap.size 39 [.slice As b.f.length cs, .slice b.uA b.l.length b.uc] := by rw [hX]; exact o1.set_ 0 _
  have zX := kX.own z1 (by omega)
  have bX : Below w.heap.size w X := by rw [hX]; exact (H.out.1.trans (hb01.mono H.out.1.size)).setCell (p := ⟨w.heap.size, 0, none⟩) (Nat.le_refl _) _
  have tX : Times X X.heap.size As b.f := times_kept h1 (fun _ b o e hs => by have := (hlt1 b (by rw [e]; rfl)).1; omega) kX
  have yU := zu X bX
  have hsA : ∀ k o, As = some (⟨k, o, none⟩ : Addr) → V.heap.size ≤ k := fun k o e => (hlt1 k (by rw [e]; rfl)).1
  have f0 := o1.open_ 0
  obtain ⟨c0, c1⟩ := own2 o1
  obtain ⟨x0, x1⟩ := own2 oX
  have HX := Lib.hid (And.intro bX (And.intro oX (And.intro zX (And.intro tX (And.intro hsA (And.intro hcs hms))))))
  clear hb01 hP1 o1 z1 kX oX zX bX tX hsA ho1 hb1 hlt1 h1 hcs hms hr0 hft zu d0 d1
  go_upto_region 2 with fail
  rw [← hX]
  clear hX c0 c1 f0
  go_wp2_with fail
  refine yU.out.mono ?_
  rintro _ w2 ⟨Au, cu, nx, rfl, ⟨Ax, cx, outL, e, pu, uu, oku, lou, ro, _⟩, b2⟩
  injection e with e1 e2 e3
  subst e1 e2 e3
  have hro := row_le ro
  have o2 := HX.out.2.1.past b2 HX.out.2.1.inside
  have z2 := HX.out.2.2.1.past b2 HX.out.2.2.1.inside
  have oY := o2.set_ 1 (.slice Au outL.length cu)
  have kY : KeptK w2 (w2.setCell ⟨w.heap.size, 1, none⟩ (.slice Au outL.length cu)) (fun k => k = w.heap.size) := KeptK.set_ (S := fun k => k = w.heap.size) (KeptK.refl _ _) (.inl rfl) _
  have zY := kY.own z2 (by omega)
  have hZ := (zY.set_ 0 (.slice As b.f.length cs)).set_ 1 (.slice Au outL.length cu)
  have kZ : KeptK w2 (((w2.setCell ⟨w.heap.size, 1, none⟩ (.slice Au outL.length cu)).setCell ⟨w.heap.size + 1, 0, none⟩ (.slice As b.f.length cs)).setCell ⟨w.heap.size + 1, 1, none⟩ (.slice Au outL.length cu)) (fun k => k = w.heap.size ∨ k = w.heap.size + 1) :=
    KeptK.set_ (S := fun k => k = w.heap.size ∨ k = w.heap.size + 1) (KeptK.set_ (S := fun k => k = w.heap.size ∨ k = w.heap.size + 1) (KeptK.set_ (S := fun k => k = w.heap.size ∨ k = w.heap.size + 1) (KeptK.refl _ _) (.inl (.inl rfl)) _) (.inl (.inr rfl)) _) (.inl (.inr rfl)) _
  have bZ : Below w.heap.size w (((w2.setCell ⟨w.heap.size, 1, none⟩ (.slice Au outL.length cu)).setCell ⟨w.heap.size + 1, 0, none⟩ (.slice As b.f.length cs)).setCell ⟨w.heap.size + 1, 1, none⟩ (.slice Au outL.length cu)) :=
    below_two ((belows HX.out.1 b2).setCell (p := ⟨w.heap.size, 1, none⟩) (Nat.le_refl _) _) (Nat.le_succ _) _ _
  have hP2 : w.heap.size + 1 < V.heap.size := H.out.2.2.2.2.2
  have hP3 : w.heap.size + 1 < X.heap.size := HX.out.2.2.1.inside
  have HZ := Lib.hid (And.intro (times_kept (tms_keep HX.out.2.2.2.1 b2) (fun _ k o e hs => by have := HX.out.2.2.2.2.1 k o e; omega) kZ) (And.intro (ups_kept uu (lou.of (S := fun k => k = w.heap.size ∨ k = w.heap.size + 1) (fun k hk => by omega)) kZ) (And.intro pu (And.intro oku (And.intro bZ (And.intro (lou.mono (show w.heap.size ≤ X.heap.size by omega)) hro))))))
  obtain ⟨e0, e1⟩ := own2 o2
  obtain ⟨y0, y1⟩ := own2 oY
  obtain ⟨z0, z1⟩ := own2 zY
  obtain ⟨q0, q1⟩ := own2 hZ
  have f1 := o2.open_ 1
  have g0 := zY.open_ 0
  have g1 := zY.open_ 1
  clear pu uu oku lou ro b2 hro o2 z2 oY kY zY hZ kZ bZ x0 x1 yU
  go_wp2_with fail
  exact bodyPost_ret (v := .agg #[.slice As b.f.length cs, .slice Au outL.length cu]) (by simp [results, Tryz.results15, go_sem, q0, q1]) rfl (HP.out _ _ ⟨As, cs, b.f, Au, cu, outL⟩ rfl ⟨rfl, HZ.out.2.2.1⟩ ⟨HZ.out.1, HZ.out.2.1⟩ ⟨⟨H.out.2.2.2.2.1.f.n, HX.out.2.2.2.2.2.1, HX.out.2.2.2.2.2.2⟩, HZ.out.2.2.2.1⟩ ⟨fun k o e => by have := HX.out.2.2.2.2.1 k o e; omega, HZ.out.2.2.2.2.2.1⟩ HZ.out.2.2.2.2.2.2 HZ.out.2.2.2.2.1)
end Go.Proofs.YtgalemkjgaiphaaGreat
namespace Go.Proofs.YtgalemkjgaiphaaGreat
open Go Go.RowKit

structure SpSm (s : Sp) : Prop where
  f : TsOk s.f s.sc
  n : s.L.length ≤ 1048576
  each_ : ∀ l ∈ s.L, BtOk l.b ∧ MgOk l.m
theorem SpOk.sm {s : Sp} (h : SpOk s) : SpSm s := ⟨h.f, h.n, fun l hl => ⟨(h.each_ l hl).b, (h.each_ l hl).m⟩⟩
theorem pl_get {L K : List Lv} (h : L.map Lv.pl = K.map Lv.pl) {i : Nat} {l : Lv} (hl : L[i]? = some l) : ∃ k, K[i]? = some k ∧ LvEq l k := by
  have e := congrArg (·[i]?) h
  simp only [List.getElem?_map, hl, Option.map_some] at e
  cases hk : K[i]? with
  | none => rw [hk] at e; cases e
  | some k => rw [hk] at e; exact ⟨k, rfl, LvEq.of (Option.some.inj e)⟩
theorem two_sp (w : World) (a b : Sp) : ∃ V, V = (w.alloc (.cells #[.slice a.sA a.f.length a.sc, .slice a.lA a.L.length a.lc] 25)).alloc (.cells #[.slice b.sA b.f.length b.sc, .slice b.lA b.L.length b.lc] 25) ∧ Below w.heap.size w V ∧ Own V w.heap.size 25 a.cells ∧ Own V (w.heap.size + 1) 25 b.cells := by
  obtain ⟨V1, e1, b1, s1, o1⟩ := spbox w a
  obtain ⟨V2, e2, b2, s2, o2⟩ := spbox V1 b
  exact ⟨V2, by rw [e2, e1], belows b1 b2, o1.past b2 o1.inside, by rw [← s1]; exact o2⟩
set_option maxRecDepth 100000 in
set_option maxHeartbeats 12800000 in
theorem rsameS_yes (a b : Sp) (w : World) (ha : SpIn w w.heap.size a) (oa : SpSm a) (hb : SpIn w w.heap.size b) (ob : SpSm b) (hf : a.f = b.f) (hL : a.L.map Lv.pl = b.L.map Lv.pl) :
    Calls Tryz.prog 13 #[a.val, b.val] w fun x w' => x = .returned (.bool true) ∧ Below w.heap.size w w' := by
  obtain ⟨V, hV, hvb, hv1, hv2⟩ := two_sp w a b
  have hlen : a.L.length = b.L.length := by have := congrArg List.length hL; simpa using this
  have u1 := Lib.hid (same_any a.sA b.sA a.sc b.sc a.f b.f V (ha.keep hvb).since (hb.keep hvb).since (Nat.le_trans oa.f.le oa.f.c_) (Nat.le_trans ob.f.le ob.f.c_))
  rw [decide_eq_true hf] at u1
  have H := Lib.hid (And.intro (ha.keep hvb) (And.intro (hb.keep hvb) (And.intro oa (And.intro ob (And.intro hL (And.intro hvb (And.intro hv1 hv2)))))))
  have hn := oa.n
  obtain ⟨d0, d1⟩ := own2 hv1
  obtain ⟨e0, e1⟩ := own2 hv2
  rw [← hlen] at e1
  have t1 : ((a.L.length : Int) != (a.L.length : Int)) = false := by simp
  have HLN := Lib.hid hlen
  rw [show a.val = .agg #[.slice a.sA a.f.length a.sc, .slice a.lA a.L.length a.lc] from rfl, show b.val = .agg #[.slice b.sA b.f.length b.sc, .slice b.lA b.L.length b.lc] from rfl, ← hlen]
  rw [← hlen] at hV
  clear ha oa hb ob hvb hv1 hv2 hf hL hlen
  go_enter Tryz.func13, Tryz.ntmps13
  go_upto_region 1 with fail
  rw [← hV]
  clear hV
  go_wp2_with fail
  refine u1.out.mono ?_
  rintro _ w1 ⟨rfl, b1⟩
  have H1 := Lib.hid b1
  clear d0 d1 e0 e1 u1
  obtain ⟨d0, d1⟩ := own2 (H.out.2.2.2.2.2.2.1.past b1 H.out.2.2.2.2.2.2.1.inside)
  clear b1
  go_wp2_with fail
  go_loopw [26] (fun v26 wr => ∃ k : Nat, v26 = .int .i64 (k : Int) ∧ k ≤ a.L.length ∧ Below V.heap.size V wr)
    (fun v26 _ => a.L.length - (intOf v26).toNat)
  case atStart => exact ⟨0, rfl, by omega, H1.out⟩
  case round =>
    obtain ⟨k, rfl, hk, hbw⟩ := hrel
    by_cases hlt : k < a.L.length
    · obtain ⟨l, hl⟩ : ∃ l, a.L[k]? = some l := ⟨_, List.getElem?_eq_getElem hlt⟩
      obtain ⟨m, hm, heq⟩ := pl_get H.out.2.2.2.2.1 hl
      obtain ⟨b', o, hA, hB, hc⟩ := lies_lv H.out.1.lev.head (by omega)
      obtain ⟨c0, c1, c2, c3, c4, c5, c6, c7, c8, c9⟩ := lv_ten fun j u hj => (hbw.cell (p := ⟨b', o + k * 10 + j, none⟩) hB).trans (hc k l hl j u hj)
      obtain ⟨b2, o2, hA2, hB2, hc2⟩ := lies_lv H.out.2.1.lev.head (by rw [← HLN.out]; omega)
      obtain ⟨V5, hV5, hb5, hs5, ho5⟩ := lvbox wr l
      obtain ⟨V6, hV6, hb6, hs6, ho6⟩ := lvbox V5 m
      have hb56 := belows hb5 hb6
      have hbw5 := belows hbw hb5
      obtain ⟨r0, r1, r2, r3, r4, r5, r6, r7, r8, r9⟩ := lv_ten fun j u hj => (hbw5.cell (p := ⟨b2, o2 + k * 10 + j, none⟩) hB2).trans (hc2 k m hm j u hj)
      have hbw6 := belows hbw hb56
      have oe := H.out.2.2.2.2.2.2.2.past hbw5 H.out.2.2.2.2.2.2.2.inside
      obtain ⟨e0, e1⟩ := own2 oe
      rw [← HLN.out, hA2] at e1
      obtain ⟨f0, f1, f2, f3, f4, f5, f6, f7, f8, f9⟩ := own10 (ho5.past hb6 ho5.inside)
      obtain ⟨g0, g1, g2, g3, g4, g5, g6, g7, g8, g9⟩ := own10 ho6
      have hlm := List.mem_of_getElem? hl
      have hmm := List.mem_of_getElem? hm
      have u2 := Lib.hid (samebatch_yes l.b m.b V6 (((H.out.1.lev.each_ l hlm).b.past hbw6 (Nat.le_refl _)).wide hbw6.size) (H.out.2.2.1.each_ l hlm).1 (((H.out.2.1.lev.each_ m hmm).b.past hbw6 (Nat.le_refl _)).wide hbw6.size) (H.out.2.2.2.1.each_ m hmm).1 ⟨heq.bf, heq.bl⟩)
      have u3 := fun W (h : Below V6.heap.size V6 W) => Lib.hid (samem_yes l.m m.m W ((((H.out.1.lev.each_ l hlm).m.past hbw6 (Nat.le_refl _)).wide hbw6.size).keep h) (H.out.2.2.1.each_ l hlm).2 ((((H.out.2.1.lev.each_ m hmm).m.past hbw6 (Nat.le_refl _)).wide hbw6.size).keep h) (H.out.2.2.2.1.each_ m hmm).2 ⟨heq.a, heq.b, heq.i, heq.j, heq.f, heq.o⟩)
      have HK := Lib.hid (And.intro hbw6 (And.intro (ho5.past hb6 ho5.inside) ho6))
      have t2 : (l.cls != m.cls) = false := by rw [heq.cls]; simp
      have t3 : (l.busy != m.busy) = false := by rw [heq.busy]; simp
      have t3' : (!(l.busy == m.busy)) = false := by rw [heq.busy]; simp
      have q0 : (0 : Int) ≤ (k : Int) := by omega
      have q1 : (k : Int) < (a.L.length : Int) := by omega
      rw [hA]
      clear hbw hc hc2 hl hm heq hb5 hs5 ho5 hb6 hs6 ho6 hb56 hbw5 hbw6 oe hlm hmm hA hA2 hB hB2
      go_upto_region 6 with fail
      rw [← hV5]
      clear hV5 c0 c1 c2 c3 c4 c5 c6 c7 c8 c9
      go_upto_region 7 with fail
      rw [← hV6]
      clear hV6 r0 r1 r2 r3 r4 r5 r6 r7 r8 r9 e0 e1
      unfold Bt.val at u2
      unfold Mg.val at u3
      go_wp2_with fail
      refine u2.out.mono ?_
      rintro _ w7 ⟨rfl, b7⟩
      obtain ⟨c0, c1, c2, c3, c4, c5, c6, c7, c8, c9⟩ := own10 (HK.out.2.1.past b7 HK.out.2.1.inside)
      obtain ⟨r0, r1, r2, r3, r4, r5, r6, r7, r8, r9⟩ := own10 (HK.out.2.2.past b7 HK.out.2.2.inside)
      have z3 := u3 w7 b7
      have H7 := Lib.hid (belows HK.out.1 b7)
      clear f0 f1 f2 f3 f4 f5 f6 f7 f8 f9 g0 g1 g2 g3 g4 g5 g6 g7 g8 g9 b7 u2 u3
      go_wp2_with fail
      refine z3.out.mono ?_
      rintro _ w8 ⟨rfl, b8⟩
      have H8 := Lib.hid (belows H7.out b8)
      clear b8 z3
      go_wp2_with fail
      go_roundw
      case rel => exact ⟨k + 1, by go_num, by omega, H8.out⟩
      case measure => simp [intOf]; omega
    · have hkn : k = a.L.length := by omega
      subst hkn
      have hn1 : ¬ ((a.L.length : Int) < (a.L.length : Int)) := by omega
      have HB := Lib.hid (belows H.out.2.2.2.2.2.1 hbw)
      clear hbw
      go_wp2_with fail
      go_ret
      exact ⟨rfl, HB.out⟩
end Go.Proofs.YtgalemkjgaiphaaGreat
namespace Go.Proofs.YtgalemkjgaiphaaGreat
open Go Go.RowKit

section
variable {α : Type} {size : Nat} {cells : α → List Value}
theorem wpList_append_liesK {P : Program} (w : World) {ops : Array Oper} {rest : List Oper} {o : Oper} {a : Act} {Q : Exit → Act → World → Prop} {B : Nat} {A : Option Addr} {l : List α} (hgd : o.guard = none) (s x : Operand) (t e : TypeId)
    (ho : o.op = .call { callee := .builtin .append, args := #[s, x], argTypes := #[t, t] })
    (i0 : TypeInfo) (z : Value) (bytes : Nat) (ht : P.underlying t = some (.slice e)) (hi : P.info? e = some i0) (hz0 : i0.zero = some z) (hz1 : i0.size = size) (hz2 : i0.bytes = bytes) (hzs : z.cells.size = size) (hpos : 0 < size) (hcl : ∀ x, (cells x).length = size) (hone : ∀ x, ∀ u ∈ cells x, u.oneCell' = true)
    (base : Nat) (v : Value) (n : Nat) (xs : List Value) (hs : a.eval s = v) (hown : w.ownsRow base e size v n xs)
    (c : Nat) (hx : a.eval x = .slice A l.length c) (hl : Lies size cells w B A l) (h63 : n + l.length ≤ maxLen) (hn : (n + l.length) * bytes ≤ 140737488355328) (hbase : base ≤ w.heap.size)
    (h : ∀ v' w', w'.ownsRow base e size v' (n + l.length) (xs ++ l.flatMap cells) → w.grownBy w' v.ownBlock → (v'.ownBlock = v.ownBlock ∨ v'.ownBlock = some w.heap.size) → wpList P ops Q rest (a.put o.dst v') w') :
    wpList P ops Q (o :: rest) a w := by
  refine wpList_plain hgd fun K hK => ?_
  obtain ⟨v', w', hrun, ho', hg, hb⟩ : ∃ v' w', (Builtin.append_ #[t, t] o.type #[v, .slice A l.length c]).run P w = .ok v' w' ∧ w'.ownsRow base e size v' (n + l.length) (xs ++ l.flatMap cells) ∧ w.grownBy w' v.ownBlock ∧ (v'.ownBlock = v.ownBlock ∨ v'.ownBlock = some w.heap.size) := by
    cases A with
    | none =>
      have h0 : l = [] := by
        cases l with
        | nil => rfl
        | cons x l => obtain ⟨_, _, e, _⟩ := hl (by simp); cases e
      subst h0
      exact ⟨v, w, run_append_none w base _ _ _ i0 size ht hi v n xs hown c, by simpa using hown, ⟨rfl, rfl, rfl, Nat.le_refl _, fun _ _ _ => rfl⟩, .inl rfl⟩
    | some ad =>
      have hnews : ∀ j u, (l.flatMap cells)[j]? = some u → w.cell? (ad.add j) = some u := by
        intro j u hu
        obtain ⟨i, r, y, rfl, hi, hr⟩ := flat_back hpos hcl l j u hu
        have hp : 0 < l.length := by have := (List.getElem?_eq_some_iff.1 hi).1; omega
        obtain ⟨b, o, e, _, hc⟩ := hl hp
        obtain rfl : ad = ⟨b, o, none⟩ := by injection e
        have ea : (⟨b, o, none⟩ : Addr).add (i * size + r) = ⟨b, o + i * size + r, none⟩ := by unfold Addr.add; split <;> simp_all <;> omega
        rw [ea]
        exact hc i y hi r u hr
      obtain ⟨v', w', hr, h2, h3, _, h5⟩ := run_append_own_at (P := P) w base t o.type e i0 _ size bytes ht hi hz0 hz1 hz2 hzs hpos v n xs hown ad l.length c (l.flatMap cells) (flat_size hcl l) hnews
        (fun u hu => by obtain ⟨y, _, hy⟩ := List.mem_flatMap.1 hu; exact hone y u hy) h63 hn hbase
      exact ⟨v', w', hr, h2, h3, h5⟩
  unfold Oper.wp execOp
  simp only [ho, resolve, invoke, builtin, Sem.run_bind, Sem.run_pure, Result.andThen_ok, List.map_toArray, List.map_cons, List.map_nil, hs, hx, hrun]
  exact hK _ _ (h v' w' ho' hg hb)
end
end Go.Proofs.YtgalemkjgaiphaaGreat
namespace Go.Proofs.YtgalemkjgaiphaaGreat
open Go Go.RowKit Go.ChangeShapes Go.WideShapes Go.ChangeAt Go.Deep

section
variable {H : Type} {enc : TypeId × Value → H} {P : Program} {w : World} {base : Nat} {spare : Nat → Bool} {held : Bool}
end
end Go.Proofs.YtgalemkjgaiphaaGreat
namespace Go.Proofs.YtgalemkjgaiphaaGreat
open Go
variable {H : Type}
theorem bulk_pos (d : DataW H) : 1 ≤ Rows.uptoBulk d := by
  cases d with
  | lit l => cases l <;> simp [Rows.uptoBulk]
  | nil => simp [Rows.uptoBulk]
  | ptr d => simp [Rows.uptoBulk]
  | slice es sp => simp [Rows.uptoBulk]
  | agg ps => simp [Rows.uptoBulk]
  | iface t d => simp [Rows.uptoBulk]
  | map es => simp [Rows.uptoBulk]
  | held h => simp [Rows.uptoBulk]
end Go.Proofs.YtgalemkjgaiphaaGreat
namespace Go.Proofs.YtgalemkjgaiphaaGreat
open Go Go.RowKit Go.ChangeShapes Go.WideShapes Go.ChangeAt Go.Deep

section
variable {H : Type} {enc : TypeId × Value → H} {P : Program} {w : World} {base : Nat} {spare : Nat → Bool} {held : Bool}
theorem lies_gen {α : Type} {size : Nat} {cells : α → List Value} (hcl : ∀ x, 0 < (cells x).length) {len : Nat} {a : Addr} {f : Nat → α} (hp : 0 < len) (hf : ∀ i, i < len → ∀ (j : Nat) (u : Value), (cells (f i))[j]? = some u → w.cell? ((a.add (i * size)).add j) = some u) :
    Lies size cells w w.heap.size (some a) ((List.range len).map f) := fun _ => by
  have hz : ((a.add (0 * size)).add 0) = a := by unfold Addr.add; simp
  obtain ⟨v0, h0⟩ : ∃ v0, w.cell? a = some v0 := by
    have := hf 0 hp 0 _ (List.getElem?_eq_getElem (hcl (f 0)))
    rw [hz] at this
    exact ⟨_, this⟩
  have hspot : a.spot = none := by
    cases hs : a.spot with
    | none => rfl
    | some s =>
      unfold World.cell? at h0
      rw [hs] at h0
      split at h0 <;> simp at h0
  obtain ⟨b, o, sp⟩ := a
  simp only at hspot
  subst hspot
  have hadd : ∀ k j, ((⟨b, o, none⟩ : Addr).add k).add j = ⟨b, o + k + j, none⟩ := fun k j => by unfold Addr.add; split <;> split <;> simp_all
  refine ⟨b, o, rfl, World.block_lt_of_cell? w _ h0, fun i x hit j u hj => ?_⟩
  have hil : i < len := by have := (List.getElem?_eq_some_iff.1 hit).1; simpa using this
  have hti : f i = x := by simpa [hil] using hit
  subst hti
  have := hf i hil j u hj
  rwa [hadd] at this
theorem bulk_sum : ∀ es : List (DataW H × List MemPlace), (es.map (fun z => Rows.uptoBulk z.1)).sum = Rows.uptoBulkAll (es.map (·.1))
  | [] => by simp [Rows.uptoBulkAll]
  | x :: es => by simp only [List.map_cons, List.sum_cons, Rows.uptoBulkAll]; rw [bulk_sum es]
theorem mem_le_sum : ∀ {bs : List Nat} {b : Nat}, b ∈ bs → b ≤ bs.sum
  | [], _, h => by cases h
  | x :: bs, b, h => by
    rw [List.sum_cons]
    rcases List.mem_cons.1 h with rfl | h
    · omega
    · have := mem_le_sum h; omega
theorem len_le_sum : ∀ {bs : List Nat}, (∀ b ∈ bs, 1 ≤ b) → bs.length ≤ bs.sum
  | [], _ => Nat.le_refl _
  | x :: bs, h => by
    have h1 := h x (by simp)
    have h2 := len_le_sum (bs := bs) fun b hb => h b (by simp [hb])
    rw [List.sum_cons, List.length_cons]
    omega
theorem open_list_bulk {α : Type} [Inhabited α] {size : Nat} {cells : α → List Value} {OK : α → Nat → Prop} {t e : TypeId} {fuel : Nat} (ht : P.underlying t = some (.slice e)) (hc : P.cellsOf e = size) (hcl : ∀ x, 0 < (cells x).length)
    (dec : ∀ {n : Nat} {cs : List Value} {x : DataW H × List MemPlace}, n < fuel → DataW.trod enc P w base spare held n e cs = some x → ∃ a, cs = cells a ∧ OK a (Rows.uptoBulk x.1))
    {cs : List Value} {x : DataW H × List MemPlace} (hf : DataW.trod enc P w base spare held fuel t cs = some x) :
    ∃ (A : Option Addr) (c : Nat) (l : List α) (bs : List Nat), cs = [.slice A l.length c] ∧ l.length ≤ c ∧ c ≤ maxLen ∧ Lies size cells w w.heap.size A l ∧ bs.length = l.length ∧ bs.sum + 1 ≤ Rows.uptoBulk x.1 ∧ (∀ b ∈ bs, 1 ≤ b) ∧
      ∀ (i : Nat) (a : α), l[i]? = some a → ∃ b, bs[i]? = some b ∧ OK a b := by
  rcases DataW.trod_slice ht hf with ⟨h1, h2⟩ | ⟨a, len, cap, elems, rest, n, hfu, h1, h2, hb, hl, hm, hlen, hel, hsp, hns⟩
  · subst h1 h2
    exact ⟨none, 0, [], [], rfl, Nat.le_refl _, Nat.zero_le _, Lies.nil_, rfl, by simp [Rows.uptoBulk], fun b h => (by cases h), fun i a h => (by simp at h)⟩
  · rw [hc] at hel
    have hT : ∀ i, i < len → ∃ y : α, (∃ b, (elems.map (fun z => Rows.uptoBulk z.1))[i]? = some b ∧ OK y b) ∧ ∀ (j : Nat) (u : Value), (cells y)[j]? = some u → w.cell? ((a.add (i * size)).add j) = some u := fun i hi => by
      have h1 := hel i hi
      rw [List.getElem?_eq_getElem (by omega)] at h1
      obtain ⟨cs', h2, h3⟩ := Option.bind_eq_some_iff.1 h1
      obtain ⟨y, rfl, hy⟩ := dec (by omega) h3
      obtain ⟨_, hle2, hat⟩ := World.cells?_some h2
      refine ⟨y, ⟨_, by rw [List.getElem?_map, List.getElem?_eq_getElem (by omega)]; rfl, hy⟩, fun j u hj => ?_⟩
      rw [hat j (by have := (List.getElem?_eq_some_iff.1 hj).1; omega)]
      exact hj
    obtain ⟨f, hf'⟩ := choose_lt hT
    have hle : ((List.range len).map f).length = len := by simp
    refine ⟨some a, cap, (List.range len).map f, elems.map (fun z => Rows.uptoBulk z.1), by rw [hle]; exact h1, by rw [hle]; exact hl, hm, ?_, by rw [hle, List.length_map, hlen], ?_, ?_, ?_⟩
    · by_cases hp : 0 < len
      · exact lies_gen hcl hp fun i hi => (hf' i hi).2
      · exact fun h => by rw [hle] at h; omega
    · rw [h2]
      simp only [Rows.uptoBulk]
      rw [bulk_sum]
      omega
    · intro b hb
      obtain ⟨z, _, rfl⟩ := List.mem_map.1 hb
      exact bulk_pos _
    · intro i y hi
      have hil : i < len := by have := (List.getElem?_eq_some_iff.1 hi).1; simpa using this
      have hti : f i = y := by simpa [hil] using hi
      subst hti
      exact (hf' i hil).1
end
end Go.Proofs.YtgalemkjgaiphaaGreat
namespace Go.Proofs.YtgalemkjgaiphaaGreat
open Go Go.RowKit Go.ChangeShapes Go.WideShapes Go.ChangeAt Go.Deep

set_option maxRecDepth 100000
section
variable {H : Type} {enc : TypeId × Value → H} {w : World} {base : Nat} {spare : Nat → Bool} {held : Bool}
theorem wf_nat {n : Int} (h : (Lit.int .u64 n).wf = true) : ∃ m : Nat, n = (m : Int) := by
  have h2 : 0 ≤ n := by
    have : 0 ≤ n ∧ n ≤ 18446744073709551615 := by simpa [Lit.wf, IntKind.min, IntKind.max, IntKind.signed, IntKind.bits] using h
    exact this.1
  exact ⟨n.toNat, (Int.toNat_of_nonneg h2).symm⟩
theorem trod_time {fuel : Nat} {cs : List Value} {x : DataW H × List MemPlace} (h : DataW.trod enc Tryz.prog w base spare held fuel 48 cs = some x) : ∃ t : Tm, cs = t.cells := by
  obtain ⟨xs, n, _, _, hlen, hxs, hf⟩ := DataW.trod_struct Tryz.underlying48 h
  have hc : Tryz.prog.cellsOf 48 = 3 := by kernel_rfl
  have hc1 : Tryz.prog.cellsOf 45 = 1 := by kernel_rfl
  have hc2 : Tryz.prog.cellsOf 46 = 2 := by kernel_rfl
  rw [hc] at hlen
  match cs, hlen with
  | [c0, c1, c2], _ =>
    have h0 := hf 0 _ rfl
    have h1 := hf 1 _ rfl
    match xs, hxs with
    | [y0, y1], _ =>
      simp only [hc1, hc2, List.drop_zero, List.take_succ_cons, List.take_zero, List.drop_succ_cons, List.getElem?_cons_zero, List.getElem?_cons_succ] at h0 h1
      obtain ⟨n0, e0, _, w0⟩ := DataW.trod_int Tryz.underlying45 h0
      obtain ⟨zs, m, _, _, _, hzs, hg⟩ := DataW.trod_array Tryz.underlying46 h1
      match zs, hzs with
      | [z0, z1], _ =>
        have k0 := hg 0 (by omega)
        have k1 := hg 1 (by omega)
        simp only [hc1, Nat.zero_mul, Nat.one_mul, List.drop_zero, List.take_succ_cons, List.take_zero, List.drop_succ_cons, List.getElem?_cons_zero, List.getElem?_cons_succ] at k0 k1
        obtain ⟨n1, e1, _, w1⟩ := DataW.trod_int Tryz.underlying45 k0
        obtain ⟨n2, e2, _, w2⟩ := DataW.trod_int Tryz.underlying45 k1
        obtain ⟨m0, rfl⟩ := wf_nat w0
        obtain ⟨m1, rfl⟩ := wf_nat w1
        obtain ⟨m2, rfl⟩ := wf_nat w2
        obtain rfl := (List.cons.inj e0).1
        obtain rfl := (List.cons.inj e1).1
        obtain rfl := (List.cons.inj e2).1
        exact ⟨⟨m0, m1, m2⟩, rfl⟩
end
end Go.Proofs.YtgalemkjgaiphaaGreat
namespace Go.Proofs.YtgalemkjgaiphaaGreat
open Go Go.RowKit

def RowsAt (w : World) (B : Nat) (A : Option Addr) (L : List (List Vl)) : Prop :=
  0 < L.length → ∃ b o, A = some ⟨b, o, none⟩ ∧ b < B ∧ ∀ (i : Nat) (l : List Vl), L[i]? = some l → ∃ A' c', w.cell? ⟨b, o + i, none⟩ = some (.slice A' l.length c') ∧ Vals w B A' l
section
variable {w w' : World} {B B' : Nat} {A : Option Addr} {L : List (List Vl)}
theorem RowsAt.past (h : RowsAt w B A L) (hb : Below B' w w') (hB : B ≤ B') : RowsAt w' B A L := fun hn => by
  obtain ⟨b, o, e, hlt, hc⟩ := h hn
  refine ⟨b, o, e, hlt, fun i l hi => ?_⟩
  obtain ⟨A', c', h1, h2⟩ := hc i l hi
  exact ⟨A', c', (hb.cell (p := ⟨b, o + i, none⟩) (show b < B' by omega)).trans h1, h2.past hb hB⟩
theorem RowsAt.wide (h : RowsAt w B A L) (hB : B ≤ B') : RowsAt w B' A L := fun hn => by
  obtain ⟨b, o, e, hlt, hc⟩ := h hn
  refine ⟨b, o, e, by omega, fun i l hi => ?_⟩
  obtain ⟨A', c', h1, h2⟩ := hc i l hi
  exact ⟨A', c', h1, h2.wide hB⟩
end
def lens (L : List (List Vl)) : Nat := (L.map List.length).sum
end Go.Proofs.YtgalemkjgaiphaaGreat
namespace Go.Proofs.YtgalemkjgaiphaaGreat
open Go Go.RowKit Go.ChangeShapes Go.WideShapes Go.ChangeAt Go.Deep

set_option maxRecDepth 100000
section
variable {H : Type} {enc : TypeId × Value → H} {w : World} {base : Nat} {spare : Nat → Bool} {held : Bool}
set_option maxRecDepth 100000 in
theorem trod_val {fuel : Nat} {cs : List Value} {x : DataW H × List MemPlace} (h : DataW.trod enc Tryz.prog w base spare held fuel 54 cs = some x) : ∃ v : Vl, cs = v.cells ∧ VOk v := by
  obtain ⟨xs, n, _, _, hlen, hxs, hf⟩ := DataW.trod_struct Tryz.underlying54 h
  have hc : Tryz.prog.cellsOf 54 = 3 := by kernel_rfl
  have hcb : Tryz.prog.cellsOf 4 = 1 := by kernel_rfl
  have hci : Tryz.prog.cellsOf 2 = 1 := by kernel_rfl
  have hcs : Tryz.prog.cellsOf 9 = 1 := by kernel_rfl
  rw [hc] at hlen
  match cs, hlen with
  | [c0, c1, c2], _ =>
    have h0 := hf 0 _ rfl
    have h1 := hf 1 _ rfl
    have h2 := hf 2 _ rfl
    match xs, hxs with
    | [y0, y1, y2], _ =>
      simp only [hcb, hci, hcs, List.drop_zero, List.take_succ_cons, List.take_zero, List.drop_succ_cons, List.getElem?_cons_zero, List.getElem?_cons_succ] at h0 h1 h2
      obtain ⟨n0, e0, _⟩ := DataW.trod_bool Tryz.underlying4 h0
      obtain ⟨n1, e1, _, w1⟩ := DataW.trod_int Tryz.underlying2 h1
      obtain ⟨n2, e2, _, w2⟩ := DataW.trod_string Tryz.underlying9 h2
      obtain rfl := (List.cons.inj e0).1
      obtain rfl := (List.cons.inj e1).1
      obtain rfl := (List.cons.inj e2).1
      exact ⟨⟨n0, n1, n2⟩, rfl, w2, wf_i64 w1⟩
theorem open_rowC {fuel : Nat} {cs : List Value} {x : DataW H × List MemPlace} (h : DataW.trod enc Tryz.prog w base spare held fuel 44 cs = some x) :
    ∃ (A : Option Addr) (c : Nat) (l : List Vl), cs = [.slice A l.length c] ∧ Vals w w.heap.size A l ∧ (∀ v ∈ l, VOk v) ∧ l.length ≤ Rows.uptoBulk x.1 := by
  obtain ⟨A, c, l, bs, e, h1, h2, h3, h4, h5, h6, h7⟩ := open_list_bulk (size := 3) (cells := Vl.cells) (OK := fun v _ => VOk v) Tryz.underlying44 (by kernel_rfl) (fun _ => by simp [Vl.cells]) (fun {n cs x} _ ht => trod_val ht) h
  have := len_le_sum h6
  refine ⟨A, c, l, e, vals_of_lies h3, fun v hv => ?_, by omega⟩
  obtain ⟨i, hi⟩ := List.getElem?_of_mem hv
  exact (h7 i v hi).elim fun _ h => h.2
def UIs (w : World) (u : Up) (b : Nat) : Prop := UIn w w.heap.size u ∧ (b ≤ 1048576 → UOk u)
set_option maxRecDepth 100000 in
theorem trod_up {fuel : Nat} {cs : List Value} {x : DataW H × List MemPlace} (h : DataW.trod enc Tryz.prog w base spare held fuel 50 cs = some x) : ∃ u : Up, cs = u.cells ∧ UIs w u (Rows.uptoBulk x.1) := by
  obtain ⟨xs, n, hfu, hx, hlen, hxs, hf⟩ := DataW.trod_struct Tryz.underlying50 h
  have hc : Tryz.prog.cellsOf 50 = 6 := by kernel_rfl
  have hc0 : Tryz.prog.cellsOf 44 = 1 := by kernel_rfl
  have hc1 : Tryz.prog.cellsOf 48 = 3 := by kernel_rfl
  have hc2 : Tryz.prog.cellsOf 2 = 1 := by kernel_rfl
  rw [hc] at hlen
  match cs, hlen with
  | [c0, c1, c2, c3, c4, c5], _ =>
    have h0 := hf 0 _ rfl
    have h1 := hf 1 _ rfl
    have h2 := hf 2 _ rfl
    have h3 := hf 3 _ rfl
    match xs, hxs with
    | [y0, y1, y2, y3], _ =>
      simp only [hc0, hc1, hc2, List.drop_zero, List.take_succ_cons, List.take_zero, List.drop_succ_cons, List.getElem?_cons_zero, List.getElem?_cons_succ] at h0 h1 h2 h3
      obtain ⟨A0, k0, l0, e0, i0, o0, m0⟩ := open_rowC h0
      obtain ⟨A1, k1, l1, e1, i1, o1, m1⟩ := open_rowC h1
      obtain ⟨t, e2⟩ := trod_time h2
      obtain ⟨d, e3, _, w3⟩ := DataW.trod_int Tryz.underlying2 h3
      have hM : Rows.uptoBulk x.1 = Rows.uptoBulk y0.1 + (Rows.uptoBulk y1.1 + (Rows.uptoBulk y2.1 + (Rows.uptoBulk y3.1 + 0))) + 1 := by
        rw [hx]
        simp only [List.map_cons, List.map_nil, Rows.uptoBulk, Rows.uptoBulkAll]
      obtain rfl := (List.cons.inj e0).1
      obtain rfl := (List.cons.inj e1).1
      obtain rfl := (List.cons.inj e3).1
      simp only [Tm.cells, List.cons.injEq, and_true] at e2
      obtain ⟨rfl, rfl, rfl⟩ := e2
      refine ⟨⟨A0, k0, l0, A1, k1, l1, t, d⟩, rfl, ⟨i0, i1⟩, fun hb => ⟨?_, ?_, o0, o1, wf_i64 w3⟩⟩
      · show l0.length ≤ _; omega
      · show l1.length ≤ _; omega
theorem open_upsC {fuel : Nat} {cs : List Value} {x : DataW H × List MemPlace} (h : DataW.trod enc Tryz.prog w base spare held fuel 37 cs = some x) :
    ∃ s : Rw Up, cs = s.cells ∧ s.l.length ≤ s.c ∧ s.c ≤ maxLen ∧ Ups w w.heap.size s.A s.l ∧ (Rows.uptoBulk x.1 ≤ 1048576 → ∀ u ∈ s.l, UOk u) ∧ s.l.length + 1 ≤ Rows.uptoBulk x.1 := by
  obtain ⟨A, c, l, bs, e, h1, h2, h3, h4, h5, h6, h7⟩ := open_list_bulk (size := 6) (cells := Up.cells) (OK := UIs w) Tryz.underlying37 (by kernel_rfl) (fun _ => by simp [Up.cells]) (fun {n cs x} _ ht => trod_up ht) h
  have := len_le_sum h6
  refine ⟨⟨A, c, l⟩, e, h1, h2, ⟨h3, fun u hu => ?_⟩, fun hb u hu => ?_, by show l.length + 1 ≤ _; omega⟩
  · obtain ⟨i, hi⟩ := List.getElem?_of_mem hu
    exact (h7 i u hi).elim fun _ h => h.2.1
  · obtain ⟨i, hi⟩ := List.getElem?_of_mem hu
    obtain ⟨b, hb1, hb2⟩ := h7 i u hi
    have := mem_le_sum (List.mem_of_getElem? hb1)
    exact hb2.2 (by omega)
theorem open_ups {v : Value} {d : DataW H} {p : List MemPlace} {r : Reach} {b0 : Nat} (hv : Value.okWide Tryz.prog w r b0 37 v) (h : DataW.Trod enc Tryz.prog w base spare held 37 v d p) :
    ∃ (A : Option Addr) (c : Nat) (l : List Up), v = .slice A l.length c ∧ l.length ≤ c ∧ c ≤ maxLen ∧ Ups w w.heap.size A l ∧ (Rows.uptoBulk d ≤ 1048576 → ∀ u ∈ l, UOk u) ∧ l.length ≤ Rows.uptoBulk d := by
  obtain ⟨a0, n0, c0, rfl⟩ := okWide_slice Tryz.underlying37 hv
  obtain ⟨fuel, hf⟩ := h
  simp only [Value.cells] at hf
  obtain ⟨⟨A, c, l⟩, e, h1, h2, h3, h4, h5⟩ := open_upsC hf
  exact ⟨A, c, l, by simpa [Rw.cells] using e, h1, h2, h3, h4, Nat.le_of_succ_le h5⟩
end
end Go.Proofs.YtgalemkjgaiphaaGreat
namespace Go.Proofs.YtgalemkjgaiphaaGreat
open Go Go.RowKit Go.ChangeShapes Go.WideShapes Go.ChangeAt Go.Deep

set_option maxRecDepth 100000
section
variable {H : Type} {enc : TypeId × Value → H} {w : World} {base : Nat} {spare : Nat → Bool} {held : Bool}
theorem open_timesC {fuel : Nat} {cs : List Value} {x : DataW H × List MemPlace} (h : DataW.trod enc Tryz.prog w base spare held fuel 22 cs = some x) :
    ∃ (A : Option Addr) (c : Nat) (l : List Tm), cs = [.slice A l.length c] ∧ l.length ≤ c ∧ c ≤ maxLen ∧ Times w w.heap.size A l ∧ l.length ≤ Rows.uptoBulk x.1 := by
  obtain ⟨A, c, l, bs, e, h1, h2, h3, h4, h5, h6, h7⟩ := open_list_bulk (size := 3) (cells := Tm.cells) (OK := fun _ _ => True) Tryz.underlying22 (by kernel_rfl) (fun _ => by simp [Tm.cells]) (fun {n cs x} _ ht => (trod_time ht).elim fun t e => ⟨t, e, trivial⟩) h
  have := len_le_sum h6
  exact ⟨A, c, l, e, h1, h2, times_lies h3, by omega⟩
end
end Go.Proofs.YtgalemkjgaiphaaGreat
namespace Go.Proofs.YtgalemkjgaiphaaGreat
open Go Go.RowKit Go.ChangeShapes Go.WideShapes Go.ChangeAt Go.Deep

def UOkK (u : Up) : Prop := UOk u ∧ u.key.length ≤ 1099511627776 ∧ u.row.length ≤ 1099511627776
set_option maxRecDepth 100000
section
variable {H : Type} {enc : TypeId × Value → H} {w : World} {base : Nat} {spare : Nat → Bool} {held : Bool}
def UIsK (w : World) (u : Up) (b : Nat) : Prop := UIn w w.heap.size u ∧ (b ≤ 1048576 → UOkK u)
set_option maxRecDepth 100000 in
theorem trod_upK {fuel : Nat} {cs : List Value} {x : DataW H × List MemPlace} (h : DataW.trod enc Tryz.prog w base spare held fuel 50 cs = some x) : ∃ u : Up, cs = u.cells ∧ UIsK w u (Rows.uptoBulk x.1) := by
  obtain ⟨xs, n, hfu, hx, hlen, hxs, hf⟩ := DataW.trod_struct Tryz.underlying50 h
  have hc : Tryz.prog.cellsOf 50 = 6 := by kernel_rfl
  have hc0 : Tryz.prog.cellsOf 44 = 1 := by kernel_rfl
  have hc1 : Tryz.prog.cellsOf 48 = 3 := by kernel_rfl
  have hc2 : Tryz.prog.cellsOf 2 = 1 := by kernel_rfl
  rw [hc] at hlen
  match cs, hlen with
  | [c0, c1, c2, c3, c4, c5], _ =>
    have h0 := hf 0 _ rfl
    have h1 := hf 1 _ rfl
    have h2 := hf 2 _ rfl
    have h3 := hf 3 _ rfl
    match xs, hxs with
    | [y0, y1, y2, y3], _ =>
      simp only [hc0, hc1, hc2, List.drop_zero, List.take_succ_cons, List.take_zero, List.drop_succ_cons, List.getElem?_cons_zero, List.getElem?_cons_succ] at h0 h1 h2 h3
      obtain ⟨A0, k0, l0, e0, i0, o0, m0⟩ := open_rowC h0
      obtain ⟨A1, k1, l1, e1, i1, o1, m1⟩ := open_rowC h1
      obtain ⟨t, e2⟩ := trod_time h2
      obtain ⟨d, e3, _, w3⟩ := DataW.trod_int Tryz.underlying2 h3
      have hM : Rows.uptoBulk x.1 = Rows.uptoBulk y0.1 + (Rows.uptoBulk y1.1 + (Rows.uptoBulk y2.1 + (Rows.uptoBulk y3.1 + 0))) + 1 := by
        rw [hx]
        simp only [List.map_cons, List.map_nil, Rows.uptoBulk, Rows.uptoBulkAll]
      obtain rfl := (List.cons.inj e0).1
      obtain rfl := (List.cons.inj e1).1
      obtain rfl := (List.cons.inj e3).1
      simp only [Tm.cells, List.cons.injEq, and_true] at e2
      obtain ⟨rfl, rfl, rfl⟩ := e2
      refine ⟨⟨A0, k0, l0, A1, k1, l1, t, d⟩, rfl, ⟨i0, i1⟩, fun hb => ⟨⟨?_, ?_, o0, o1, wf_i64 w3⟩, ?_, ?_⟩⟩
      · show l0.length ≤ _; omega
      · show l1.length ≤ _; omega
      · show l0.length ≤ _; omega
      · show l1.length ≤ _; omega
theorem open_upsK {fuel : Nat} {cs : List Value} {x : DataW H × List MemPlace} (h : DataW.trod enc Tryz.prog w base spare held fuel 37 cs = some x) :
    ∃ s : Rw Up, cs = s.cells ∧ s.l.length ≤ s.c ∧ s.c ≤ maxLen ∧ Ups w w.heap.size s.A s.l ∧ (Rows.uptoBulk x.1 ≤ 1048576 → ∀ u ∈ s.l, UOkK u) ∧ s.l.length + 1 ≤ Rows.uptoBulk x.1 := by
  obtain ⟨A, c, l, bs, e, h1, h2, h3, h4, h5, h6, h7⟩ := open_list_bulk (size := 6) (cells := Up.cells) (OK := UIsK w) Tryz.underlying37 (by kernel_rfl) (fun _ => by simp [Up.cells]) (fun {n cs x} _ ht => trod_upK ht) h
  have := len_le_sum h6
  refine ⟨⟨A, c, l⟩, e, h1, h2, ⟨h3, fun u hu => ?_⟩, fun hb u hu => ?_, by show l.length + 1 ≤ _; omega⟩
  · obtain ⟨i, hi⟩ := List.getElem?_of_mem hu
    exact (h7 i u hi).elim fun _ h => h.2.1
  · obtain ⟨i, hi⟩ := List.getElem?_of_mem hu
    obtain ⟨b, hb1, hb2⟩ := h7 i u hi
    have := mem_le_sum (List.mem_of_getElem? hb1)
    exact hb2.2 (by omega)
end
end Go.Proofs.YtgalemkjgaiphaaGreat
