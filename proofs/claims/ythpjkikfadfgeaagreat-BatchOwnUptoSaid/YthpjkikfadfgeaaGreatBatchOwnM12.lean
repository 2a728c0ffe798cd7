/- Part 12 of the texts on which BatchOwn rests: facts and contracts. -/
import Derived.Test.YthpjkikfadfgeaaGreatBatchOwnM11
namespace Go.Proofs.YthpjkikfadfgeaaGreat
open Go Go.RowKit

end Go.Proofs.YthpjkikfadfgeaaGreat
namespace Go.Proofs.YthpjkikfadfgeaaGreat
open Go Go.RowKit

def beyB (l : List Tm) (t : Tm) : Bool := l.any fun u => u.le t
end Go.Proofs.YthpjkikfadfgeaaGreat
namespace Go.Proofs.YthpjkikfadfgeaaGreat
open Go Go.RowKit

end Go.Proofs.YthpjkikfadfgeaaGreat
namespace Go.Proofs.YthpjkikfadfgeaaGreat
open Go Go.RowKit

def BuiltR (f : List Tm) (l : List Up) (w : World) (x : Ending) (w' : World) : Prop :=
  ∃ b : Bt, x = .returned (.tuple #[b.val, .int .i64 (bldE f l)]) ∧ (bldE f l = 0 → FrontOk f ∧ b.f = f ∧ b.l.map Up.p = consL [advL f l]) ∧ (bldE f l ≠ 0 → b = Bt.nil) ∧ BtIn w' w'.heap.size b ∧ BtOk b ∧ Below w.heap.size w w'
end Go.Proofs.YthpjkikfadfgeaaGreat
namespace Go.Proofs.YthpjkikfadfgeaaGreat
open Go Go.RowKit

def grpF (l : List Up) (k : List Vl) : List Up := l.filter fun u => decide (cmpRows u.key k = 0)
def SeekR (b : Bt) (key : List Vl) (w : World) (x : Ending) (w' : World) : Prop :=
  ∃ (n : Nat) (E : Int), x = .returned (.tuple #[.int .i64 (n : Int), .int .i64 E]) ∧ (BatchOk b.f b.l ∧ n = seekB b.l key ∧ E = 0 ∨ ¬ BatchOk b.f b.l ∧ n = 0 ∧ E = 4) ∧ Below w.heap.size w w'
def GroupR (b : Bt) (key : List Vl) (w : World) (x : Ending) (w' : World) : Prop :=
  ∃ (A : Option Addr) (c : Nat) (outL : List Up) (E : Int), x = .returned (.tuple #[.slice A outL.length c, .int .i64 E]) ∧ (BatchOk b.f b.l ∧ outL.map Up.p = (groupB b.l key).map Up.p ∧ E = 0 ∨ ¬ BatchOk b.f b.l ∧ outL = [] ∧ E = 4) ∧ Ups w' w'.heap.size A outL ∧ UsOk outL ∧ Below w.heap.size w w'
end Go.Proofs.YthpjkikfadfgeaaGreat
namespace Go.Proofs.YthpjkikfadfgeaaGreat
open Go Go.RowKit

structure CutB (l : List Up) (i : Int) (o : List Up) : Prop where
  lo : 0 ≤ i
  hi : i ≤ l.length
  side : ∀ x y, 0 < i → l[i.toNat - 1]? = some x → l[i.toNat]? = some y → plc x y ≠ 0
  past : ∀ z y, o[o.length - 1]? = some z → l[i.toNat]? = some y → plc z y < 0
-- CUT
end Go.Proofs.YthpjkikfadfgeaaGreat
namespace Go.Proofs.YthpjkikfadfgeaaGreat
open Go Go.RowKit

theorem sameups_yes (A A' : Option Addr) (c c' : Nat) (l m : List Up) (w : World) (hl : Ups w w.heap.size A l) (hm : Ups w w.heap.size A' m) (ol : UsOk l) (om : UsOk m) (h : l.map Up.p = m.map Up.p) :
    Calls Tryz.prog 32 #[.slice A l.length c, .slice A' m.length c'] w fun x w' => x = .returned (.bool true) ∧ Below w.heap.size w w' :=
  (sameU_any A A' c c' l m w hl hm ol.ok om.ok ol.n om.n).mono fun x w' ⟨b, h1, h2, h3⟩ => ⟨by rw [h1, h2.2 h], h3⟩
end Go.Proofs.YthpjkikfadfgeaaGreat
namespace Go.Proofs.YthpjkikfadfgeaaGreat
open Go Go.RowKit

theorem two_mg (w : World) (a b : Mg) : ∃ V, V = (w.alloc (.cells #[.slice a.aA a.a.length a.ac, .slice a.bA a.b.length a.bc, .int .i64 a.i, .int .i64 a.j, .slice a.sA a.f.length a.sc, .slice a.oA a.o.length a.oc] 25)).alloc (.cells #[.slice b.aA b.a.length b.ac, .slice b.bA b.b.length b.bc, .int .i64 b.i, .int .i64 b.j, .slice b.sA b.f.length b.sc, .slice b.oA b.o.length b.oc] 25) ∧ Below w.heap.size w V ∧ Own V w.heap.size 25 a.cells ∧ Own V (w.heap.size + 1) 25 b.cells := by
  obtain ⟨V1, e1, b1, s1, o1⟩ := mgbox w a
  obtain ⟨V2, e2, b2, s2, o2⟩ := mgbox V1 b
  exact ⟨V2, by rw [e2, e1], b1.trans (b2.mono b1.size), o1.past b2 o1.inside, by rw [← s1]; exact o2⟩
structure SameM (x y : Mg) : Prop where
  a : x.a.map Up.p = y.a.map Up.p
  b : x.b.map Up.p = y.b.map Up.p
  i : x.i = y.i
  j : x.j = y.j
  f : x.f = y.f
  o : x.o.map Up.p = y.o.map Up.p
set_option maxRecDepth 100000 in
set_option maxHeartbeats 12800000 in
theorem samem_yes (a b : Mg) (w : World) (ha : MgIn w w.heap.size a) (oa : MgOk a) (hb : MgIn w w.heap.size b) (ob : MgOk b) (h : SameM a b) :
    Calls Tryz.prog 14 #[a.val, b.val] w fun x w' => x = .returned (.bool true) ∧ Below w.heap.size w w' := by
  obtain ⟨V, hV, hvb, hv1, hv2⟩ := two_mg w a b
  have hX := fun p : Past V => own6 (hv1.past p.h hv1.inside)
  have hY := fun p : Past V => own6 (hv2.past p.h hv2.inside)
  have hia := ha.keep hvb
  have hib := hb.keep hvb
  have m2 : a.f.length ≤ maxLen := Nat.le_trans oa.f.le oa.f.c_
  have m3 : b.f.length ≤ maxLen := Nat.le_trans ob.f.le ob.f.c_
  have u1 := fun p : Past V => calls_past (sameups_yes a.aA b.aA a.ac b.ac a.a b.a p.w (hia.keep p.h).a (hib.keep p.h).a oa.a ob.a h.a)
  have u2 := fun p : Past V => calls_past (sameups_yes a.bA b.bA a.bc b.bc a.b b.b p.w (hia.keep p.h).b (hib.keep p.h).b oa.b ob.b h.b)
  have u3 := fun p : Past V => calls_past (same_any a.sA b.sA a.sc b.sc a.f b.f p.w (((hia.keep p.h).f)) (((hib.keep p.h).f)) m2 m3)
  have u4 := fun p : Past V => calls_past (sameups_yes a.oA b.oA a.oc b.oc a.o b.o p.w (hia.keep p.h).o (hib.keep p.h).o oa.o ob.o h.o)
  rw [show decide (a.f = b.f) = true from decide_eq_true h.f] at u3
  have t1 : (a.i == b.i) = true := beq_iff_eq.2 h.i
  have t2 : (a.j == b.j) = true := beq_iff_eq.2 h.j
  have HB := Lib.hid hvb
  rw [show a.val = .agg #[.slice a.aA a.a.length a.ac, .slice a.bA a.b.length a.bc, .int .i64 a.i, .int .i64 a.j, .slice a.sA a.f.length a.sc, .slice a.oA a.o.length a.oc] from rfl, show b.val = .agg #[.slice b.aA b.a.length b.ac, .slice b.bA b.b.length b.bc, .int .i64 b.i, .int .i64 b.j, .slice b.sA b.f.length b.sc, .slice b.oA b.o.length b.oc] from rfl]
  clear ha oa hb ob hvb hv1 hv2 hia hib m2 m3 h
  go_enter Tryz.func14, Tryz.ntmps14
  go_upto_region 1 with fail
  rw [← hV]
  clear hV
  obtain ⟨a0, a1, a2, a3, a4, a5⟩ := hX ⟨V, Below.refl _ _⟩
  obtain ⟨b0, b1, b2, b3, b4, b5⟩ := hY ⟨V, Below.refl _ _⟩
  dsimp only at a0 a1 a2 a3 a4 a5 b0 b1 b2 b3 b4 b5
  go_wp2_with fail
  refine (u1 ⟨V, Below.refl _ _⟩).mono ?_
  rintro _ _ ⟨rfl, ⟨p0, rfl⟩⟩
  clear a0 a1 a2 a3 a4 a5 b0 b1 b2 b3 b4 b5 u1
  obtain ⟨a0, a1, a2, a3, a4, a5⟩ := hX p0
  obtain ⟨b0, b1, b2, b3, b4, b5⟩ := hY p0
  go_wp2_with fail
  refine (u2 p0).mono ?_
  rintro _ _ ⟨rfl, ⟨p1, rfl⟩⟩
  clear a0 a1 a2 a3 a4 a5 b0 b1 b2 b3 b4 b5 u2
  obtain ⟨a0, a1, a2, a3, a4, a5⟩ := hX p1
  obtain ⟨b0, b1, b2, b3, b4, b5⟩ := hY p1
  go_wp2_with fail
  refine (u3 p1).mono ?_
  rintro _ _ ⟨rfl, ⟨p2, rfl⟩⟩
  clear a0 a1 a2 a3 a4 a5 b0 b1 b2 b3 b4 b5 u3
  obtain ⟨a0, a1, a2, a3, a4, a5⟩ := hX p2
  obtain ⟨b0, b1, b2, b3, b4, b5⟩ := hY p2
  go_wp2_with fail
  refine (u4 p2).mono ?_
  rintro _ _ ⟨rfl, ⟨p3, rfl⟩⟩
  clear a0 a1 a2 a3 a4 a5 b0 b1 b2 b3 b4 b5 u4
  obtain ⟨a0, a1, a2, a3, a4, a5⟩ := hX p3
  obtain ⟨b0, b1, b2, b3, b4, b5⟩ := hY p3
  go_wp2_with fail
  go_ret
  exact ⟨rfl, HB.out.trans (p3.h.mono HB.out.size)⟩
end Go.Proofs.YthpjkikfadfgeaaGreat
