/- Part 5 of the texts on which SpineOwn rests: facts and contracts. -/
import Derived.Test.YtgalemkjgaiphaaGreatSpineOwnM4
import Derived.Handy
import Derived.Deep.DeepAppendRoom
import Derived.ArgAppend
import Derived.BigQuiet
import Derived.Deep.QuietTactic
namespace Go.Proofs.YtgalemkjgaiphaaGreat
open Go Go.RowKit

structure Bt where
  sA : Option Addr
  sc : Nat
  f : List Tm
  uA : Option Addr
  uc : Nat
  l : List Up
namespace Bt
def cells (b : Bt) : List Value := [.slice b.sA b.f.length b.sc, .slice b.uA b.l.length b.uc]
def val (b : Bt) : Value := .agg #[.slice b.sA b.f.length b.sc, .slice b.uA b.l.length b.uc]
end Bt
structure BtIn (w : World) (B : Nat) (b : Bt) : Prop where
  since : Times w B b.sA b.f
  ups : Ups w B b.uA b.l
theorem BtIn.past {w w' : World} {B B' : Nat} {b : Bt} (h : BtIn w B b) (hb : Below B' w w') (hB : B ≤ B') : BtIn w' B b := ⟨h.since.past hb hB, h.ups.past hb hB⟩
theorem BtIn.wide {w : World} {B B' : Nat} {b : Bt} (h : BtIn w B b) (hB : B ≤ B') : BtIn w B' b := ⟨h.since.wide hB, h.ups.wide hB⟩
theorem BtIn.keep {w w' : World} {b : Bt} (h : BtIn w w.heap.size b) (hb : Below w.heap.size w w') : BtIn w' w'.heap.size b := (h.past hb (Nat.le_refl _)).wide hb.size
def big : Nat := 1099511627776
structure TsOk (f : List Tm) (c : Nat) : Prop where
  n : f.length ≤ 1099511627776
  le : f.length ≤ c
  c_ : c ≤ maxLen
structure UsOk (l : List Up) : Prop where
  n : l.length ≤ 1099511627776
  ok : ∀ u ∈ l, UOk u
structure BtOk (b : Bt) : Prop where
  f : TsOk b.f b.sc
  l : UsOk b.l
def Bt.nil : Bt := ⟨none, 0, [], none, 0, []⟩
theorem bt_nil_in (w : World) (B : Nat) : BtIn w B Bt.nil := ⟨Times.nil_, ⟨Lies.nil_, fun u hu => by cases hu⟩⟩
theorem ts_nil : TsOk [] 0 := ⟨Nat.zero_le _, Nat.le_refl _, Nat.zero_le _⟩
theorem us_nil : UsOk [] := ⟨Nat.zero_le _, fun u hu => by cases hu⟩
theorem bt_nil_ok : BtOk Bt.nil := ⟨ts_nil, us_nil⟩
def LoT (B : Nat) (A : Option Addr) : Prop := ∀ b o, A = some (⟨b, o, none⟩ : Addr) → B ≤ b
structure BtLo (B : Nat) (b : Bt) : Prop where
  f : LoT B b.sA
  l : Lo B b.uA b.l
theorem lot_nil (B : Nat) : LoT B none := fun _ _ h => by cases h
theorem bt_nil_lo (B : Nat) : BtLo B Bt.nil := ⟨lot_nil B, lo_nil B⟩
theorem Lo.mono {B B' : Nat} {A : Option Addr} {l : List Up} (h : Lo B A l) (hB : B' ≤ B) : Lo B' A l := ⟨fun b o e => Nat.le_trans hB (h.1 b o e), fun u hu b o e => Nat.le_trans hB (h.2 u hu b o e)⟩
theorem LoT.mono {B B' : Nat} {A : Option Addr} (h : LoT B A) (hB : B' ≤ B) : LoT B' A := fun b o e => Nat.le_trans hB (h b o e)
theorem BtLo.mono {B B' : Nat} {b : Bt} (h : BtLo B b) (hB : B' ≤ B) : BtLo B' b := ⟨h.f.mono hB, h.l.mono hB⟩
structure Mg where
  aA : Option Addr
  ac : Nat
  a : List Up
  bA : Option Addr
  bc : Nat
  b : List Up
  i : Int
  j : Int
  sA : Option Addr
  sc : Nat
  f : List Tm
  oA : Option Addr
  oc : Nat
  o : List Up
namespace Mg
def cells (m : Mg) : List Value := [.slice m.aA m.a.length m.ac, .slice m.bA m.b.length m.bc, .int .i64 m.i, .int .i64 m.j, .slice m.sA m.f.length m.sc, .slice m.oA m.o.length m.oc]
def val (m : Mg) : Value := .agg #[.slice m.aA m.a.length m.ac, .slice m.bA m.b.length m.bc, .int .i64 m.i, .int .i64 m.j, .slice m.sA m.f.length m.sc, .slice m.oA m.o.length m.oc]
def nil : Mg := ⟨none, 0, [], none, 0, [], 0, 0, none, 0, [], none, 0, []⟩
end Mg
structure MgIn (w : World) (B : Nat) (m : Mg) : Prop where
  a : Ups w B m.aA m.a
  b : Ups w B m.bA m.b
  f : Times w B m.sA m.f
  o : Ups w B m.oA m.o
theorem MgIn.past {w w' : World} {B B' : Nat} {m : Mg} (h : MgIn w B m) (hb : Below B' w w') (hB : B ≤ B') : MgIn w' B m := ⟨h.a.past hb hB, h.b.past hb hB, h.f.past hb hB, h.o.past hb hB⟩
theorem MgIn.wide {w : World} {B B' : Nat} {m : Mg} (h : MgIn w B m) (hB : B ≤ B') : MgIn w B' m := ⟨h.a.wide hB, h.b.wide hB, h.f.wide hB, h.o.wide hB⟩
theorem MgIn.keep {w w' : World} {m : Mg} (h : MgIn w w.heap.size m) (hb : Below w.heap.size w w') : MgIn w' w'.heap.size m := (h.past hb (Nat.le_refl _)).wide hb.size
structure MgOk (m : Mg) : Prop where
  a : UsOk m.a
  b : UsOk m.b
  f : TsOk m.f m.sc
  o : UsOk m.o
  i : -9223372036854775808 ≤ m.i ∧ m.i ≤ 9223372036854775807
  j : -9223372036854775808 ≤ m.j ∧ m.j ≤ 9223372036854775807
structure MgLo (B : Nat) (m : Mg) : Prop where
  a : Lo B m.aA m.a
  b : Lo B m.bA m.b
  f : LoT B m.sA
  o : Lo B m.oA m.o
theorem MgLo.mono {B B' : Nat} {m : Mg} (h : MgLo B m) (hB : B' ≤ B) : MgLo B' m := ⟨h.a.mono hB, h.b.mono hB, h.f.mono hB, h.o.mono hB⟩
theorem mg_nil_in (w : World) (B : Nat) : MgIn w B Mg.nil := ⟨⟨Lies.nil_, fun u hu => by cases hu⟩, ⟨Lies.nil_, fun u hu => by cases hu⟩, Times.nil_, ⟨Lies.nil_, fun u hu => by cases hu⟩⟩
theorem mg_nil_ok : MgOk Mg.nil := ⟨us_nil, us_nil, ts_nil, us_nil, by decide, by decide⟩
theorem mg_nil_lo (B : Nat) : MgLo B Mg.nil := ⟨lo_nil B, lo_nil B, lot_nil B, lo_nil B⟩
theorem btbox (w : World) (b : Bt) : ∃ W, W = w.alloc (.cells #[.slice b.sA b.f.length b.sc, .slice b.uA b.l.length b.uc] 39) ∧ Below w.heap.size w W ∧ W.heap.size = w.heap.size + 1 ∧ Own W w.heap.size 39 b.cells :=
  ⟨_, rfl, (Below.refl _ _).alloc (Nat.le_refl _) _, by simp, Own.made w 39 b.cells⟩
theorem mgbox (w : World) (m : Mg) : ∃ W, W = w.alloc (.cells #[.slice m.aA m.a.length m.ac, .slice m.bA m.b.length m.bc, .int .i64 m.i, .int .i64 m.j, .slice m.sA m.f.length m.sc, .slice m.oA m.o.length m.oc] 41) ∧ Below w.heap.size w W ∧ W.heap.size = w.heap.size + 1 ∧ Own W w.heap.size 41 m.cells :=
  ⟨_, rfl, (Below.refl _ _).alloc (Nat.le_refl _) _, by simp, Own.made w 41 m.cells⟩
theorem times_other {w X : World} {P : Nat} {A : Option Addr} {l : List Tm} (h : Times w w.heap.size A l) (hA : LoT (P + 1) A) (hs : X.heap.size = w.heap.size) (hX : ∀ b, b ≠ P → X.heap[b]? = w.heap[b]?) : Times X X.heap.size A l := fun hp => by
  obtain ⟨b, o, e, hb, hc⟩ := h hp
  have hne : b ≠ P := by have := hA b o e; omega
  have hk : ∀ j, X.cell? ⟨b, j, none⟩ = w.cell? ⟨b, j, none⟩ := fun j => by unfold World.cell?; rw [hX b hne]
  refine ⟨b, o, e, by omega, fun i v hi => ?_⟩
  obtain ⟨a0, a1, a2⟩ := hc i v hi
  exact ⟨(hk _).trans a0, (hk _).trans a1, (hk _).trans a2⟩
theorem ups_other {w X : World} {P : Nat} {A : Option Addr} {l : List Up} (h : Ups w w.heap.size A l) (hlo : Lo (P + 1) A l) (hs : X.heap.size = w.heap.size) (hX : ∀ b, b ≠ P → X.heap[b]? = w.heap[b]?) : Ups X X.heap.size A l := by
  refine ⟨fun hp => ?_, fun u hu => ⟨vals_other (h.each_ u hu).key (fun b o e => hlo.2 u hu b o (.inl e)) hs hX, vals_other (h.each_ u hu).row (fun b o e => hlo.2 u hu b o (.inr e)) hs hX⟩⟩
  obtain ⟨b, o, e, hb, hc⟩ := h.head hp
  have hne : b ≠ P := by have := hlo.1 b o e; omega
  exact ⟨b, o, e, by omega, fun i x hi j u hj => by
    rw [← hc i x hi j u hj]
    unfold World.cell?
    rw [hX b hne]⟩
theorem set2_other (w : World) (P : Nat) (x y : Value) : ((w.setCell ⟨P, 0, none⟩ x).setCell ⟨P, 1, none⟩ y).heap.size = w.heap.size ∧ ∀ b, b ≠ P → ((w.setCell ⟨P, 0, none⟩ x).setCell ⟨P, 1, none⟩ y).heap[b]? = w.heap[b]? :=
  ⟨by simp [World.setCell], fun b hb => (Below.heap_setCell _ ⟨P, 1, none⟩ y b hb).trans (Below.heap_setCell w ⟨P, 0, none⟩ x b hb)⟩
end Go.Proofs.YtgalemkjgaiphaaGreat
namespace Go.Proofs.YtgalemkjgaiphaaGreat
open Go Go.RowKit

structure IntsOnly (B : Nat) (V W : World) : Prop where
  below : Below B V W
  size : W.heap.size = V.heap.size
  open_ : ∀ a, W.frozen? a = V.frozen? a
  cell : ∀ a v, V.cell? a = some v → W.cell? a = some v ∨ ∃ n m : Int, v = .int .i64 n ∧ W.cell? a = some (.int .i64 m)
theorem IntsOnly.refl (B : Nat) (V : World) : IntsOnly B V V := ⟨Below.refl _ _, rfl, fun _ => rfl, fun _ _ h => .inl h⟩
theorem IntsOnly.drew {B : Nat} {V W : World} (h : IntsOnly B V W) : IntsOnly B V W.drew := ⟨h.below.drew, h.size, h.open_, h.cell⟩
theorem IntsOnly.set {B : Nat} {V W : World} {a : Addr} {n : Int} (h : IntsOnly B V W) (ha : W.cell? a = some (.int .i64 n)) (hB : B ≤ a.block) (k : Int) : IntsOnly B V (W.setCell a (.int .i64 k)) := by
  refine ⟨h.below.setCell hB _, by rw [← h.size]; simp [World.setCell], fun b => by rw [World.frozen?_setCell]; exact h.open_ b, fun b v hb => ?_⟩
  by_cases e : a = b
  · subst e
    rw [World.cell?_setCell_same (h := ha)]
    rcases h.cell a v hb with h1 | ⟨i, j, rfl, _⟩
    · rw [ha] at h1
      injection h1 with h1
      exact .inr ⟨n, k, h1.symm, rfl⟩
    · exact .inr ⟨i, k, rfl, rfl⟩
  · rw [World.cell?_setCell_other (h := e)]
    exact h.cell b v hb
theorem IntsOnly.slice {B : Nat} {V W : World} {a : Addr} {A : Option Addr} {n c : Nat} (h : IntsOnly B V W) (ha : V.cell? a = some (.slice A n c)) : W.cell? a = some (.slice A n c) := by
  rcases h.cell a _ ha with h1 | ⟨_, _, e, _⟩
  · exact h1
  · cases e
theorem IntsOnly.int {B : Nat} {V W : World} {a : Addr} {n : Int} (h : IntsOnly B V W) (ha : V.cell? a = some (.int .i64 n)) : ∃ m, W.cell? a = some (.int .i64 m) := by
  rcases h.cell a _ ha with h1 | ⟨_, m, _, h1⟩
  · exact ⟨n, h1⟩
  · exact ⟨m, h1⟩
structure SpoilAt (W : World) (B : Nat) (u : Up) (p : Nat) (o : Nat) : Prop where
  lo : B ≤ p
  row : W.cell? ⟨p, o + 1, none⟩ = some (.slice u.rA u.row.length u.rc)
  diff : ∃ n, W.cell? ⟨p, o + 5, none⟩ = some (.int .i64 n)
  openU : W.frozen? ⟨p, o + 5, none⟩ = false
  vals : ∀ (i : Nat), i < u.row.length → ∃ b q n, u.rA = some ⟨b, q, none⟩ ∧ B ≤ b ∧ W.cell? ⟨b, q + 3 * i + 1, none⟩ = some (.int .i64 n) ∧ W.frozen? ⟨b, q + 3 * i + 1, none⟩ = false
theorem SpoilAt.past {B : Nat} {V W : World} {u : Up} {p o : Nat} (h : SpoilAt V B u p o) (k : IntsOnly B V W) : SpoilAt W B u p o := by
  obtain ⟨n, hn⟩ := h.diff
  refine ⟨h.lo, k.slice h.row, k.int hn, (k.open_ _).trans h.openU, fun i hi => ?_⟩
  obtain ⟨b, q, n, e, hb, hc, hf⟩ := h.vals i hi
  obtain ⟨m, hm⟩ := k.int hc
  exact ⟨b, q, m, e, hb, hm, (k.open_ _).trans hf⟩
end Go.Proofs.YtgalemkjgaiphaaGreat
namespace Go.Proofs.YtgalemkjgaiphaaGreat
open Go Go.RowKit

def Opn (w : World) (B : Nat) (A : Option Addr) : Prop := ∀ b o, A = some (⟨b, o, none⟩ : Addr) → B ≤ b ∧ ∃ cs t, w.heap[b]? = some (.cells cs t (0, 0))
theorem Opn.none_ (w : World) (B : Nat) : Opn w B none := fun _ _ e => by cases e
theorem Opn.past {w w' : World} {B : Nat} {A : Option Addr} (h : Opn w B A) (hb : Below w.heap.size w w') : Opn w' B A := fun b o e => by
  obtain ⟨h1, cs, t, h2⟩ := h b o e
  exact ⟨h1, cs, t, (hb.block b (Array.getElem?_eq_some_iff.1 h2).1).trans h2⟩
theorem Opn.low {w : World} {B B' : Nat} {A : Option Addr} (h : Opn w B A) (hB : B' ≤ B) : Opn w B' A := fun b o e => ⟨Nat.le_trans hB (h b o e).1, (h b o e).2⟩
theorem Opn.other {w X : World} {B P : Nat} {A : Option Addr} (h : Opn w B A) (hA : ∀ b o, A = some (⟨b, o, none⟩ : Addr) → P < b) (hX : ∀ b, b ≠ P → X.heap[b]? = w.heap[b]?) : Opn X B A := fun b o e => by
  obtain ⟨h1, cs, t, h2⟩ := h b o e
  exact ⟨h1, cs, t, (hX b (by have := hA b o e; omega)).trans h2⟩
theorem Opn.free {w : World} {B b o : Nat} {A : Option Addr} (h : Opn w B A) (e : A = some (⟨b, o, none⟩ : Addr)) (i : Nat) : w.frozen? ⟨b, i, none⟩ = false := by
  obtain ⟨_, cs, t, h2⟩ := h b o e
  simp [World.frozen?, h2]
def UOpn (w : World) (B : Nat) (u : Up) : Prop := Opn w B u.kA ∧ Opn w B u.rA
def LOpn (w : World) (B : Nat) (A : Option Addr) (l : List Up) : Prop := Opn w B A ∧ ∀ u ∈ l, UOpn w B u
theorem UOpn.past {w w' : World} {B : Nat} {u : Up} (h : UOpn w B u) (hb : Below w.heap.size w w') : UOpn w' B u := ⟨h.1.past hb, h.2.past hb⟩
theorem LOpn.past {w w' : World} {B : Nat} {A : Option Addr} {l : List Up} (h : LOpn w B A l) (hb : Below w.heap.size w w') : LOpn w' B A l := ⟨h.1.past hb, fun u hu => (h.2 u hu).past hb⟩
theorem UOpn.low {w : World} {B B' : Nat} {u : Up} (h : UOpn w B u) (hB : B' ≤ B) : UOpn w B' u := ⟨h.1.low hB, h.2.low hB⟩
theorem LOpn.low {w : World} {B B' : Nat} {A : Option Addr} {l : List Up} (h : LOpn w B A l) (hB : B' ≤ B) : LOpn w B' A l := ⟨h.1.low hB, fun u hu => (h.2 u hu).low hB⟩
def KeptO (u : Up) (n : Int) (w : World) (x : Ending) (w' : World) : Prop :=
  ∃ u' : Up, x = .returned u'.val ∧ u'.key = u.key ∧ u'.row = u.row ∧ u'.t = u.t ∧ u'.d = n ∧ UIn w' w'.heap.size u' ∧ UOpn w' w.heap.size u' ∧ Below w.heap.size w w'
set_option maxRecDepth 100000 in
set_option maxHeartbeats 3200000 in
theorem listV_anyO (A : Option Addr) (c : Nat) (l : List Vl) (w : World) (hl : Vals w w.heap.size A l) (hn : l.length * 32 ≤ 281474976710656) :
    Calls Tryz.prog 129 #[.slice A l.length c] w fun x w' => ∃ A' c', x = .returned (.slice A' l.length c') ∧ Vals w' w'.heap.size A' l ∧ Opn w' w.heap.size A' ∧ Below w.heap.size w w' := by
  obtain ⟨i0, hi, hz0, hz1, hz2⟩ := info_parts infoVl
  have hU := Tryz.underlying44
  have hsz1 : (Tryz.prog.info? 54).map (·.size) = some 3 := by rw [hi]; simp [hz1]
  cases l with
  | nil =>
    clear hl hn hi hz0 hz1 hz2 hU hsz1
    go_enter Tryz.func129, Tryz.ntmps129
    go_wp2_with fail
    go_ret
    exact ⟨_, _, rfl, fun h => absurd h (by simp), fun _ _ h => (by cases h), Below.refl _ _⟩
  | cons t l =>
    obtain ⟨b, o, rfl, hB, hc⟩ := hl (by simp)
    obtain ⟨m, hm⟩ : ∃ m, m = t :: l := ⟨_, rfl⟩
    have hpos : 0 < m.length := by rw [hm]; simp
    rw [← hm] at hc hn ⊢
    have t1 : ((m.length : Int) == 0) = false := beq_eq_false_iff_ne.2 (by omega)
    have HC := Lib.hid hc
    clear hc hm hl
    go_enter Tryz.func129, Tryz.ntmps129
    go_wp2_with (refine wpList_make_full _ rfl (.tmp 8) (.tmp 8) 44 rfl w.heap.size 54 i0 _ 3 hU hi hz0 hz1 .i64 .i64 _ _ m.length rfl rfl rfl rfl ?c1 ?c2 ?c3 ?_)
    case c1 => rw [hz2]; omega
    case c2 => unfold maxLen; omega
    case c3 => exact Nat.le_refl _
    intro w1 ho1 hg1
    obtain ⟨cur, ho1⟩ : ∃ cur, w1.ownsRow w.heap.size 54 3 (.slice (some ⟨w.heap.size, 0, none⟩) m.length m.length) m.length cur := ⟨_, ho1⟩
    have hm1 := own_made ho1
    have hb1 : Below w.heap.size w w1 := (Below.refl _ _).grown hg1 (Nat.le_refl _) (fun k h => by cases h)
    have hlen1 : cur.length = m.length * 3 := ho1.1
    have hcl : (m.flatMap Vl.cells).length = m.length * 3 := flat_size (size := 3) (cells := Vl.cells) (fun _ => rfl) m
    have hsrc : ∀ j v, (m.flatMap Vl.cells)[j]? = some v → w1.cell? ((⟨b, o, none⟩ : Addr).add j) = some v := fun j v hv => by
      obtain ⟨i, r, x, rfl, hx, hr⟩ := flat_back (size := 3) (cells := Vl.cells) (by decide) (fun _ => rfl) m j v hv
      have ea : (⟨b, o, none⟩ : Addr).add (i * 3 + r) = ⟨b, o + i * 3 + r, none⟩ := by unfold Addr.add; split <;> simp_all <;> omega
      rw [ea, hb1.cell (p := ⟨b, o + i * 3 + r, none⟩) hB]
      obtain ⟨a0, a1, a2⟩ := HC.out i x hx
      match r, hr with
      | 0, hr => rw [← hr]; exact a0
      | 1, hr => rw [← hr]; exact a1
      | 2, hr => rw [← hr]; exact a2
    have hrun := fun ty => run_copy_all (P := Tryz.prog) w1 44 44 ty 54 w.heap.size m.length m.length c 3 ⟨b, o, none⟩ cur (m.flatMap Vl.cells) 54 hU hsz1 hm1 hcl hsrc (by rw [hcl, hlen1]) (fun v hv => by
      obtain ⟨x, _, hx⟩ := List.mem_flatMap.1 hv
      exact vl_one x v hx)
    have ho2 : Own (w1.setRow w.heap.size (m.flatMap Vl.cells).toArray) w.heap.size 54 (m.flatMap Vl.cells) := own_setRow hm1
    have hb2 : Below w.heap.size w (w1.setRow w.heap.size (m.flatMap Vl.cells).toArray) := below_setRow hb1 (Nat.le_refl _) _
    have HR := Lib.hid hrun
    obtain ⟨w2, hw2⟩ : ∃ w2, w2 = w1.setRow w.heap.size (m.flatMap Vl.cells).toArray := ⟨_, rfl⟩
    rw [← hw2] at HR ho2 hb2
    have H2 := Lib.hid (And.intro ho2 hb2)
    clear hw2 hrun ho2 hb2 hsrc hcl hm1 hb1 hlen1 ho1 hg1 hU hsz1 hi hz0 hz1 hz2
    go_wp2_with (refine Lib.wpList_copy_run _ rfl _ _ 44 44 rfl _ _ rfl rfl (HR.out _) ?_)
    go_wp2_with fail
    go_ret
    refine ⟨_, _, rfl, fun _ => ⟨w.heap.size, 0, rfl, H2.out.1.inside, fun i x hx => ?_⟩, fun b' o' e => ?_, H2.out.2⟩
    · have := fun r v hr => flat_of (cells := Vl.cells) (size := 3) (fun _ => rfl) m i r x v hx hr
      refine ⟨?_, ?_, ?_⟩
      · rw [H2.out.1.at_]; exact (by simpa using this 0 _ rfl)
      · rw [H2.out.1.at_]; exact (by simpa using this 1 _ rfl)
      · rw [H2.out.1.at_]; exact (by simpa using this 2 _ rfl)
    · simp only [Option.some.injEq, Addr.mk.injEq, and_true] at e
      obtain ⟨rfl, rfl⟩ := e
      exact ⟨Nat.le_refl _, _, _, H2.out.1⟩
end Go.Proofs.YtgalemkjgaiphaaGreat
namespace Go.Proofs.YtgalemkjgaiphaaGreat
open Go Go.RowKit

set_option maxRecDepth 100000 in
set_option maxHeartbeats 6400000 in
theorem retain_anyO (u : Up) (n : Int) (w : World) (hu : UIn w w.heap.size u) (ok : u.key.length * 32 ≤ 281474976710656 ∧ u.row.length * 32 ≤ 281474976710656) :
    Calls Tryz.prog 88 #[u.val, .int .i64 n] w (KeptO u n w) := by
  obtain ⟨V, hV, hvb, hvo, hvz⟩ := ret_box w u
  have hin := hu.keep hvb
  have y1 := fun W (h : Bl V W) => Lib.hid (listV_anyO u.kA u.kc u.key W (hin.keep h).key ok.1)
  have y2 := fun W (h : Bl V W) => Lib.hid (listV_anyO u.rA u.rc u.row W (hin.keep h).row ok.2)
  have hB := hvz.inside
  have HS := Lib.hid (fun W (h : Bm (w.heap.size + 1) V W) => let k := own6 (hvo.past h (Nat.lt_succ_self _)); (⟨k.1, k.2.1, k.2.2.1, k.2.2.2.1, k.2.2.2.2.1⟩ : W.cell? ⟨w.heap.size, 0, none⟩ = some (.slice u.kA u.key.length u.kc) ∧ W.cell? ⟨w.heap.size, 1, none⟩ = some (.slice u.rA u.row.length u.rc) ∧ W.cell? ⟨w.heap.size, 2, none⟩ = some (.int .u64 (u.t.e : Int)) ∧ W.cell? ⟨w.heap.size, 3, none⟩ = some (.int .u64 (u.t.a : Int)) ∧ W.cell? ⟨w.heap.size, 4, none⟩ = some (.int .u64 (u.t.b : Int))))
  have HZ := Lib.hid (fun W (h : Bl V W) => hvz.past h hvz.inside)
  have HB := Lib.hid hvb
  have hself := Bl.refl V
  obtain ⟨d0, d1, d2, d3, d4, d5⟩ := own6 hvo
  have huv : u.val = .agg #[.slice u.kA u.key.length u.kc, .slice u.rA u.row.length u.rc, .int .u64 (u.t.e : Int), .int .u64 (u.t.a : Int), .int .u64 (u.t.b : Int), .int .i64 u.d] := rfl
  rw [huv]
  have hbs : w.heap.size + 1 ≤ V.heap.size := Nat.le_of_lt hB
  clear huv hu ok hvb hvo hvz hin
  go_enter Tryz.func88, Tryz.ntmps88
  go_upto_region 1 with fail
  rw [← hV]
  clear hV
  go_region_held3 (fun w' => Bm (w.heap.size + 1) V w' ∧ (w'.cell? ⟨w.heap.size, 0, none⟩ = some (.slice u.kA u.key.length u.kc) ∧ w'.cell? ⟨w.heap.size, 1, none⟩ = some (.slice u.rA u.row.length u.rc) ∧ w'.cell? ⟨w.heap.size, 2, none⟩ = some (.int .u64 (u.t.e : Int)) ∧ w'.cell? ⟨w.heap.size, 3, none⟩ = some (.int .u64 (u.t.a : Int)) ∧ w'.cell? ⟨w.heap.size, 4, none⟩ = some (.int .u64 (u.t.b : Int))))
    ((refine (fun h => And.intro h (HS.out _ h)) ?_; repeat (first | with_reducible exact Bm.of hb2 hbs | with_reducible exact Bm.of hb1 hbs | with_reducible exact Bm.of hself hbs | with_reducible refine Bm.set ?_ (Nat.le_refl _) _ _ | with_reducible refine Bm.more ?_ hbs _ | with_reducible refine Bm.drew ?_)))
    (first | (go_at_call 129; have hq := hb1; refine (y2 _ hb1).out.mono ?_; rintro _ w2 ⟨A2, k2, rfl, v2, n2, b2⟩; have hb2 : Bl V w2 := Bl.call hb1 b2; have v1 := vals_keep v1 b2; obtain ⟨f0, f1, f2, f3, f4, f5⟩ := own_frozen6 (HZ.out _ hb2); obtain ⟨e0, e1, e2, e3, e4, e5⟩ := own6 (HZ.out _ hb2)) | (go_at_call 129; refine (y1 _ hself.drew).out.mono ?_; rintro _ w1 ⟨A1, k1, rfl, v1, n1, b1⟩; have hb1 : Bl V w1 := Bl.call hself.drew b1))
  all_goals
    obtain ⟨X, hX, hXo, hXb, hXs, hXh⟩ := own_six (HZ.out _ hb2) (.slice A1 u.key.length k1) (.slice A2 u.row.length k2) (.int .u64 (u.t.e : Int)) (.int .u64 (u.t.a : Int)) (.int .u64 (u.t.b : Int)) (.int .i64 n)
    have v1' := vals_other v1 (fun b o e => by have := (n1 b o e).1; simp at this; omega) hXs hXh
    have v2' := vals_other v2 (fun b o e => by have := (n2 b o e).1; have := hb1.size; omega) hXs hXh
    have hfar : Opn X w.heap.size A1 ∧ Opn X w.heap.size A2 := ⟨((n1.past b2).other (fun b o e => by have := (n1 b o e).1; simp at this; omega) hXh).low (by simp; omega), (n2.other (fun b o e => by have := (n2 b o e).1; have := hb1.size; omega) hXh).low (by have := hb1.size; omega)⟩
    have hbX := hXb w.heap.size w (HB.out.trans (hb2.below.mono HB.out.size)) (Nat.le_succ _)
    rw [← hX]
    obtain ⟨x0, x1, x2, x3, x4, x5⟩ := own6 hXo
    clear hX hXo hXb hXs hXh f0 f1 f2 f3 f4 f5 e0 e1 e2 e3 e4 e5
    go_wp2_with fail
    exact bodyPost_ret (v := .agg #[.slice A1 u.key.length k1, .slice A2 u.row.length k2, .int .u64 (u.t.e : Int), .int .u64 (u.t.a : Int), .int .u64 (u.t.b : Int), .int .i64 n]) (by simp [results, Tryz.results88, go_sem, x0, x1, x2, x3, x4, x5]) rfl ⟨⟨A1, k1, u.key, A2, k2, u.row, u.t, n⟩, rfl, rfl, rfl, rfl, rfl, ⟨v1', v2'⟩, hfar, hbX⟩
end Go.Proofs.YtgalemkjgaiphaaGreat
namespace Go.Proofs.YtgalemkjgaiphaaGreat
open Go Go.RowKit

theorem Opn.lt {w : World} {B b o : Nat} {A : Option Addr} (h : Opn w B A) (e : A = some (⟨b, o, none⟩ : Addr)) : b < w.heap.size := by
  obtain ⟨_, cs, t, h2⟩ := h b o e
  exact (Array.getElem?_eq_some_iff.1 h2).1
theorem Opn.grown {w w' : World} {B : Nat} {A : Option Addr} {v : Value} (h : Opn w B A) (hf : ∀ b o, A = some (⟨b, o, none⟩ : Addr) → v.ownBlock ≠ some b) (hg : w.grownBy w' v.ownBlock) : Opn w' B A := fun b o e => by
  obtain ⟨h1, cs, t, h2⟩ := h b o e
  exact ⟨h1, cs, t, (hg.block b (h.lt e) (fun k => hf b o e k.symm)).trans h2⟩
theorem UOpn.grown {w w' : World} {B B' : Nat} {u : Up} {v : Value} (h : UOpn w B u) (hf : Far B' v w u) (hg : w.grownBy w' v.ownBlock) : UOpn w' B u := ⟨h.1.grown (fun b o e => (hf b o (.inl e)).2.1) hg, h.2.grown (fun b o e => (hf b o (.inr e)).2.1) hg⟩
theorem lopn_nil (w : World) (B : Nat) : LOpn w B none [] := ⟨Opn.none_ _ _, fun u hu => by cases hu⟩
theorem opn_row {w : World} {base n c m : Nat} {e : TypeId} {size : Nat} {A : Option Addr} {xs : List Value} (h : w.ownsRow base e size (.slice A m c) n xs) : Opn w base A := fun b o e => by
  subst e
  rcases h.2 with ⟨h0, _⟩ | ⟨g, cap, cur, hv, hb, hg, _⟩
  · cases h0
  · injection hv with hv
    injection hv with hv
    injection hv with hv
    subst hv
    exact ⟨hb, _, _, hg⟩
def TotSaysO (l : List (Uk × Int)) (base : Nat) (w : World) (x : Ending) (w' : World) : Prop :=
  ∃ A c, ∃ outL : List Up, x = .returned (.tuple #[.slice A outL.length c, .int .i64 (resE Uk.cmp l)]) ∧ outL.map Up.p = resL Uk.cmp l ∧ Ups w' w'.heap.size A outL ∧ (∀ u ∈ outL, UOk u) ∧ Below base w w' ∧ LOpn w' base A outL
set_option maxRecDepth 100000 in
set_option maxHeartbeats 16000000 in
theorem totalU_anyO (v : Value) (n base : Nat) (l : List (Ln Up)) (w : World) (hnl : n = l.length) (h : w.ownsRow base 119 8 v n (l.flatMap (Ln.cells Up.cells))) (hbase : base ≤ w.heap.size) (hin : ∀ x ∈ l, UIn w base x.u) (hok : ∀ x ∈ l, UOk x.u) (hR : ∀ x ∈ l, UkR x.u.k)
    (hS : ∀ x ∈ l, -9223372036854775808 ≤ x.S ∧ x.S ≤ 9223372036854775807) (hn : n ≤ 1099511627776) :
    Calls Tryz.prog 86 #[v, .func (.func 87) #[] #[], .func (.func 88) #[] #[]] w (TotSaysO (l.map (pL Up.k)) base w) := by
  obtain ⟨i0, hi, hz0, hz1, hz2⟩ := info_parts infoUp
  have HI := Lib.hid (And.intro Tryz.underlying37 (And.intro hi (And.intro hz0 (And.intro hz1 hz2))))
  obtain ⟨W, hW, hwb, hws, hwc⟩ := fn_box w (.func (.func 87) #[] #[]) 103
  obtain ⟨A, c, rfl, hsort⟩ := sortU_all v n w.heap.size base l W hnl (own_below h hwb) hwc (fun x hx => (hin x hx).past hwb hbase) hok (by omega)
  have Hsort := Lib.hid hsort
  have HB := Lib.hid (And.intro (hwb.mono hbase) hbase)
  have HL := Lib.hid (And.intro hin (And.intro hok (And.intro hR (And.intro hS hnl))))
  clear hi hz0 hz1 hz2 hsort hwb hws hwc hin hok hR hS h hnl hbase
  go_enter Tryz.func86, Tryz.ntmps86
  go_upto_region 1 with fail
  rw [← hW]
  clear hW
  go_wp2_with fail
  refine Hsort.out.mono ?_
  rintro _ w1 ⟨rfl, s, hp, hpw, hlies, hb1, hbx⟩
  have hsn : s.length = n := by rw [hp.length_eq]; exact HL.out.2.2.2.2.symm
  have HS := Lib.hid (And.intro hp (And.intro hpw (And.intro hlies (And.intro (HB.out.1.trans hb1) (And.intro hbx hsn)))))
  have HX := Lib.hid (And.intro (fun x (hx : x ∈ s) => (HL.out.1 x (hp.mem_iff.1 hx)).past (HB.out.1.trans hb1) (Nat.le_refl _)) (And.intro (fun x (hx : x ∈ s) => HL.out.2.1 x (hp.mem_iff.1 hx)) (fun x (hx : x ∈ s) => HL.out.2.2.2.1 x (hp.mem_iff.1 hx))))
  have hbs : base ≤ w1.heap.size := Nat.le_trans HB.out.2 (HB.out.1.trans hb1).size
  have Hbs := Lib.hid hbs
  clear hp hpw hlies hb1 hbx hsn Hsort hbs
  go_wp2_with fail
  go_loopw [8, 9] (fun v8 v9 wr => ∃ (k : Nat) (outL : List Up), v9 = .int .i64 (k : Int) ∧ k ≤ n ∧ wr.ownsRow w1.heap.size 50 6 v8 outL.length (outL.flatMap Up.cells) ∧ (∀ u ∈ outL, UIn wr wr.heap.size u ∧ UOk u ∧ Far base v8 wr u ∧ UOpn wr base u) ∧ outL.map Up.p = nz Uk.cmp ((s.take k).map (pL Up.k)) ∧ Below w1.heap.size w1 wr ∧ Bound Uk.cmp Up.k s k ∧ (asm Uk.cmp ((s.take k).map (pL Up.k))).all (fun x => fits x.2) = true ∧ outL.length ≤ k)
    (fun _ v9 _ => n - (intOf v9).toNat)
  case atStart => exact ⟨0, [], rfl, by omega, World.ownsRow_nil _ _ _ _, fun u hu => (by cases hu), rfl, Below.refl _ _, fun a ha => (by cases ha), rfl, Nat.le_refl _⟩
  case round =>
    obtain ⟨k, outL, rfl, hk, hown, hout, hmap, hbw, hbound, hfit, hlen⟩ := hrel
    obtain ⟨wo, hwo⟩ : ∃ wo, wo = wr := ⟨_, rfl⟩
    subst hwo
    by_cases hlt : k < n
    · have hx : s[k]? = some (s[k]'(by rw [HS.out.2.2.2.2.2]; exact hlt)) := List.getElem?_eq_getElem _
      obtain ⟨g, o, rfl, hB, hxs⟩ := HS.out.2.2.1 (by rw [HS.out.2.2.2.2.2]; omega)
      have hmem := List.mem_of_getElem? hx
      generalize (s[k]'(by rw [HS.out.2.2.2.2.2]; exact hlt)) = x at *
      have hline := Lib.hid (fun (W : World) (hW : Below w1.heap.size w1 W) (i : Nat) (y : Ln Up) (hy : s[i]? = some y) => ln_eight (w := W) (g := g) (o := o + i * 8) (x := y) fun j u hj => (hW.cell (p := ⟨g, o + i * 8 + j, none⟩) hB).trans (hxs i y hy j u hj))
      have hrows := Lib.hid (fun (W : World) (hW : Below w1.heap.size w1 W) (y : Ln Up) (hy : y ∈ s) => ((HX.out.1 y hy).past hW Hbs.out).wide (Nat.le_trans Hbs.out hW.size))
      have hfn := Lib.hid (fun (W : World) (hW : Below w1.heap.size w1 W) => (hW.cell (p := ⟨w.heap.size, 0, none⟩) (World.block_lt_of_cell? w1 _ HS.out.2.2.2.2.1)).trans HS.out.2.2.2.2.1)
      obtain ⟨e0, e1, e2, e3, e4, e5, e6, e7⟩ := hline.out wo hbw k x hx
      obtain ⟨V, hV, hvb, hvs, hvo⟩ := ln_box wo x
      have HO := Lib.hid (And.intro hown (And.intro hout (And.intro hmap (And.intro hbw (And.intro hbound (And.intro hfit hlen))))))
      have HV := Lib.hid (And.intro hvb (And.intro hvo (And.intro hx hmem)))
      have hgs := gsum_one hx
      have q0 : (0 : Int) ≤ (k : Int) := by omega
      have q1 : (k : Int) < (n : Int) := by omega
      clear hx hmem hxs hown hout hmap hbw hbound hfit hvb hvo hlen hvs
      have HG := Lib.hid hgs
      clear hgs
      go_upto_region 6 with fail
      rw [← hV]
      clear hV e0 e1 e2 e3 e4 e5 e6 e7
      go_upto_block 2 with fail
      go_cut [9] (fun v9 wi => ∃ j : Nat, v9 = .int .i64 (j : Int) ∧ k + 1 ≤ j ∧ j ≤ n ∧ (∀ m y, k ≤ m → m < j → s[m]? = some y → x.u.k.cmp y.u.k = 0) ∧ (∀ y, s[j]? = some y → x.u.k.cmp y.u.k ≠ 0) ∧ Own wi wo.heap.size 119 (.int .u64 (hiW (gsum s k j)) :: .int .u64 (loW (gsum s k j)) :: x.u.cells) ∧ Below wo.heap.size wo wi)
      case first =>
        go_wp2_with fail
        go_loopw [9] (fun v9 wi => ∃ j : Nat, v9 = .int .i64 (j : Int) ∧ k + 1 ≤ j ∧ j ≤ n ∧ (∀ m y, k ≤ m → m < j → s[m]? = some y → x.u.k.cmp y.u.k = 0) ∧ Own wi wo.heap.size 119 (.int .u64 (hiW (gsum s k j)) :: .int .u64 (loW (gsum s k j)) :: x.u.cells) ∧ Below wo.heap.size wo wi)
          (fun v9 _ => n - (intOf v9).toNat)
        case atStart =>
          refine ⟨k + 1, by go_num, Nat.le_refl _, by omega, fun m y h1 h2 h3 => ?_, by rw [HG.out]; exact HV.out.2.1, HV.out.1⟩
          obtain rfl : m = k := by omega
          rw [HV.out.2.2.1] at h3
          obtain rfl := Option.some.inj h3
          exact uk_lin.self _
        case round =>
          obtain ⟨j, rfl, hj1, hj2, heq, howi, hbi⟩ := hrel
          obtain ⟨wi, hwi⟩ : ∃ wi, wi = wr := ⟨_, rfl⟩
          subst hwi
          have hbj : Below w1.heap.size w1 wi := HO.out.2.2.2.1.trans (hbi.mono HO.out.2.2.2.1.size)
          have HJ := Lib.hid (And.intro heq (And.intro howi (And.intro hbi hbj)))
          clear heq howi hbi hbj
          by_cases hjn : j < n
          · have hy : s[j]? = some (s[j]'(by rw [HS.out.2.2.2.2.2]; exact hjn)) := List.getElem?_eq_getElem _
            have hymem := List.mem_of_getElem? hy
            generalize (s[j]'(by rw [HS.out.2.2.2.2.2]; exact hjn)) = y at *
            have q2 : (0 : Int) ≤ (j : Int) := by omega
            have q3 : (j : Int) < (n : Int) := by omega
            have q4 : decide ((j : Int) < (n : Int)) = true := decide_eq_true q3
            have HY := Lib.hid (And.intro hy hymem)
            have u1 : ∀ p : Past wi, Calls Tryz.prog 87 #[.agg #[.slice x.u.kA x.u.key.length x.u.kc, .slice x.u.rA x.u.row.length x.u.rc, .int .u64 (x.u.t.e : Int), .int .u64 (x.u.t.a : Int), .int .u64 (x.u.t.b : Int), .int .i64 x.u.d], .agg #[.slice y.u.kA y.u.key.length y.u.kc, .slice y.u.rA y.u.row.length y.u.rc, .int .u64 (y.u.t.e : Int), .int .u64 (y.u.t.a : Int), .int .u64 (y.u.t.b : Int), .int .i64 y.u.d]] p.w fun e w'' => e = .returned (.int .i64 (x.u.k.cmp y.u.k)) ∧ ∃ q : Past wi, w'' = q.w := fun p =>
              calls_past ((dcompare_gr x.u y.u p.w (hrows.out p.w (HJ.out.2.2.2.trans (p.h.mono HJ.out.2.2.2.size)) x HV.out.2.2.2) (hrows.out p.w (HJ.out.2.2.2.trans (p.h.mono HJ.out.2.2.2.size)) y HY.out.2) (HX.out.2.1 x HV.out.2.2.2) (HX.out.2.1 y HY.out.2)).mono fun e w' h => ⟨h.1, h.2.below⟩)
            have u2 := fun p : Past wi => hfn.out p.w (HJ.out.2.2.2.trans (p.h.mono HJ.out.2.2.2.size))
            have u3 := fun p : Past wi => own8l (HJ.out.2.1.past p.h HJ.out.2.1.inside)
            have u4 := fun p : Past wi => (hline.out p.w (HJ.out.2.2.2.trans (p.h.mono HJ.out.2.2.2.size)) j y HY.out.1).2.2
            obtain ⟨r, hr⟩ : ∃ r, x.u.k.cmp y.u.k = r := ⟨_, rfl⟩
            rw [hr] at u1
            have HR := Lib.hid hr
            clear hr hy hymem
            by_cases hr0 : r = 0
            · have t1 : (r == 0) = true := beq_iff_eq.2 hr0
              have HR0 := Lib.hid hr0
              clear hr0
              go_upto_region 7 with fail
              refine wp_region_past wi (by kernel_rfl) (by kernel_rfl) (Below.refl _ _) ?_
              repeat (first | go_big_quiet_step ((go_at_call 87; exact u1 _)) | quiet_step ((go_at_call 87; exact u1 _)))
              refine wpQuiet_nil ?_
              intro wz hw'
              obtain ⟨⟨wy, hbz⟩, hw''⟩ := hw'
              dsimp only at hw''
              subst hw''
              have hz1 := HJ.out.2.2.2.trans (hbz.mono HJ.out.2.2.2.size)
              obtain ⟨e0, e1, _⟩ := hline.out wz hz1 j y HY.out.1
              have hadd := Lib.hid (add_line (gsum s k j) y.S wo.heap.size 119 x.u.cells wz (HJ.out.2.1.past hbz HJ.out.2.1.inside))
              have HZ := Lib.hid (HJ.out.2.2.1.trans (hbz.mono HJ.out.2.2.1.size))
              clear u1 u2 u3 u4 hbz hz1 t1
              go_wp2_with fail
              refine hadd.out.mono ?_
              rintro _ w5 ⟨rfl, ho5, hb5⟩
              have H5 := Lib.hid (And.intro ho5 (HZ.out.trans (hb5 _ (Nat.le_refl _))))
              clear ho5 hb5 e0 e1 hadd
              go_wp2_with fail
              go_roundw
              case rel =>
                refine ⟨j + 1, by go_num, by omega, by omega, fun m z h1 h2 h3 => ?_, by rw [gsum_next (by omega) HY.out.1]; exact H5.out.1, H5.out.2⟩
                by_cases hmj : m = j
                · subst hmj
                  rw [HY.out.1] at h3
                  obtain rfl := Option.some.inj h3
                  rw [HR.out, HR0.out]
                · exact HJ.out.1 m z h1 (by omega) h3
              case measure => simp [intOf]; omega
            · have t1 : (r == 0) = false := beq_eq_false_iff_ne.2 hr0
              have HR0 := Lib.hid hr0
              clear hr0
              go_upto_region 7 with fail
              refine wp_region_past wi (by kernel_rfl) (by kernel_rfl) (Below.refl _ _) ?_
              repeat (first | go_big_quiet_step ((go_at_call 87; exact u1 _)) | quiet_step ((go_at_call 87; exact u1 _)))
              refine wpQuiet_nil ?_
              intro wz hw'
              obtain ⟨⟨wy, hbz⟩, hw''⟩ := hw'
              dsimp only at hw''
              subst hw''
              have HZ := Lib.hid (And.intro (HJ.out.2.1.past hbz HJ.out.2.1.inside) (HJ.out.2.2.1.trans (hbz.mono HJ.out.2.2.1.size)))
              clear u1 u2 u3 u4 hbz t1
              go_wp2_with fail
              go_meet
              exact ⟨j, rfl, by omega, by omega, HJ.out.1, fun z hz => by
                rw [HY.out.1] at hz
                obtain rfl := Option.some.inj hz
                rw [HR.out]
                exact HR0.out, HZ.out.1, HZ.out.2⟩
          · have q4 : decide ((j : Int) < (n : Int)) = false := decide_eq_false (by omega)
            go_upto_region 7 with fail
            go_quiet (fail)
            go_wp2_with fail
            go_meet
            exact ⟨j, rfl, by omega, by omega, HJ.out.1, fun z hz => by
              have := (List.getElem?_eq_some_iff.1 hz).1
              rw [HS.out.2.2.2.2.2] at this
              omega, HJ.out.2.1.draws _, below_draws HJ.out.2.2.1 _⟩
      case rest =>
        obtain ⟨j, rfl, hj1, hj2, heq, hmax, hown, hbi⟩ := hcut
        obtain ⟨hB2, hasm⟩ := group_step (f := Up.k) uk_lin HS.out.2.1 (by omega) (by rw [HS.out.2.2.2.2.2]; exact hj2) HV.out.2.2.1 heq hmax HO.out.2.2.2.2.1
        have hnz := nz_step hasm
        have hfi := fit_step hasm
        have hgb := gsum_bound HX.out.2.2 (by rw [HS.out.2.2.2.2.2]; exact hn) k j
        rw [HO.out.2.2.2.2.2.1, Bool.true_and] at hfi
        have hcall := fun W => Lib.hid (number_any (gsum s k j) W hgb.1 hgb.2)
        have hbx1 := HO.out.2.2.2.1.trans (hbi.mono HO.out.2.2.2.1.size)
        obtain ⟨c0, c1⟩ := own8a hown
        obtain ⟨S, hSe⟩ : ∃ S, gsum s k j = S := ⟨_, rfl⟩
        rw [hSe] at hasm hnz hfi hcall c0 c1 hown
        have HC := Lib.hid (And.intro hB2 (And.intro hnz (And.intro hfi (And.intro hbx1 (And.intro hbi hown)))))
        clear hB2 hasm hnz hfi hgb heq hmax hown hbi hbx1 hSe
        go_wp2_with fail
        refine (hcall _).out.mono ?_
        rintro _ w2 ⟨rfl, b2⟩
        have H2 := Lib.hid (And.intro (HC.out.2.2.2.1.trans (b2.mono HC.out.2.2.2.1.size)) (And.intro (HC.out.2.2.2.2.2.past b2 HC.out.2.2.2.2.2.inside) (HC.out.2.2.2.2.1.trans (b2.mono HC.out.2.2.2.2.1.size))))
        clear b2 c0 c1 hcall
        cases hf : fits S
        case false =>
          have e1 : fitE S = 10 := by unfold fitE; rw [hf]; rfl
          have hres : resE Uk.cmp (l.map (pL Up.k)) = 10 ∧ resL Uk.cmp (l.map (pL Up.k)) = [] := by
            obtain ⟨p1, p2⟩ := res_perm (f := Up.k) uk_lin HS.out.1 HL.out.2.2.1
            have hbad := bad_step HC.out.1 (by rw [HC.out.2.2.1]; exact hf)
            rw [← p1, ← p2]
            unfold resE resL
            rw [hbad]
            exact ⟨rfl, rfl⟩
          have HR := Lib.hid hres
          have HE := Lib.hid e1
          rw [e1]
          clear hres hf e1
          go_wp2_with fail
          go_ret2
          exact ⟨none, 0, [], by rw [HR.out.1]; rfl, HR.out.2.symm, ⟨Lies.nil_, fun u hu => (by cases hu)⟩, fun u hu => (by cases hu), HS.out.2.2.2.1.trans (H2.out.1.mono Hbs.out), lopn_nil _ _⟩
        case true =>
          have e1 : fitE S = 0 := by unfold fitE; rw [hf]; rfl
          have e2 : fitN S = S := by unfold fitN; rw [hf]; rfl
          have hfb := (fits_iff S).1 hf
          rw [e1, e2]
          have HF := Lib.hid (And.intro hf hfb)
          clear hf hfb e1 e2
          by_cases hS0 : S = 0
          · have t1 : (S != 0) = false := by simp [hS0]
            have HS0 := Lib.hid hS0
            have hkeep := own_below HO.out.1 H2.out.2.2
            have HK := Lib.hid hkeep
            clear hS0 hkeep
            go_wp2_with fail
            go_roundw
            case rel =>
              refine ⟨j, outL, rfl, hj2, HK.out, fun u hu => ⟨(HO.out.2.1 u hu).1.keep H2.out.2.2, (HO.out.2.1 u hu).2.1, (HO.out.2.1 u hu).2.2.1.next H2.out.2.2.size, (HO.out.2.1 u hu).2.2.2.past H2.out.2.2⟩, ?_, H2.out.1, HC.out.1, by rw [HC.out.2.2.1]; exact HF.out.1, by have := HO.out.2.2.2.2.2.2; omega⟩
              rw [HC.out.2.1, HS0.out, if_pos rfl, List.append_nil]
              exact HO.out.2.2.1
            case measure => simp [intOf]; omega
          · have t1 : (S != 0) = true := bne_iff_ne.2 hS0
            have HS0 := Lib.hid hS0
            obtain ⟨c2, c3, c4, c5, c6, c7⟩ := own8l H2.out.2.1
            have hxk := HX.out.2.1 x HV.out.2.2.2
            have hxr := chkK_zero (HL.out.2.2.1 x (HS.out.1.mem_iff.1 HV.out.2.2.2))
            have hx8 := (chkRow_zero hxr.1).2
            have hx9 := (chkRow_zero hxr.2.1).2
            have hret := Lib.hid (retain_anyO x.u S w2 (hrows.out w2 H2.out.1 x HV.out.2.2.2) ⟨by change x.u.key.length ≤ 8 at hx8; omega, by change x.u.row.length ≤ 8 at hx9; omega⟩)
            have HXK := Lib.hid hxk
            rw [show x.u.val = .agg #[.slice x.u.kA x.u.key.length x.u.kc, .slice x.u.rA x.u.row.length x.u.rc, .int .u64 (x.u.t.e : Int), .int .u64 (x.u.t.a : Int), .int .u64 (x.u.t.b : Int), .int .i64 x.u.d] from rfl] at hret
            clear hS0 hxk hxr hx8 hx9
            go_wp2_with fail
            refine hret.out.mono ?_
            rintro _ w3 ⟨u', rfl, k1, k2, k3, k4, hin3, hopn, b3⟩
            have hfar : ∀ b o, (u'.kA = some (⟨b, o, none⟩ : Addr) ∨ u'.rA = some (⟨b, o, none⟩ : Addr)) → w2.heap.size ≤ b ∧ b < w3.heap.size := fun b o h => by
              rcases h with h | h
              · exact ⟨(hopn.1 b o h).1, hopn.1.lt h⟩
              · exact ⟨(hopn.2 b o h).1, hopn.2.lt h⟩
            have HOp := Lib.hid (hopn.low (Nat.le_trans Hbs.out H2.out.1.size))
            clear hopn
            have hlen := HO.out.2.2.2.2.2.2
            have H3 := Lib.hid (And.intro (H2.out.1.trans (b3.mono H2.out.1.size)) (And.intro (H2.out.2.2.trans (b3.mono H2.out.2.2.size)) (And.intro hin3 (own_below HO.out.1 (H2.out.2.2.trans (b3.mono H2.out.2.2.size))))))
            have hfar' : Far base u8 w3 u' := fun b o hb => ⟨(hfar b o hb).2, fun e => by
              have h1 := (HO.out.1.lt b e).2
              have h2 := (hfar b o hb).1
              have h3 := H2.out.2.2.size
              omega, by
              have h2 := (hfar b o hb).1
              have h3 := H2.out.1.size
              have h4 := Hbs.out
              omega⟩
            have HU := Lib.hid (And.intro k1 (And.intro k2 (And.intro k3 (And.intro k4 hfar'))))
            rw [show u'.val = .agg #[.slice u'.kA u'.key.length u'.kc, .slice u'.rA u'.row.length u'.rc, .int .u64 (u'.t.e : Int), .int .u64 (u'.t.a : Int), .int .u64 (u'.t.b : Int), .int .i64 u'.d] from rfl]
            have hs3 := H3.out.1.size
            clear k1 k2 k3 k4 hin3 b3 hret hfar hfar' c2 c3 c4 c5 c6 c7
            go_wp2_with (at_builtin; refine wpList_push _ rfl _ _ 37 rfl w1.heap.size 50 i0 _ 6 80 HI.out.1 HI.out.2.1 HI.out.2.2.1 HI.out.2.2.2.1 HI.out.2.2.2.2 rfl (by decide) _ _ _ rfl H3.out.2.2.2 #[.slice u'.kA u'.key.length u'.kc, .slice u'.rA u'.row.length u'.rc, .int .u64 (u'.t.e : Int), .int .u64 (u'.t.a : Int), .int .u64 (u'.t.b : Int), .int .i64 u'.d] rfl rfl ?p1 ?p2 ?p3 ?p4 ?_)
            case p1 => exact ⟨rfl, rfl, rfl, rfl, rfl, rfl⟩
            case p2 => unfold maxLen; omega
            case p3 => omega
            case p4 => exact hs3
            intro v' w' ho' hb' hob hgw
            have hbw' := H3.out.1.trans hb'
            have hfarn : ∀ u, Far base u8 w3 u → Far base v' w' u := fun u hu b o hb => by
              obtain ⟨h1, h2, h3⟩ := hu b o hb
              refine ⟨Nat.lt_of_lt_of_le h1 hgw.size, fun e => ?_, h3⟩
              rcases hob with h | h
              · rw [h] at e; exact h2 e
              · rw [h] at e
                injection e with e
                omega
            have hall : ∀ u ∈ outL ++ [u'], UIn w' w'.heap.size u ∧ UOk u ∧ Far base v' w' u ∧ UOpn w' base u := fun u hu => by
              rcases List.mem_append.1 hu with hu | hu
              · have hf3 := (HO.out.2.1 u hu).2.2.1.next H3.out.2.1.size
                exact ⟨uin_grown ((HO.out.2.1 u hu).1.keep H3.out.2.1) hf3 hgw, (HO.out.2.1 u hu).2.1, hfarn u hf3, ((HO.out.2.1 u hu).2.2.2.past H3.out.2.1).grown hf3 hgw⟩
              · obtain rfl : u = u' := by simpa using hu
                refine ⟨uin_grown H3.out.2.2.1 HU.out.2.2.2.2 hgw, ⟨?_, ?_, ?_, ?_, ?_⟩, hfarn u HU.out.2.2.2.2, HOp.out.grown HU.out.2.2.2.2 hgw⟩
                · rw [HU.out.1]; exact HXK.out.kn
                · rw [HU.out.2.1]; exact HXK.out.rn
                · rw [HU.out.1]; exact HXK.out.ks
                · rw [HU.out.2.1]; exact HXK.out.rs
                · rw [HU.out.2.2.2.1]; exact HF.out.2
            have hmap2 : (outL ++ [u']).map Up.p = nz Uk.cmp ((s.take j).map (pL Up.k)) := by
              rw [List.map_append, HC.out.2.1, if_neg HS0.out, HO.out.2.2.1]
              have hpu : u'.p = (x.u.k, S) := by
                unfold Up.p Up.k
                rw [HU.out.1, HU.out.2.1, HU.out.2.2.1, HU.out.2.2.2.1]
              rw [List.map_cons, List.map_nil, hpu]
            have hrow2 : w'.ownsRow w1.heap.size 50 6 v' (outL ++ [u']).length ((outL ++ [u']).flatMap Up.cells) := by
              rw [List.length_append, List.flatMap_append]
              exact ho'
            have H4 := Lib.hid (And.intro hrow2 (And.intro hall (And.intro hmap2 hbw')))
            clear ho' hb' hob hgw hbw' hfarn hall hmap2 hrow2
            go_wp2_with fail
            go_roundw
            case rel => exact ⟨j, outL ++ [u'], rfl, hj2, H4.out.1, H4.out.2.1, H4.out.2.2.1, H4.out.2.2.2, HC.out.1, by rw [HC.out.2.2.1]; exact HF.out.1, by rw [List.length_append, List.length_singleton]; omega⟩
            case measure => simp [intOf]; omega
    · have hkn : k = n := by omega
      have htk : s.take k = s := by rw [List.take_of_length_le]; rw [HS.out.2.2.2.2.2, hkn]; exact Nat.le_refl _
      rw [htk] at hmap hfit
      obtain ⟨p1, p2⟩ := res_perm (f := Up.k) uk_lin HS.out.1 HL.out.2.2.1
      have hE : resE Uk.cmp (l.map (pL Up.k)) = 0 := by rw [← p2]; unfold resE; rw [hfit]; rfl
      have hLL : outL.map Up.p = resL Uk.cmp (l.map (pL Up.k)) := by rw [← p1]; unfold resL; rw [hfit, hmap]; rfl
      obtain ⟨A', c', rfl, _, _, hl'⟩ := lies_of_own (by decide) ucells_len rfl hown
      have hlo : LOpn wo base A' outL := ⟨(opn_row hown).low Hbs.out, fun u hu => (hout u hu).2.2.2⟩
      have HLo := Lib.hid hlo
      clear hlo
      have HE := Lib.hid (And.intro hE (And.intro hLL (And.intro (⟨hl', fun u hu => (hout u hu).1⟩ : Ups wo wo.heap.size A' outL) (And.intro (fun u hu => (hout u hu).2.1) hbw))))
      have q4 : decide ((k : Int) < (n : Int)) = false := decide_eq_false (by omega)
      clear hown hout hmap hfit hbound hbw htk p1 p2 hE hLL hl'
      go_wp2_with fail
      go_ret2
      exact ⟨A', c', outL, by rw [HE.out.1]; rfl, HE.out.2.1, HE.out.2.2.1, HE.out.2.2.2.1, HS.out.2.2.2.1.trans (HE.out.2.2.2.2.mono Hbs.out), HLo.out⟩
end Go.Proofs.YtgalemkjgaiphaaGreat
namespace Go.Proofs.YtgalemkjgaiphaaGreat
open Go Go.RowKit

def UpsNewO (l : List (Uk × Int)) (e : Int) (w : World) (x : Ending) (w' : World) : Prop :=
  ∃ A c, ∃ outL : List Up, x = .returned (.tuple #[.slice A outL.length c, .int .i64 e]) ∧ outL.map Up.p = l ∧ Ups w' w'.heap.size A outL ∧ (∀ u ∈ outL, UOk u) ∧ Below w.heap.size w w' ∧ LOpn w' w.heap.size A outL
set_option maxRecDepth 100000 in
set_option maxHeartbeats 16000000 in
theorem consolidate_newO (A : Option Addr) (c : Nat) (L : List (Rw Up)) (w : World) (hl : ULs w w.heap.size A L) (hok : ∀ s ∈ L, ∀ u ∈ s.l, UOk u) (hn : (flatR L).length ≤ 1099511627776) (hn2 : L.length ≤ 1099511627776) :
    Calls Tryz.prog 46 #[.slice A L.length c] w (UpsNewO (consL (L.map Rw.l)) (consE (L.map Rw.l)) w) := by
  obtain ⟨i0, hi, hz0, hz1, hz2⟩ := info_parts infoLn
  have HI := Lib.hid (And.intro Tryz.underlying114 (And.intro hi (And.intro hz0 (And.intro hz1 hz2))))
  have HL := Lib.hid (And.intro hl hok)
  clear hl hok hi hz0 hz1 hz2
  go_enter Tryz.func46, Tryz.ntmps46
  go_wp2_with fail
  go_loopw [4, 12] (fun v4 v12 wr => ∃ k : Nat, v12 = .int .i64 (k : Int) ∧ k ≤ L.length ∧ wr.ownsRow w.heap.size 119 8 v4 (flatR (L.take k)).length ((linesOf (flatR (L.take k))).flatMap (Ln.cells Up.cells)) ∧ Below w.heap.size w wr ∧ chkLs ((L.map Rw.l).take k) = 0)
    (fun _ v12 _ => L.length - (intOf v12).toNat)
  case atStart => exact ⟨0, rfl, by omega, World.ownsRow_nil _ _ _ _, Below.refl _ _, rfl⟩
  case round =>
    obtain ⟨k, rfl, hk, hown, hbw, hchk⟩ := hrel
    obtain ⟨wo, hwo⟩ : ∃ wo, wo = wr := ⟨_, rfl⟩
    subst hwo
    by_cases hlt : k < L.length
    · have hx : L[k]? = some L[k] := List.getElem?_eq_getElem hlt
      have hxm := List.mem_of_getElem? hx
      generalize L[k] = s at *
      obtain ⟨b, o, rfl, hB, hc0, hups⟩ := HL.out.1.at_ hx
      have hc0 := (hbw.cell (p := ⟨b, o + k, none⟩) hB).trans hc0
      have hxl : (L.map Rw.l)[k]? = some s.l := by rw [List.getElem?_map, hx]; rfl
      have hsn : s.l.length ≤ 1099511627776 := by have := flatR_len hx (Nat.le_refl _); omega
      have hcall := Lib.hid (dcheck_any s.A s.c s.l wo ((hups.past hbw (Nat.le_refl _)).wide hbw.size) (by omega) (HL.out.2 s hxm))
      have hnx := chkLs_take hxl hchk
      have hbad := fun h => chkLs_bad hxl hchk h
      have HO := Lib.hid (And.intro hown (And.intro hbw (And.intro hx (And.intro hxm (And.intro hups (And.intro hnx hbad))))))
      have q0 : (0 : Int) ≤ (k : Int) := by omega
      have q1 : (k : Int) < (L.length : Int) := by omega
      have q2 : decide ((k : Int) < (L.length : Int)) = true := decide_eq_true q1
      obtain ⟨K, hK⟩ : ∃ K, chkUs s.l = K := ⟨_, rfl⟩
      obtain ⟨KA, hKA⟩ : ∃ KA, s.A = KA := ⟨_, rfl⟩
      rw [hK, hKA] at hcall
      rw [hKA] at hc0
      have HKA := Lib.hid hKA
      have HK := Lib.hid hK
      clear hown hbw hchk hx hxm hups hxl hnx hbad hK hKA
      go_wp2_with fail
      refine hcall.out.mono ?_
      rintro _ w1 ⟨rfl, b1⟩
      have H1 := Lib.hid (And.intro (HO.out.2.1.trans (b1.mono HO.out.2.1.size)) (own_below HO.out.1 b1))
      clear b1 hcall hc0
      by_cases hK0 : K = 0
      case neg =>
        have t1 : (K != 0) = true := bne_iff_ne.2 hK0
        have hb := HO.out.2.2.2.2.2.2 (by rw [HK.out]; exact hK0)
        have hcl : consL (L.map Rw.l) = [] := by unfold consL; rw [if_neg (by rw [hb, HK.out]; exact hK0)]
        have hce : consE (L.map Rw.l) = K := by unfold consE; rw [if_neg (by rw [hb, HK.out]; exact hK0), hb, HK.out]
        have HR := Lib.hid (And.intro hcl hce)
        clear hK0 hb hcl hce
        go_wp2_with fail
        go_ret2
        exact ⟨none, 0, [], by rw [HR.out.2]; rfl, HR.out.1.symm, ⟨Lies.nil_, fun u hu => (by cases hu)⟩, fun u hu => (by cases hu), H1.out.1, lopn_nil _ _⟩
      subst hK0
      go_wp2_with fail
      go_loopw [4, 23] (fun v4 v23 wi => ∃ j : Nat, v23 = .int .i64 (j : Int) ∧ j ≤ s.l.length ∧ wi.ownsRow w.heap.size 119 8 v4 (flatR (L.take k) ++ s.l.take j).length ((linesOf (flatR (L.take k) ++ s.l.take j)).flatMap (Ln.cells Up.cells)) ∧ Below w.heap.size w wi)
        (fun _ v23 _ => s.l.length - (intOf v23).toNat)
      case atStart => exact ⟨0, rfl, by omega, by rw [List.take_zero, List.append_nil]; exact H1.out.2, H1.out.1⟩
      case round =>
        obtain ⟨j, rfl, hj, hownj, hbj⟩ := hrel
        obtain ⟨wi, hwi⟩ : ∃ wi, wi = wr := ⟨_, rfl⟩
        subst hwi
        by_cases hjt : j < s.l.length
        · have hy : s.l[j]? = some s.l[j] := List.getElem?_eq_getElem hjt
          have hym := List.mem_of_getElem? hy
          generalize s.l[j] = u at *
          have hys0 := HO.out.2.2.2.2.1.head
          rw [HKA.out] at hys0
          obtain ⟨b', o', rfl, hB', hys⟩ := lies_up hys0 (by omega)
          obtain ⟨e0, e1, e2, e3, e4, e5⟩ := ((hys j u hy).past_ hbj hB').six
          obtain ⟨V, hV, hvb, hvs, hvo⟩ := upbox wi u
          have hin0 : UOk u := HL.out.2 s HO.out.2.2.2.1 u hym
          have hlen : (flatR (L.take k)).length + j ≤ (flatR L).length := flatR_len HO.out.2.2.1 (by omega)
          have hlj : (flatR (L.take k) ++ s.l.take j).length = (flatR (L.take k)).length + j := by rw [List.length_append, List.length_take]; omega
          have hln : (flatR (L.take k) ++ s.l.take j).length ≤ 1099511627776 := by omega
          have hof := fun W => Lib.hid (of_any u.d W hin0.dn.1 hin0.dn.2)
          have hrowV := own_below hownj hvb
          have hPne : u4.ownBlock ≠ some wi.heap.size := fun e => by have := (hownj.lt _ e).2; omega
          have hbV := hbj.trans (hvb.mono hbj.size)
          have htk : s.l.take (j + 1) = s.l.take j ++ [u] := by rw [List.take_add_one, hy]; rfl
          have HJ := Lib.hid (And.intro htk (And.intro hbV (And.intro hlen hlj)))
          have q3 : (0 : Int) ≤ (j : Int) := by omega
          have q4 : (j : Int) < (s.l.length : Int) := by omega
          have q5 : decide ((j : Int) < (s.l.length : Int)) = true := decide_eq_true q4
          generalize hflat : flatR (L.take k) ++ s.l.take j = us at *
          have HF := Lib.hid hflat
          clear hy hym hys hys0 hvb hvs hin0 hlen hlj hownj hbj hbV htk hflat
          go_upto_region 11 with fail
          rw [← hV]
          clear hV e0 e1 e2 e3 e4 e5
          obtain ⟨e0, e1, e2, e3, e4, e5⟩ := own6 hvo
          have HS := Lib.hid (fun W (h : Own W wi.heap.size 50 u.cells) => (own6 h : W.cell? ⟨wi.heap.size, 0, none⟩ = some (.slice u.kA u.key.length u.kc) ∧ W.cell? ⟨wi.heap.size, 1, none⟩ = some (.slice u.rA u.row.length u.rc) ∧ W.cell? ⟨wi.heap.size, 2, none⟩ = some (.int .u64 (u.t.e : Int)) ∧ W.cell? ⟨wi.heap.size, 3, none⟩ = some (.int .u64 (u.t.a : Int)) ∧ W.cell? ⟨wi.heap.size, 4, none⟩ = some (.int .u64 (u.t.b : Int)) ∧ W.cell? ⟨wi.heap.size, 5, none⟩ = some (.int .i64 u.d)))
          go_region_held3 (fun w' => Own w' wi.heap.size 50 u.cells ∧ (w'.cell? ⟨wi.heap.size, 0, none⟩ = some (.slice u.kA u.key.length u.kc) ∧ w'.cell? ⟨wi.heap.size, 1, none⟩ = some (.slice u.rA u.row.length u.rc) ∧ w'.cell? ⟨wi.heap.size, 2, none⟩ = some (.int .u64 (u.t.e : Int)) ∧ w'.cell? ⟨wi.heap.size, 3, none⟩ = some (.int .u64 (u.t.a : Int)) ∧ w'.cell? ⟨wi.heap.size, 4, none⟩ = some (.int .u64 (u.t.b : Int)) ∧ w'.cell? ⟨wi.heap.size, 5, none⟩ = some (.int .i64 u.d)))
            ((refine (fun h => And.intro h (HS.out _ h)) ?_; repeat (first | with_reducible exact ho9 | with_reducible exact ho8 | with_reducible exact hvo | with_reducible refine Own.more ?_ _ | with_reducible refine own_drew' ?_)))
            (first | (go_at_call 85; refine (hof _).out.mono ?_; rintro _ w2 ⟨rfl, b2⟩; have ho8 : Own w2 wi.heap.size 50 u.cells := (own_drew' hvo).past b2 hvo.inside; have hrow2 := own_below hrowV.drew b2; have hb8 := (HJ.out.2.1.drew).trans (b2.mono (HJ.out.2.1.drew).size)) | (refine step_append_lies (size := 8) (cells := Ln.cells Up.cells) (l := [(⟨u.d, u⟩ : Ln Up)]) (B := w2.heap.size + 1) _ rfl (.tmp 27) (.tmp 33) 114 119 rfl i0 _ 96 HI.out.1 HI.out.2.1 HI.out.2.2.1 HI.out.2.2.2.1 HI.out.2.2.2.2 rfl (by decide) (fun _ => rfl) lucells_one w.heap.size u4 us.length _ rfl (hrow2.alloc _) 1 w2.heap.size 0 (by simp [Act.eval, Act.put]) (ln_made _ _) (by unfold maxLen; simp; omega) (by simp; omega) (by simp; exact Nat.le_succ_of_le hb8.size) ?_; intro v3 w3 ho3 hb3 hv3 hg3; have ho9 : Own w3 wi.heap.size 50 u.cells := (hg3.block _ (by have := ho8.inside; simp; omega) (fun e => hPne e.symm)).trans (ho8.more _)))
          all_goals
            have H3 := Lib.hid (And.intro ho3 ((Below.alloc hb8 hb8.size _).trans hb3))
            clear ho3 hb3 hv3 hg3 ho9 ho8 hb8 hrow2 hrowV hPne HS hvo b2 hof e0 e1 e2 e3 e4 e5
            go_wp2_with fail
            go_roundw
            case rel =>
              refine ⟨j + 1, by go_num, by omega, ?_, H3.out.2⟩
              rw [HJ.out.1, ← List.append_assoc, HF.out, linesOf_snoc, List.flatMap_append, List.length_append]
              exact H3.out.1
            case measure => simp [intOf]; omega
        · have hj2 : j = s.l.length := by omega
          have q5 : decide ((j : Int) < (s.l.length : Int)) = false := decide_eq_false (by omega)
          rw [hj2, List.take_length] at hownj
          have HJ := Lib.hid (And.intro hownj hbj)
          clear hownj hbj hj2
          go_wp2_with fail
          go_roundw
          case rel =>
            refine ⟨k + 1, by go_num, by omega, ?_, HJ.out.2, by rw [HO.out.2.2.2.2.2.1, HK.out]⟩
            rw [flatR_take HO.out.2.2.1]
            exact HJ.out.1
          case measure => simp [intOf]; omega
    · have hk2 : k = L.length := by omega
      have q2 : decide ((k : Int) < (L.length : Int)) = false := decide_eq_false (by omega)
      rw [hk2, List.take_length] at hown
      rw [hk2, List.take_of_length_le (by rw [List.length_map]; exact Nat.le_refl _)] at hchk
      have hgood : ∀ u ∈ flatR L, chkU u = 0 ∧ UOk u ∧ UIn w w.heap.size u := fun u hu => by
        obtain ⟨s, hs, hus⟩ := List.mem_flatMap.1 hu
        exact ⟨chkUs_all.1 (chkLs_all.1 hchk s.l (List.mem_map_of_mem hs)) u hus, HL.out.2 s hs u hus, (HL.out.1.each_ s hs).each_ u hus⟩
      have hmem : ∀ x ∈ linesOf (flatR L), x.u ∈ flatR L ∧ x.S = x.u.d := fun x hx => by
        unfold linesOf at hx
        obtain ⟨u, hu, rfl⟩ := List.mem_map.1 hx
        exact ⟨hu, rfl⟩
      have hcall := (totalU_anyO u4 (flatR L).length w.heap.size (linesOf (flatR L)) wo (linesOf_len _).symm hown hbw.size (fun x hx => (hgood x.u (hmem x hx).1).2.2.past hbw (Nat.le_refl _)) (fun x hx => (hgood x.u (hmem x hx).1).2.1) (fun x hx => (hgood x.u (hmem x hx).1).1)
        (fun x hx => by rw [(hmem x hx).2]; exact (hgood x.u (hmem x hx).1).2.1.dn) hn)
      rw [linesOf_pL, flatR_flat] at hcall
      obtain ⟨E, hE⟩ : ∃ E, resE Uk.cmp ((L.map Rw.l).flatten.map Up.p) = E := ⟨_, rfl⟩
      obtain ⟨RL, hRL⟩ : ∃ RL, resL Uk.cmp ((L.map Rw.l).flatten.map Up.p) = RL := ⟨_, rfl⟩
      have hcall : Hid (Calls Tryz.prog 86 #[u4, .func (.func 87) #[] #[], .func (.func 88) #[] #[]] wo fun x w' => ∃ A c, ∃ outL : List Up, x = .returned (.tuple #[.slice A outL.length c, .int .i64 E]) ∧ outL.map Up.p = RL ∧ Ups w' w'.heap.size A outL ∧ (∀ u ∈ outL, UOk u) ∧ Below w.heap.size wo w' ∧ LOpn w' w.heap.size A outL) := by
        unfold TotSaysO at hcall
        rw [hE, hRL] at hcall
        exact Lib.hid hcall
      have hcl : consL (L.map Rw.l) = RL := by unfold consL; rw [if_pos hchk, hRL]
      have hce : consE (L.map Rw.l) = E := by unfold consE; rw [if_pos hchk, hE]
      have HC := Lib.hid (And.intro hcl (And.intro hce hbw))
      clear hown hchk hgood hmem hcl hce hbw hE hRL
      go_wp2_with fail
      refine hcall.out.mono ?_
      rintro _ w9 ⟨A', c', outL, rfl, k1, k2, k3, k4⟩
      have H9 := Lib.hid (And.intro k1 (And.intro k2 (And.intro k3 k4)))
      clear k1 k2 k3 k4 hcall
      go_wp2_with fail
      go_ret2
      exact ⟨A', c', outL, by rw [HC.out.2.1]; rfl, by rw [HC.out.1]; exact H9.out.1, H9.out.2.1, H9.out.2.2.1, HC.out.2.2.trans H9.out.2.2.2.1, H9.out.2.2.2.2⟩
end Go.Proofs.YtgalemkjgaiphaaGreat
namespace Go.Proofs.YtgalemkjgaiphaaGreat
open Go Go.RowKit

theorem infoTm : (Tryz.prog.info? 48).map (fun i => (i.zero, i.size, i.bytes)) = some (some (Tm.mk 0 0 0).val, 3, 24) := by kernel_rfl
theorem flat_at : ∀ (l : List Tm) (i : Nat) (t : Tm), l[i]? = some t → (l.flatMap Tm.cells)[i * 3]? = some (.int .u64 (t.e : Int)) ∧ (l.flatMap Tm.cells)[i * 3 + 1]? = some (.int .u64 (t.a : Int)) ∧ (l.flatMap Tm.cells)[i * 3 + 2]? = some (.int .u64 (t.b : Int))
  | [], i, t, h => by simp at h
  | x :: l, 0, t, h => by
    obtain rfl : x = t := by simpa using h
    simp [Tm.cells]
  | x :: l, i + 1, t, h => by
    have ih := flat_at l i t (by simpa using h)
    simp only [List.flatMap_cons, Tm.cells, show (i + 1) * 3 = i * 3 + 3 by omega, show i * 3 + 3 + 1 = i * 3 + 1 + 3 by omega, show i * 3 + 3 + 2 = i * 3 + 2 + 3 by omega]
    simpa using ih
theorem flat_len (l : List Tm) : (l.flatMap Tm.cells).length = l.length * 3 := by
  induction l with
  | nil => rfl
  | cons x l ih => rw [List.flatMap_cons, List.length_append, ih, List.length_cons]; simp [Tm.cells]; omega
theorem flatT_snoc (l : List Tm) (t : Tm) : l.flatMap Tm.cells ++ #[Value.int .u64 (t.e : Int), .int .u64 (t.a : Int), .int .u64 (t.b : Int)].toList = (l ++ [t]).flatMap Tm.cells := by
  simp [Tm.cells]
theorem times_of_own {w : World} {base : Nat} {v : Value} {l : List Tm} {n : Nat} (hn : n = l.length) (h : w.ownsRow base 48 3 v n (l.flatMap Tm.cells)) :
    ∃ A c, v = .slice A l.length c ∧ l.length ≤ c ∧ c ≤ maxLen ∧ Times w w.heap.size A l := by
  subst hn
  rcases h.2 with ⟨rfl, h0⟩ | ⟨g, cap, cur, rfl, hb, hg, h1, h2, h3, h4⟩
  · exact ⟨none, 0, by rw [h0], by omega, by omega, fun h => by omega⟩
  · refine ⟨_, cap, rfl, h1, h2, fun _ => ⟨g, 0, rfl, (Array.getElem?_eq_some_iff.1 hg).1, fun i t hi => ?_⟩⟩
    have hil : i < l.length := (List.getElem?_eq_some_iff.1 hi).1
    obtain ⟨a0, a1, a2⟩ := flat_at l i t hi
    have hc : ∀ j, j < l.length * 3 → w.cell? ⟨g, 0 + j, none⟩ = (l.flatMap Tm.cells)[j]? := fun j hj => by rw [Nat.zero_add]; exact h.cellAt j hj
    exact ⟨(hc _ (by omega)).trans a0, by rw [Nat.add_assoc]; exact (hc _ (by omega)).trans a1, by rw [Nat.add_assoc]; exact (hc _ (by omega)).trans a2⟩
end Go.Proofs.YtgalemkjgaiphaaGreat
namespace Go.Proofs.YtgalemkjgaiphaaGreat
open Go Go.RowKit

theorem tcells_one (t : Tm) : ∀ v ∈ t.cells, v.oneCell' = true := by
  intro v hv
  simp only [Tm.cells, List.mem_cons, List.not_mem_nil, or_false] at hv
  rcases hv with rfl | rfl | rfl <;> rfl
theorem lies_times {w : World} {B : Nat} {A : Option Addr} {l : List Tm} (h : Times w B A l) : Lies 3 Tm.cells w B A l := fun hp => by
  obtain ⟨b, o, e, hb, hc⟩ := h hp
  refine ⟨b, o, e, hb, fun i t hi j u hj => ?_⟩
  obtain ⟨a0, a1, a2⟩ := hc i t hi
  match j, hj with
  | 0, hj => rw [← hj]; exact a0
  | 1, hj => rw [← hj]; exact a1
  | 2, hj => rw [← hj]; exact a2
theorem times_lies {w : World} {B : Nat} {A : Option Addr} {l : List Tm} (h : Lies 3 Tm.cells w B A l) : Times w B A l := fun hp => by
  obtain ⟨b, o, e, hb, hc⟩ := h hp
  exact ⟨b, o, e, hb, fun i t hi => ⟨hc i t hi 0 _ rfl, hc i t hi 1 _ rfl, hc i t hi 2 _ rfl⟩⟩
theorem lies_owned {α : Type} {size : Nat} {cells : α → List Value} {w : World} {g : Nat} {t : TypeId} {l : List α} (hcl : ∀ x, (cells x).length = size) (h : Own w g t (l.flatMap cells)) : Lies size cells w w.heap.size (some ⟨g, 0, none⟩) l := fun _ =>
  ⟨g, 0, rfl, h.inside, fun i x hi j u hj => by rw [Nat.zero_add, h.at_]; exact flat_of hcl l i j x u hi hj⟩

set_option maxRecDepth 100000 in
set_option maxHeartbeats 3200000 in
theorem listU_any (A : Option Addr) (c : Nat) (l : List Up) (w : World) (hl : Lies 6 Up.cells w w.heap.size A l) (hn : l.length * 80 ≤ 140737488355328) :
    Calls Tryz.prog 89 #[.slice A l.length c] w fun x w' => ∃ A', x = .returned (.slice A' l.length l.length) ∧ (l = [] → A' = none ∧ w' = w) ∧ (0 < l.length → A' = some ⟨w.heap.size, 0, none⟩ ∧ Own w' w.heap.size 50 (l.flatMap Up.cells)) ∧ Below w.heap.size w w' := by
  obtain ⟨i0, hi, hz0, hz1, hz2⟩ := info_parts infoUp
  have hU := Tryz.underlying37
  have hsz1 : (Tryz.prog.info? 50).map (·.size) = some 6 := by rw [hi]; simp [hz1]
  cases l with
  | nil =>
    clear hl hn hi hz0 hz1 hz2 hU hsz1
    go_enter Tryz.func89, Tryz.ntmps89
    go_wp2_with fail
    go_ret
    exact ⟨none, rfl, fun _ => ⟨rfl, rfl⟩, fun h => absurd h (by simp), Below.refl _ _⟩
  | cons t l =>
    obtain ⟨b, o, rfl, hB, hc⟩ := hl (by simp)
    obtain ⟨m, hm⟩ : ∃ m, m = t :: l := ⟨_, rfl⟩
    have hpos : 0 < m.length := by rw [hm]; simp
    have hne : m ≠ [] := by rw [hm]; simp
    rw [← hm] at hc hn ⊢
    have t1 : ((m.length : Int) == 0) = false := beq_eq_false_iff_ne.2 (by omega)
    have HC := Lib.hid hc
    have HNE := Lib.hid hne
    clear hc hm hl hne
    go_enter Tryz.func89, Tryz.ntmps89
    go_wp2_with (refine wpList_make_full _ rfl (.tmp 8) (.tmp 8) 37 rfl w.heap.size 50 i0 _ 6 hU hi hz0 hz1 .i64 .i64 _ _ m.length rfl rfl rfl rfl ?c1 ?c2 ?c3 ?_)
    case c1 => rw [hz2]; omega
    case c2 => unfold maxLen; omega
    case c3 => exact Nat.le_refl _
    intro w1 ho1 hg1
    obtain ⟨cur, ho1⟩ : ∃ cur, w1.ownsRow w.heap.size 50 6 (.slice (some ⟨w.heap.size, 0, none⟩) m.length m.length) m.length cur := ⟨_, ho1⟩
    have hm1 := own_made ho1
    have hb1 : Below w.heap.size w w1 := (Below.refl _ _).grown hg1 (Nat.le_refl _) (fun k h => by cases h)
    have hlen1 : cur.length = m.length * 6 := ho1.1
    have hcl : (m.flatMap Up.cells).length = m.length * 6 := flat_size (size := 6) (cells := Up.cells) (fun _ => rfl) m
    have hsrc : ∀ j v, (m.flatMap Up.cells)[j]? = some v → w1.cell? ((⟨b, o, none⟩ : Addr).add j) = some v := fun j v hv => by
      obtain ⟨i, r, x, rfl, hx, hr⟩ := flat_back (size := 6) (cells := Up.cells) (by decide) (fun _ => rfl) m j v hv
      have ea : (⟨b, o, none⟩ : Addr).add (i * 6 + r) = ⟨b, o + i * 6 + r, none⟩ := by unfold Addr.add; split <;> simp_all <;> omega
      rw [ea, hb1.cell (p := ⟨b, o + i * 6 + r, none⟩) hB]
      exact HC.out i x hx r v hr
    have hrun := fun ty => run_copy_all (P := Tryz.prog) w1 37 37 ty 50 w.heap.size m.length m.length c 6 ⟨b, o, none⟩ cur (m.flatMap Up.cells) 50 hU hsz1 hm1 hcl hsrc (by rw [hcl, hlen1]) (fun v hv => by
      obtain ⟨x, _, hx⟩ := List.mem_flatMap.1 hv
      exact ucells_one x v hx)
    have ho2 : Own (w1.setRow w.heap.size (m.flatMap Up.cells).toArray) w.heap.size 50 (m.flatMap Up.cells) := own_setRow hm1
    have hb2 : Below w.heap.size w (w1.setRow w.heap.size (m.flatMap Up.cells).toArray) := below_setRow hb1 (Nat.le_refl _) _
    have HR := Lib.hid hrun
    obtain ⟨w2, hw2⟩ : ∃ w2, w2 = w1.setRow w.heap.size (m.flatMap Up.cells).toArray := ⟨_, rfl⟩
    rw [← hw2] at HR ho2 hb2
    have H2 := Lib.hid (And.intro ho2 hb2)
    clear hw2 hrun ho2 hb2 hsrc hcl hm1 hb1 hlen1 ho1 hg1 hU hsz1 hi hz0 hz1 hz2
    go_wp2_with (refine Lib.wpList_copy_run _ rfl _ _ 37 37 rfl _ _ rfl rfl (HR.out _) ?_)
    go_wp2_with fail
    go_ret
    exact ⟨_, rfl, fun h => absurd h HNE.out, fun _ => ⟨rfl, H2.out.1⟩, H2.out.2⟩

set_option maxRecDepth 100000 in
set_option maxHeartbeats 3200000 in
theorem listT_any (A : Option Addr) (c : Nat) (l : List Tm) (w : World) (hl : Lies 3 Tm.cells w w.heap.size A l) (hn : l.length * 24 ≤ 140737488355328) :
    Calls Tryz.prog 30 #[.slice A l.length c] w fun x w' => ∃ A', x = .returned (.slice A' l.length l.length) ∧ (l = [] → A' = none ∧ w' = w) ∧ (0 < l.length → A' = some ⟨w.heap.size, 0, none⟩ ∧ Own w' w.heap.size 48 (l.flatMap Tm.cells)) ∧ Below w.heap.size w w' := by
  obtain ⟨i0, hi, hz0, hz1, hz2⟩ := info_parts infoTm
  have hU := Tryz.underlying22
  have hsz1 : (Tryz.prog.info? 48).map (·.size) = some 3 := by rw [hi]; simp [hz1]
  cases l with
  | nil =>
    clear hl hn hi hz0 hz1 hz2 hU hsz1
    go_enter Tryz.func30, Tryz.ntmps30
    go_wp2_with fail
    go_ret
    exact ⟨none, rfl, fun _ => ⟨rfl, rfl⟩, fun h => absurd h (by simp), Below.refl _ _⟩
  | cons t l =>
    obtain ⟨b, o, rfl, hB, hc⟩ := hl (by simp)
    obtain ⟨m, hm⟩ : ∃ m, m = t :: l := ⟨_, rfl⟩
    have hpos : 0 < m.length := by rw [hm]; simp
    have hne : m ≠ [] := by rw [hm]; simp
    rw [← hm] at hc hn ⊢
    have t1 : ((m.length : Int) == 0) = false := beq_eq_false_iff_ne.2 (by omega)
    have HC := Lib.hid hc
    have HNE := Lib.hid hne
    clear hc hm hl hne
    go_enter Tryz.func30, Tryz.ntmps30
    go_wp2_with (refine wpList_make_full _ rfl (.tmp 8) (.tmp 8) 22 rfl w.heap.size 48 i0 _ 3 hU hi hz0 hz1 .i64 .i64 _ _ m.length rfl rfl rfl rfl ?c1 ?c2 ?c3 ?_)
    case c1 => rw [hz2]; omega
    case c2 => unfold maxLen; omega
    case c3 => exact Nat.le_refl _
    intro w1 ho1 hg1
    obtain ⟨cur, ho1⟩ : ∃ cur, w1.ownsRow w.heap.size 48 3 (.slice (some ⟨w.heap.size, 0, none⟩) m.length m.length) m.length cur := ⟨_, ho1⟩
    have hm1 := own_made ho1
    have hb1 : Below w.heap.size w w1 := (Below.refl _ _).grown hg1 (Nat.le_refl _) (fun k h => by cases h)
    have hlen1 : cur.length = m.length * 3 := ho1.1
    have hcl : (m.flatMap Tm.cells).length = m.length * 3 := flat_size (size := 3) (cells := Tm.cells) (fun _ => rfl) m
    have hsrc : ∀ j v, (m.flatMap Tm.cells)[j]? = some v → w1.cell? ((⟨b, o, none⟩ : Addr).add j) = some v := fun j v hv => by
      obtain ⟨i, r, x, rfl, hx, hr⟩ := flat_back (size := 3) (cells := Tm.cells) (by decide) (fun _ => rfl) m j v hv
      have ea : (⟨b, o, none⟩ : Addr).add (i * 3 + r) = ⟨b, o + i * 3 + r, none⟩ := by unfold Addr.add; split <;> simp_all <;> omega
      rw [ea, hb1.cell (p := ⟨b, o + i * 3 + r, none⟩) hB]
      exact HC.out i x hx r v hr
    have hrun := fun ty => run_copy_all (P := Tryz.prog) w1 22 22 ty 48 w.heap.size m.length m.length c 3 ⟨b, o, none⟩ cur (m.flatMap Tm.cells) 48 hU hsz1 hm1 hcl hsrc (by rw [hcl, hlen1]) (fun v hv => by
      obtain ⟨x, _, hx⟩ := List.mem_flatMap.1 hv
      exact tcells_one x v hx)
    have ho2 : Own (w1.setRow w.heap.size (m.flatMap Tm.cells).toArray) w.heap.size 48 (m.flatMap Tm.cells) := own_setRow hm1
    have hb2 : Below w.heap.size w (w1.setRow w.heap.size (m.flatMap Tm.cells).toArray) := below_setRow hb1 (Nat.le_refl _) _
    have HR := Lib.hid hrun
    obtain ⟨w2, hw2⟩ : ∃ w2, w2 = w1.setRow w.heap.size (m.flatMap Tm.cells).toArray := ⟨_, rfl⟩
    rw [← hw2] at HR ho2 hb2
    have H2 := Lib.hid (And.intro ho2 hb2)
    clear hw2 hrun ho2 hb2 hsrc hcl hm1 hb1 hlen1 ho1 hg1 hU hsz1 hi hz0 hz1 hz2
    go_wp2_with (refine Lib.wpList_copy_run _ rfl _ _ 22 22 rfl _ _ rfl rfl (HR.out _) ?_)
    go_wp2_with fail
    go_ret
    exact ⟨_, rfl, fun h => absurd h HNE.out, fun _ => ⟨rfl, H2.out.1⟩, H2.out.2⟩
theorem listT_times (A : Option Addr) (c : Nat) (l : List Tm) (w : World) (hl : Times w w.heap.size A l) (hn : l.length * 24 ≤ 140737488355328) :
    Calls Tryz.prog 30 #[.slice A l.length c] w fun x w' => ∃ A', x = .returned (.slice A' l.length l.length) ∧ Times w' w'.heap.size A' l ∧ (∀ b o, A' = some ⟨b, o, none⟩ → w.heap.size ≤ b ∧ b < w'.heap.size) ∧ Below w.heap.size w w' :=
  (listT_any A c l w (lies_times hl) hn).mono fun x w' ⟨A', h1, h2, h3, h4⟩ => by
    refine ⟨A', h1, ?_, ?_, h4⟩
    · intro hp
      obtain ⟨rfl, ho⟩ := h3 hp
      exact times_lies (lies_owned (fun _ => rfl) ho) hp
    · intro b o e
      by_cases hp : 0 < l.length
      · obtain ⟨rfl, ho⟩ := h3 hp
        simp only [Option.some.injEq, Addr.mk.injEq, and_true] at e
        have := ho.inside
        omega
      · obtain ⟨rfl, _⟩ := h2 (List.eq_nil_of_length_eq_zero (by omega))
        cases e
end Go.Proofs.YtgalemkjgaiphaaGreat
namespace Go.Proofs.YtgalemkjgaiphaaGreat
open Go Go.RowKit

theorem lies_cells {α : Type} {size : Nat} {cells : α → List Value} {w : World} {B b o : Nat} {l : List α} (hpos : 0 < size) (hcl : ∀ x, (cells x).length = size) (h : Lies size cells w B (some ⟨b, o, none⟩) l) : ∀ j u, (l.flatMap cells)[j]? = some u → w.cell? ((⟨b, o, none⟩ : Addr).add j) = some u := fun j u hu => by
  obtain ⟨i, r, y, rfl, hi, hr⟩ := flat_back hpos hcl l j u hu
  obtain ⟨b', o', e, _, hc⟩ := h (by have := (List.getElem?_eq_some_iff.1 hi).1; omega)
  simp only [Option.some.injEq, Addr.mk.injEq, and_true] at e
  obtain ⟨rfl, rfl⟩ := e
  have ea : (⟨b, o, none⟩ : Addr).add (i * size + r) = ⟨b, o + i * size + r, none⟩ := by unfold Addr.add; split <;> simp_all <;> omega
  rw [ea]
  exact hc i y hi r u hr
theorem append_types {P : Program} (w : World) {t tx ty e e' : TypeId} {i : TypeInfo} (ht : P.underlying t = some (.slice e)) (htx : P.underlying tx = some (.slice e')) (hi : P.info? e = some i) (ad : Option Addr) (n cap : Nat) (x : Value) : (Builtin.append_ #[t, tx] ty #[.slice ad n cap, x]).run P w = (Builtin.append_ #[t, t] ty #[.slice ad n cap, x]).run P w := by
  simp [Builtin.append_, run_underlying ht, run_underlying htx, sizeOf, typeInfo, hi]
theorem wpList_append_room {P : Program} (w : World) {ops : Array Oper} {rest : List Oper} {o : Oper} {a : Act} {Q : Exit → Act → World → Prop} (hgd : o.guard = none) (s x : Operand) (t tx e e' : TypeId)
    (ho : o.op = .call { callee := .builtin .append, args := #[s, x], argTypes := #[t, tx] }) (i0 : TypeInfo) (size : Nat) (ht : P.underlying t = some (.slice e)) (htx : P.underlying tx = some (.slice e')) (hi : P.info? e = some i0) (hsz : i0.size = size)
    (base g n cap m c b off : Nat) (xs cs : List Value) (hown : w.ownsRow base e size (.slice (some ⟨g, 0, none⟩) n cap) n xs) (hs : a.eval s = .slice (some ⟨g, 0, none⟩) n cap) (hx : a.eval x = .slice (some ⟨b, off, none⟩) m c) (hcs : cs.length = m * size) (hroom : n + m ≤ cap)
    (hsrc : ∀ j v, cs[j]? = some v → w.cell? ((⟨b, off, none⟩ : Addr).add j) = some v) (h1 : ∀ v ∈ cs, v.oneCell' = true)
    (h : ∀ w', w'.ownsRow base e size (.slice (some ⟨g, 0, none⟩) (n + m) cap) (n + m) (xs ++ cs) → w.grownBy w' (some g) → wpList P ops Q rest (a.put o.dst (.slice (some ⟨g, 0, none⟩) (n + m) cap)) w') :
    wpList P ops Q (o :: rest) a w := by
  obtain ⟨X, hrun, hB, hG⟩ := run_append_own_spare (P := P) w base t o.type e i0 size ht hi hsz g n cap xs hown ⟨b, off, none⟩ m c cs hcs hsrc h1 hroom
  refine wpList_plain hgd fun K hK => ?_
  unfold Oper.wp execOp
  simp only [ho, resolve, invoke, builtin, Sem.run_bind, Sem.run_pure, Result.andThen_ok, List.map_toArray, List.map_cons, List.map_nil, hs, hx, append_types w ht htx hi, hrun]
  exact hK _ _ (h X hB hG)
end Go.Proofs.YtgalemkjgaiphaaGreat
namespace Go.Proofs.YtgalemkjgaiphaaGreat
open Go Go.RowKit

structure Fr (w w' : World) (P g : Nat) : Prop where
  os : w'.os = w.os
  tape : w'.tape = w.tape
  output : w'.output = w.output
  size : w.heap.size ≤ w'.heap.size
  block : ∀ k, k < w.heap.size → k ≠ P → k ≠ g → w'.heap[k]? = w.heap[k]?
theorem Fr.refl (w : World) (P g : Nat) : Fr w w P g := ⟨rfl, rfl, rfl, Nat.le_refl _, fun _ _ _ _ => rfl⟩
theorem Fr.trans {a b c : World} {P g : Nat} (h : Fr a b P g) (k : Fr b c P g) : Fr a c P g := ⟨k.os.trans h.os, k.tape.trans h.tape, k.output.trans h.output, Nat.le_trans h.size k.size, fun i h0 h1 h2 => (k.block i (Nat.lt_of_lt_of_le h0 h.size) h1 h2).trans (h.block i h0 h1 h2)⟩
theorem Fr.below {w w' : World} {P g B : Nat} (h : Fr w w' P g) (hP : B ≤ P) (hg : B ≤ g) (hB : B ≤ w.heap.size) : Below B w w' := ⟨h.os, h.tape, h.output, h.size, fun k hk => h.block k (by omega) (by omega) (by omega)⟩
structure Rws (w : World) (P g n cap base : Nat) (xs : List Value) : Prop where
  var : Own w P 149 [.slice (some ⟨g, 0, none⟩) n cap]
  row : w.ownsRow base 54 3 (.slice (some ⟨g, 0, none⟩) n cap) n xs
  ne : g ≠ P
theorem ret_sub {A : Option Addr} {m n c : Nat} (h : m = n) : Ending.returned (.slice A m c) = .returned (.slice A n c) := by rw [h]
def Rowed (r : List Vl) (P g n cap base : Nat) (xs : List Value) (w : World) (x : Ending) (w' : World) : Prop :=
  ∃ A c, x = .returned (.slice A r.length c) ∧ (0 < r.length → A = some ⟨g, n * 3, none⟩) ∧ (r = [] → A = none) ∧ Rws w' P g (n + r.length) cap base (xs ++ r.flatMap Vl.cells) ∧ Fr w w' P g
set_option maxRecDepth 100000 in
set_option maxHeartbeats 3200000 in
theorem rowcopy_any (P g n cap base : Nat) (xs : List Value) (A : Option Addr) (c : Nat) (r : List Vl) (w : World) (hr : Rws w P g n cap base xs) (hl : Vals w w.heap.size A r) (hn : n + r.length ≤ cap) (hc : cap ≤ 140737488351232) :
    Calls Tryz.prog 117 #[.pointer (some ⟨P, 0, none⟩), .slice A r.length c] w (Rowed r P g n cap base xs w) := by
  obtain ⟨i0, hi, hz0, hz1, hz2⟩ := info_parts infoVl
  have HI := Lib.hid (And.intro Tryz.underlying149 (And.intro hi hz1))
  by_cases h0 : r = []
  · subst h0
    have HR := Lib.hid hr
    clear hr hl hn hi hz0 hz1 hz2
    go_enter Tryz.func117, Tryz.ntmps117
    go_wp2_with fail
    go_ret
    exact ⟨none, 0, rfl, fun h => absurd h (by simp), fun _ => rfl, by simpa using HR.out, Fr.refl _ _ _⟩
  have hp : 0 < r.length := List.length_pos_iff.2 h0
  obtain ⟨b, o, rfl, hB, hv⟩ := hl hp
  have t0 : ((r.length : Int) == 0) = false := beq_eq_false_iff_ne.2 (by omega)
  have c0 := hr.var.at_ 0
  have f0 := hr.var.open_ 0
  simp only [List.getElem?_cons_zero] at c0
  have hsrc := Lib.hid (lies_cells (size := 3) (cells := Vl.cells) (by decide) (fun _ => rfl) (lies_of_vals hl))
  have HR := Lib.hid (And.intro hr h0)
  clear hr hl hv hi hz0 hz1 hz2 h0
  go_enter Tryz.func117, Tryz.ntmps117
  go_wp2_with (at_builtin; refine wpList_append_room _ rfl (.tmp 16) (.tmp 17) 149 44 54 54 rfl i0 3 HI.out.1 Tryz.underlying44 HI.out.2.1 HI.out.2.2 base g n cap r.length c b o xs (r.flatMap Vl.cells) HR.out.1.row rfl rfl ?m1 hn hsrc.out ?m2 ?m3)
  case m1 => exact flat_size (size := 3) (cells := Vl.cells) (fun _ => rfl) r
  case m2 => exact fun v hv => (by obtain ⟨x, _, hx⟩ := List.mem_flatMap.1 hv; exact vl_one x v hx)
  intro w1 ho1 hg1
  have hvar : Own w1 P 149 [.slice (some ⟨g, 0, none⟩) n cap] := (hg1.block P HR.out.1.var.inside (by simp; exact fun h => HR.out.1.ne h.symm)).trans HR.out.1.var
  have c1 := hvar.at_ 0
  have f1 := hvar.open_ 0
  simp only [List.getElem?_cons_zero] at c1
  have hg1' := hg1
  have H1 := Lib.hid (And.intro ho1 (And.intro hg1 hvar))
  clear ho1 hg1 hvar c0 f0
  have hvs := H1.out.2.2.set_ 0 (.slice (some ⟨g, 0, none⟩) (n + r.length) cap)
  have hfrm : Fr w (w1.setCell ⟨P, 0, none⟩ (.slice (some ⟨g, 0, none⟩) (n + r.length) cap)) P g := ⟨hg1'.os, hg1'.tape, hg1'.output, by simpa [World.setCell] using hg1'.size, fun k h0 h1 h2 => (Below.heap_setCell w1 ⟨P, 0, none⟩ _ k h1).trans (hg1'.block k h0 (by simp; exact h2))⟩
  obtain ⟨V, hV⟩ : ∃ V, V = w1.setCell ⟨P, 0, none⟩ (.slice (some ⟨g, 0, none⟩) (n + r.length) cap) := ⟨_, rfl⟩
  rw [← hV] at hvs hfrm
  have c2 := hvs.at_ 0
  simp only [List.set_cons_zero, List.getElem?_cons_zero] at c2
  have hrow : V.ownsRow base 54 3 (.slice (some ⟨g, 0, none⟩) (n + r.length) cap) (n + r.length) (xs ++ r.flatMap Vl.cells) := by
    rw [hV]
    refine World.ownsRow.kept (row := some P) H1.out.1 ⟨rfl, rfl, rfl, by simp [World.setCell], fun k _ hne => Below.heap_setCell w1 ⟨P, 0, none⟩ _ k (by simpa using hne)⟩ (.inr ?_)
    exact fun h => HR.out.1.ne (by simpa [Value.ownBlock] using h)
  have HV := Lib.hid (And.intro hvs (And.intro hfrm hrow))
  have q0 : (0 : Int) ≤ (n : Int) := by omega
  have q1 : (n : Int) ≤ ((n + r.length : Nat) : Int) := by omega
  have q2 : ((n + r.length : Nat) : Int) ≤ (cap : Int) := by omega
  clear hvs hfrm hg1' hrow
  go_upto_region 5 with fail
  rw [← hV]
  clear hV c1 f1
  go_quiet (fail)
  go_wp2_with fail
  go_ret
  exact ⟨_, _, ret_sub (Nat.add_sub_cancel_left n r.length), fun _ => rfl, fun h => absurd h HR.out.2, ⟨HV.out.1, HV.out.2.2, HR.out.1.ne⟩, ⟨HV.out.2.1.os, HV.out.2.1.tape, HV.out.2.1.output, HV.out.2.1.size, HV.out.2.1.block⟩⟩
end Go.Proofs.YtgalemkjgaiphaaGreat
namespace Go.Proofs.YtgalemkjgaiphaaGreat
open Go Go.RowKit

theorem flat_part {α : Type} {cells : α → List Value} {X : List α} {k : Nat} {u : α} (h : X[k]? = some u) : X.flatMap cells = (X.take k).flatMap cells ++ (cells u ++ (X.drop (k + 1)).flatMap cells) := by
  obtain ⟨hk, rfl⟩ := List.getElem?_eq_some_iff.1 h
  have e : X = X.take k ++ X[k] :: X.drop (k + 1) := by rw [← List.drop_eq_getElem_cons hk, List.take_append_drop]
  have e := congrArg (fun Y : List α => Y.flatMap cells) e
  simp only [List.flatMap_append, List.flatMap_cons] at e
  exact e
theorem flat_change {α : Type} {cells : α → List Value} {X : List α} {k : Nat} {u u' : α} (h : X[k]? = some u) : (X.set k u').flatMap cells = (X.take k).flatMap cells ++ (cells u' ++ (X.drop (k + 1)).flatMap cells) := by
  obtain ⟨hk, rfl⟩ := List.getElem?_eq_some_iff.1 h
  rw [List.set_eq_take_append_cons_drop, if_pos hk]
  simp
theorem flat_sets {α : Type} {size : Nat} {cells : α → List Value} (hcl : ∀ x, (cells x).length = size) {X : List α} {k : Nat} {u : α} (h : X[k]? = some u) (c : List Value) (hc : c.length = size) (r : Nat) (v : Value) (hr : r < size) :
    ((X.take k).flatMap cells ++ (c ++ (X.drop (k + 1)).flatMap cells)).set (k * size + r) v = (X.take k).flatMap cells ++ (c.set r v ++ (X.drop (k + 1)).flatMap cells) := by
  have hk := (List.getElem?_eq_some_iff.1 h).1
  have hl : ((X.take k).flatMap cells).length = k * size := by rw [flat_size hcl, List.length_take, Nat.min_eq_left (by omega)]
  rw [List.set_append_right _ _ (by rw [hl]; omega), hl, Nat.add_sub_cancel_left, List.set_append_left _ _ (by rw [hc]; exact hr)]
end Go.Proofs.YtgalemkjgaiphaaGreat
namespace Go.Proofs.YtgalemkjgaiphaaGreat
open Go Go.RowKit

theorem set_time {X : List Up} {k : Nat} {u : Up} (h : X[k]? = some u) (t : Tm) :
    (((X.flatMap Up.cells).set (k * 6 + 2) (.int .u64 (t.e : Int))).set (k * 6 + 3) (.int .u64 (t.a : Int))).set (k * 6 + 4) (.int .u64 (t.b : Int)) = (X.set k { u with t := t }).flatMap Up.cells := by
  rw [flat_change h, flat_part h, flat_sets (size := 6) (fun _ => rfl) h _ rfl 2 _ (by decide), flat_sets (size := 6) (fun _ => rfl) h _ rfl 3 _ (by decide), flat_sets (size := 6) (fun _ => rfl) h _ rfl 4 _ (by decide)]
  rfl
theorem set_rows {X : List Up} {k : Nat} {u : Up} (h : X[k]? = some u) (kA rA : Option Addr) (kc rc : Nat) :
    ((X.flatMap Up.cells).set (k * 6 + 0) (.slice kA u.key.length kc)).set (k * 6 + 1) (.slice rA u.row.length rc) = (X.set k { u with kA := kA, kc := kc, rA := rA, rc := rc }).flatMap Up.cells := by
  rw [flat_change h, flat_part h, flat_sets (size := 6) (fun _ => rfl) h _ rfl 0 _ (by decide), flat_sets (size := 6) (fun _ => rfl) h _ rfl 1 _ (by decide)]
  rfl
theorem part_next {α : Type} {g : α → α} {l : List α} {k : Nat} {u : α} (h : l[k]? = some u) : ((l.take k).map g ++ l.drop k)[k]? = some u ∧ ((l.take k).map g ++ l.drop k).set k (g u) = (l.take (k + 1)).map g ++ l.drop (k + 1) := by
  obtain ⟨hk, rfl⟩ := List.getElem?_eq_some_iff.1 h
  have hl : ((l.take k).map g).length = k := by rw [List.length_map, List.length_take, Nat.min_eq_left (by omega)]
  constructor
  · rw [List.getElem?_append_right (by omega), hl, Nat.sub_self, List.getElem?_drop, Nat.add_zero, List.getElem?_eq_getElem hk]
  · rw [List.set_append_right _ _ (by omega), hl, Nat.sub_self, List.drop_eq_getElem_cons hk, List.set_cons_zero, List.take_add_one, List.getElem?_eq_getElem hk, List.map_append, List.append_assoc]
    rfl
end Go.Proofs.YtgalemkjgaiphaaGreat
