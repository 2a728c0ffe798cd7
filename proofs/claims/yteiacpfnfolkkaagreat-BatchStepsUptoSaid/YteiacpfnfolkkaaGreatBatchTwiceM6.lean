/- Part 6 of the texts on which BatchTwice rests: facts and contracts. -/
import Derived.Test.YteiacpfnfolkkaaGreatBatchTwiceM5
import Derived.BigQuiet
import Derived.Test.YteiacpfnfolkkaaGreatSort
import Derived.Outline
import Derived.WalkSpells
import Derived.WalkLawsBesides
import Derived.Deep.Onto
import Derived.Deep.DeepAppendRoom
import Derived.ArgAppend
import Derived.Deep.QuietTactic
namespace Go.Proofs.YteiacpfnfolkkaaGreat
open Go Go.RowKit

theorem up_p {x y : Up} (h : x.p = y.p) : x.key = y.key ∧ x.row = y.row ∧ x.t = y.t ∧ x.d = y.d := by
  have h : ((⟨x.key, x.row, x.t⟩ : Uk), x.d) = ((⟨y.key, y.row, y.t⟩ : Uk), y.d) := h
  simp only [Prod.mk.injEq, Uk.mk.injEq] at h
  exact ⟨h.1.1, h.1.2.1, h.1.2.2, h.2⟩
theorem plc_p {x x' y y' : Up} (hx : x.p = x'.p) (hy : y.p = y'.p) : plc x y = plc x' y' := by
  obtain ⟨a, b, _⟩ := up_p hx
  obtain ⟨c, d, _⟩ := up_p hy
  unfold plc
  rw [a, b, c, d]
theorem map_pk {l m : List Up} (h : l.map Up.p = m.map Up.p) : l.map Up.k = m.map Up.k := by
  have := congrArg (List.map Prod.fst) h
  rw [List.map_map, List.map_map] at this
  exact this
theorem chkUs_p : ∀ {l m : List Up}, l.map Up.p = m.map Up.p → chkUs l = chkUs m
  | [], [], _ => rfl
  | [], _ :: _, h => by simp at h
  | _ :: _, [], h => by simp at h
  | x :: l, y :: m, h => by
    rw [List.map_cons, List.map_cons, List.cons.injEq] at h
    have ih := chkUs_p h.2
    have hk : x.k = y.k := congrArg Prod.fst h.1
    unfold chkUs chkU
    rw [ih, hk]
theorem even_p {l m : List Up} (h : l.map Up.p = m.map Up.p) (hl : EvenP l) : EvenP m := by
  refine ⟨fun u hu => ?_, by rw [← h]; exact hl.2.1, by rw [← chkUs_p h]; exact hl.2.2⟩
  have : u.p ∈ l.map Up.p := by rw [h]; exact List.mem_map_of_mem hu
  obtain ⟨x, hx, e⟩ := List.mem_map.1 this
  rw [← (up_p e).2.2.2]
  exact hl.1 x hx
theorem advL_p {l m : List Up} (f : List Tm) (h : l.map Up.p = m.map Up.p) : (advL f l).map Up.p = (advL f m).map Up.p := by
  have e : ∀ n : List Up, (advL f n).map Up.p = (n.map Up.p).map fun x => ((⟨x.1.key, x.1.row, adv x.1.t f⟩ : Uk), x.2) := fun n => by
    unfold advL
    rw [List.map_map, List.map_map]
    rfl
  rw [e, e, h]
theorem consL_p {l m : List Up} (h : l.map Up.p = m.map Up.p) : consL [l] = consL [m] ∧ consE [l] = consE [m] := by
  have hc : chkLs [l] = chkLs [m] := by unfold chkLs; rw [chkUs_p h]
  unfold consL consE
  rw [hc]
  simp only [List.flatten_cons, List.flatten_nil, List.append_nil]
  rw [h]
  exact ⟨rfl, rfl⟩
theorem mem_p {l m : List Up} (h : l.map Up.p = m.map Up.p) {x : Up} (hx : x ∈ l) : ∃ y ∈ m, y.p = x.p := by
  have : x.p ∈ m.map Up.p := by rw [← h]; exact List.mem_map_of_mem hx
  obtain ⟨y, hy, e⟩ := List.mem_map.1 this
  exact ⟨y, hy, e⟩
theorem len_p {l m : List Up} (h : l.map Up.p = m.map Up.p) : l.length = m.length := by have := congrArg List.length h; simpa using this
theorem take_p {l m : List Up} (h : l.map Up.p = m.map Up.p) (n : Nat) : (l.take n).map Up.p = (m.take n).map Up.p := by rw [List.map_take, List.map_take, h]
theorem drop_p {l m : List Up} (h : l.map Up.p = m.map Up.p) (n : Nat) : (l.drop n).map Up.p = (m.drop n).map Up.p := by rw [List.map_drop, List.map_drop, h]
theorem app_p {l m l' m' : List Up} (h : l.map Up.p = m.map Up.p) (h' : l'.map Up.p = m'.map Up.p) : (l ++ l').map Up.p = (m ++ m').map Up.p := by rw [List.map_append, List.map_append, h, h']
theorem advd_p {f : List Tm} {l m : List Up} (h : l.map Up.p = m.map Up.p) (hl : ∀ u ∈ l, adv u.t f = u.t) : ∀ u ∈ m, adv u.t f = u.t := fun u hu => by
  obtain ⟨x, hx, e⟩ := mem_p h.symm hu
  have := (up_p e).2.2.1
  rw [← this]
  exact hl x hx
/-- a merger as it lies, at work from where it is -/
def startM (a : List Up) (i : Nat) (b : List Up) (j : Nat) (o : List (Uk × Int)) : MS := ⟨a.take i, a.drop i, b.take j, b.drop j, o, 0, 0⟩
def FineM (f : List Tm) (a : List Up) (i : Nat) (b : List Up) (j : Nat) (o : List (Uk × Int)) : Prop := i ≤ a.length ∧ j ≤ b.length ∧ (startM a i b j o).Fine f a b
theorem finem_copy {f : List Tm} {a a' b b' : List Up} {i j : Nat} {o : List (Uk × Int)} (h : FineM f a i b j o) (ha : a.map Up.p = a'.map Up.p) (hb : b.map Up.p = b'.map Up.p) : FineM f a' i b' j o := by
  obtain ⟨h1, h2, h3⟩ := h
  refine ⟨by rw [← len_p ha]; exact h1, by rw [← len_p hb]; exact h2, ⟨fun x hx y hy => ?_, ?_, ?_⟩, List.take_append_drop _ _, List.take_append_drop _ _⟩
  · obtain ⟨x0, hx0, ex⟩ := mem_p (app_p (take_p ha i) (take_p hb j)).symm hx
    obtain ⟨y0, hy0, ey⟩ := mem_p (app_p (drop_p ha i) (drop_p hb j)).symm hy
    rw [← plc_p ex ey]
    exact h3.inv.sep x0 hx0 y0 hy0
  · have := advL_p f (app_p (take_p ha i) (take_p hb j))
    show resE Uk.cmp ((advL f (a'.take i ++ b'.take j)).map Up.p) = 0
    rw [← this]
    exact h3.inv.fit
  · have := advL_p f (app_p (take_p ha i) (take_p hb j))
    show o = nz Uk.cmp ((advL f (a'.take i ++ b'.take j)).map Up.p)
    rw [← this]
    exact h3.inv.out_
theorem finem_start (f : List Tm) (a b : List Up) : FineM f a 0 b 0 [] := ⟨Nat.zero_le _, Nat.zero_le _, fine_start f a b⟩
theorem finem_of {f : List Tm} {a b : List Up} {s : MS} (h : s.Fine f a b) : FineM f a s.ta.length b s.tb.length s.out := by
  obtain ⟨h1, h2, h3⟩ := h
  subst h2; subst h3
  refine ⟨by rw [List.length_append]; omega, by rw [List.length_append]; omega, ?_⟩
  have e : startM (s.ta ++ s.ra) s.ta.length (s.tb ++ s.rb) s.tb.length s.out = ⟨s.ta, s.ra, s.tb, s.rb, s.out, 0, 0⟩ := by
    unfold startM
    rw [List.take_left, List.drop_left, List.take_left, List.drop_left]
  rw [e]
  exact ⟨h1, rfl, rfl⟩
/-- such a merger is right -/
theorem finem_ok {f : List Tm} {a b o : List Up} {i j : Nat} {O : List (Uk × Int)} (h : FineM f a i b j O) (hf : FrontOk f) (ha : EvenP a) (hb : EvenP b) (ho : o.map Up.p = O) : MergOk f a b o i j := by
  obtain ⟨h1, h2, h3⟩ := h
  have := fine_ok h3 hf ha hb ho
  have e1 : (startM a i b j O).ta.length = i := by show (a.take i).length = i; rw [List.length_take]; omega
  have e2 : (startM a i b j O).tb.length = j := by show (b.take j).length = j; rw [List.length_take]; omega
  rwa [e1, e2] at this
theorem start_left (a : List Up) (i : Nat) (b : List Up) (j : Nat) (o : List (Uk × Int)) : (startM a i b j o).left = (a.length - i) + (b.length - j) := by
  unfold startM MS.left
  rw [List.length_drop, List.length_drop]
theorem work_E {f : List Tm} {fuel : Int} : ∀ (n : Nat) (s : MS), s.E = 0 → (workM f fuel n s).ta.length + (workM f fuel n s).tb.length = s.ta.length + s.tb.length + ((workM f fuel n s).cost - s.cost) ∧ s.cost ≤ (workM f fuel n s).cost
  | 0, s, _ => ⟨by show _ = _ + (s.cost - s.cost); rw [Nat.sub_self]; rfl, Nat.le_refl _⟩
  | n + 1, s, h => by
    unfold workM
    split
    · cases hu : nextM s.ra s.rb with
      | none => exact ⟨by show _ = _ + (s.cost - s.cost); rw [Nat.sub_self]; rfl, Nat.le_refl _⟩
      | some u =>
        dsimp only
        split
        · obtain ⟨h1, h2⟩ := work_E (f := f) (fuel := fuel) n (s.step f u) rfl
          have e1 : (s.step f u).ta.length = s.ta.length + (grp u s.ra).length := List.length_append
          have e2 : (s.step f u).tb.length = s.tb.length + (grp u s.rb).length := List.length_append
          have e3 : (s.step f u).cost = s.cost + ((grp u s.ra).length + (grp u s.rb).length) := rfl
          omega
        · exact ⟨by show _ = _ + (s.cost - s.cost); rw [Nat.sub_self]; rfl, Nat.le_refl _⟩
    · exact ⟨by show _ = _ + (s.cost - s.cost); rw [Nat.sub_self]; rfl, Nat.le_refl _⟩
end Go.Proofs.YteiacpfnfolkkaaGreat
namespace Go.Proofs.YteiacpfnfolkkaaGreat
open Go Go.RowKit

/-- a batch: its frontier, its updates -/
structure Bt where
  sA : Option Addr
  sc : Nat
  f : List Tm
  uA : Option Addr
  uc : Nat
  l : List Up
namespace Bt
def cells (b : Bt) : List Value := [.slice b.sA b.f.length b.sc, .slice b.uA b.l.length b.uc]
def val (b : Bt) : Value := .agg #[.slice b.sA b.f.length b.sc, .slice b.uA b.l.length b.uc]
end Bt
structure BtIn (w : World) (B : Nat) (b : Bt) : Prop where
  since : Times w B b.sA b.f
  ups : Ups w B b.uA b.l
theorem BtIn.past {w w' : World} {B B' : Nat} {b : Bt} (h : BtIn w B b) (hb : Below B' w w') (hB : B ≤ B') : BtIn w' B b := ⟨h.since.past hb hB, h.ups.past hb hB⟩
theorem BtIn.wide {w : World} {B B' : Nat} {b : Bt} (h : BtIn w B b) (hB : B ≤ B') : BtIn w B' b := ⟨h.since.wide hB, h.ups.wide hB⟩
theorem BtIn.keep {w w' : World} {b : Bt} (h : BtIn w w.heap.size b) (hb : Below w.heap.size w w') : BtIn w' w'.heap.size b := (h.past hb (Nat.le_refl _)).wide hb.size
/-- how great lists may be -/
def big : Nat := 1099511627776
theorem big_eq : big = 1099511627776 := rfl
structure TsOk (f : List Tm) (c : Nat) : Prop where
  n : f.length ≤ 1099511627776
  le : f.length ≤ c
  c_ : c ≤ maxLen
structure UsOk (l : List Up) : Prop where
  n : l.length ≤ 1099511627776
  ok : ∀ u ∈ l, UOk u
structure BtOk (b : Bt) : Prop where
  f : TsOk b.f b.sc
  l : UsOk b.l
def Bt.nil : Bt := ⟨none, 0, [], none, 0, []⟩
theorem bt_nil_in (w : World) (B : Nat) : BtIn w B Bt.nil := ⟨Times.nil_, ⟨Lies.nil_, fun u hu => by cases hu⟩⟩
theorem ts_nil : TsOk [] 0 := ⟨Nat.zero_le _, Nat.le_refl _, Nat.zero_le _⟩
theorem us_nil : UsOk [] := ⟨Nat.zero_le _, fun u hu => by cases hu⟩
theorem bt_nil_ok : BtOk Bt.nil := ⟨ts_nil, us_nil⟩
/-- it lies in no block below B -/
def LoT (B : Nat) (A : Option Addr) : Prop := ∀ b o, A = some (⟨b, o, none⟩ : Addr) → B ≤ b
structure BtLo (B : Nat) (b : Bt) : Prop where
  f : LoT B b.sA
  l : Lo B b.uA b.l
theorem lot_nil (B : Nat) : LoT B none := fun _ _ h => by cases h
theorem bt_nil_lo (B : Nat) : BtLo B Bt.nil := ⟨lot_nil B, lo_nil B⟩
theorem Lo.mono {B B' : Nat} {A : Option Addr} {l : List Up} (h : Lo B A l) (hB : B' ≤ B) : Lo B' A l := ⟨fun b o e => Nat.le_trans hB (h.1 b o e), fun u hu b o e => Nat.le_trans hB (h.2 u hu b o e)⟩
theorem LoT.mono {B B' : Nat} {A : Option Addr} (h : LoT B A) (hB : B' ≤ B) : LoT B' A := fun b o e => Nat.le_trans hB (h b o e)
theorem BtLo.mono {B B' : Nat} {b : Bt} (h : BtLo B b) (hB : B' ≤ B) : BtLo B' b := ⟨h.f.mono hB, h.l.mono hB⟩
/-- a merger: two lists, how far each is, its frontier, what came of it -/
structure Mg where
  aA : Option Addr
  ac : Nat
  a : List Up
  bA : Option Addr
  bc : Nat
  b : List Up
  i : Int
  j : Int
  sA : Option Addr
  sc : Nat
  f : List Tm
  oA : Option Addr
  oc : Nat
  o : List Up
namespace Mg
def cells (m : Mg) : List Value := [.slice m.aA m.a.length m.ac, .slice m.bA m.b.length m.bc, .int .i64 m.i, .int .i64 m.j, .slice m.sA m.f.length m.sc, .slice m.oA m.o.length m.oc]
def val (m : Mg) : Value := .agg #[.slice m.aA m.a.length m.ac, .slice m.bA m.b.length m.bc, .int .i64 m.i, .int .i64 m.j, .slice m.sA m.f.length m.sc, .slice m.oA m.o.length m.oc]
def nil : Mg := ⟨none, 0, [], none, 0, [], 0, 0, none, 0, [], none, 0, []⟩
end Mg
structure MgIn (w : World) (B : Nat) (m : Mg) : Prop where
  a : Ups w B m.aA m.a
  b : Ups w B m.bA m.b
  f : Times w B m.sA m.f
  o : Ups w B m.oA m.o
theorem MgIn.past {w w' : World} {B B' : Nat} {m : Mg} (h : MgIn w B m) (hb : Below B' w w') (hB : B ≤ B') : MgIn w' B m := ⟨h.a.past hb hB, h.b.past hb hB, h.f.past hb hB, h.o.past hb hB⟩
theorem MgIn.wide {w : World} {B B' : Nat} {m : Mg} (h : MgIn w B m) (hB : B ≤ B') : MgIn w B' m := ⟨h.a.wide hB, h.b.wide hB, h.f.wide hB, h.o.wide hB⟩
theorem MgIn.keep {w w' : World} {m : Mg} (h : MgIn w w.heap.size m) (hb : Below w.heap.size w w') : MgIn w' w'.heap.size m := (h.past hb (Nat.le_refl _)).wide hb.size
structure MgOk (m : Mg) : Prop where
  a : UsOk m.a
  b : UsOk m.b
  f : TsOk m.f m.sc
  o : UsOk m.o
  i : -9223372036854775808 ≤ m.i ∧ m.i ≤ 9223372036854775807
  j : -9223372036854775808 ≤ m.j ∧ m.j ≤ 9223372036854775807
structure MgLo (B : Nat) (m : Mg) : Prop where
  a : Lo B m.aA m.a
  b : Lo B m.bA m.b
  f : LoT B m.sA
  o : Lo B m.oA m.o
theorem MgLo.mono {B B' : Nat} {m : Mg} (h : MgLo B m) (hB : B' ≤ B) : MgLo B' m := ⟨h.a.mono hB, h.b.mono hB, h.f.mono hB, h.o.mono hB⟩
theorem mg_nil_in (w : World) (B : Nat) : MgIn w B Mg.nil := ⟨⟨Lies.nil_, fun u hu => by cases hu⟩, ⟨Lies.nil_, fun u hu => by cases hu⟩, Times.nil_, ⟨Lies.nil_, fun u hu => by cases hu⟩⟩
theorem mg_nil_ok : MgOk Mg.nil := ⟨us_nil, us_nil, ts_nil, us_nil, by decide, by decide⟩
theorem mg_nil_lo (B : Nat) : MgLo B Mg.nil := ⟨lo_nil B, lo_nil B, lot_nil B, lo_nil B⟩
/-- a batch's two cells in a block of their own -/
theorem btbox (w : World) (b : Bt) : ∃ W, W = w.alloc (.cells #[.slice b.sA b.f.length b.sc, .slice b.uA b.l.length b.uc] 26) ∧ Below w.heap.size w W ∧ W.heap.size = w.heap.size + 1 ∧ Own W w.heap.size 26 b.cells :=
  ⟨_, rfl, (Below.refl _ _).alloc (Nat.le_refl _) _, by simp, Own.made w 26 b.cells⟩
/-- a merger's six -/
theorem mgbox (w : World) (m : Mg) : ∃ W, W = w.alloc (.cells #[.slice m.aA m.a.length m.ac, .slice m.bA m.b.length m.bc, .int .i64 m.i, .int .i64 m.j, .slice m.sA m.f.length m.sc, .slice m.oA m.o.length m.oc] 43) ∧ Below w.heap.size w W ∧ W.heap.size = w.heap.size + 1 ∧ Own W w.heap.size 43 m.cells :=
  ⟨_, rfl, (Below.refl _ _).alloc (Nat.le_refl _) _, by simp, Own.made w 43 m.cells⟩
/-- what lies in other blocks than the one that turned -/
theorem times_other {w X : World} {P : Nat} {A : Option Addr} {l : List Tm} (h : Times w w.heap.size A l) (hA : LoT (P + 1) A) (hs : X.heap.size = w.heap.size) (hX : ∀ b, b ≠ P → X.heap[b]? = w.heap[b]?) : Times X X.heap.size A l := fun hp => by
  obtain ⟨b, o, e, hb, hc⟩ := h hp
  have hne : b ≠ P := by have := hA b o e; omega
  have hk : ∀ j, X.cell? ⟨b, j, none⟩ = w.cell? ⟨b, j, none⟩ := fun j => by unfold World.cell?; rw [hX b hne]
  refine ⟨b, o, e, by omega, fun i v hi => ?_⟩
  obtain ⟨a0, a1, a2⟩ := hc i v hi
  exact ⟨(hk _).trans a0, (hk _).trans a1, (hk _).trans a2⟩
theorem ups_other {w X : World} {P : Nat} {A : Option Addr} {l : List Up} (h : Ups w w.heap.size A l) (hlo : Lo (P + 1) A l) (hs : X.heap.size = w.heap.size) (hX : ∀ b, b ≠ P → X.heap[b]? = w.heap[b]?) : Ups X X.heap.size A l := by
  refine ⟨fun hp => ?_, fun u hu => ⟨vals_other (h.each_ u hu).key (fun b o e => hlo.2 u hu b o (.inl e)) hs hX, vals_other (h.each_ u hu).row (fun b o e => hlo.2 u hu b o (.inr e)) hs hX⟩⟩
  obtain ⟨b, o, e, hb, hc⟩ := h.head hp
  have hne : b ≠ P := by have := hlo.1 b o e; omega
  exact ⟨b, o, e, by omega, fun i x hi j u hj => by
    rw [← hc i x hi j u hj]
    unfold World.cell?
    rw [hX b hne]⟩
theorem set2_other (w : World) (P : Nat) (x y : Value) : ((w.setCell ⟨P, 0, none⟩ x).setCell ⟨P, 1, none⟩ y).heap.size = w.heap.size ∧ ∀ b, b ≠ P → ((w.setCell ⟨P, 0, none⟩ x).setCell ⟨P, 1, none⟩ y).heap[b]? = w.heap[b]? :=
  ⟨by simp [World.setCell], fun b hb => (Below.heap_setCell _ ⟨P, 1, none⟩ y b hb).trans (Below.heap_setCell w ⟨P, 0, none⟩ x b hb)⟩
end Go.Proofs.YteiacpfnfolkkaaGreat
namespace Go.Proofs.YteiacpfnfolkkaaGreat
open Go Go.RowKit

theorem flat_set {α : Type} {size : Nat} {cells : α → List Value} (hcl : ∀ x, (cells x).length = size) : ∀ (X : List α) (k r : Nat) (u : α) (v : Value), X[k]? = some u → r < size → (X.flatMap cells).set (k * size + r) v = (X.take k).flatMap cells ++ ((cells u).set r v ++ (X.drop (k + 1)).flatMap cells)
  | [], k, r, u, v, h, _ => by simp at h
  | x :: X, 0, r, u, v, h, hr => by
    obtain rfl : x = u := by simpa using h
    rw [List.flatMap_cons, Nat.zero_mul, Nat.zero_add, List.set_append_left _ _ (by rw [hcl]; exact hr)]
    simp
  | x :: X, k + 1, r, u, v, h, hr => by
    have ih := flat_set hcl X k r u v (by simpa using h) hr
    rw [List.flatMap_cons, List.set_append_right _ _ (by rw [hcl, Nat.add_mul]; omega), hcl, show (k + 1) * size + r - size = k * size + r by rw [Nat.add_mul]; omega, ih]
    simp
theorem flat_part {α : Type} {cells : α → List Value} {X : List α} {k : Nat} {u : α} (h : X[k]? = some u) : X.flatMap cells = (X.take k).flatMap cells ++ (cells u ++ (X.drop (k + 1)).flatMap cells) := by
  obtain ⟨hk, rfl⟩ := List.getElem?_eq_some_iff.1 h
  have e : X = X.take k ++ X[k] :: X.drop (k + 1) := by rw [← List.drop_eq_getElem_cons hk, List.take_append_drop]
  have e := congrArg (fun Y : List α => Y.flatMap cells) e
  simp only [List.flatMap_append, List.flatMap_cons] at e
  exact e
theorem flat_change {α : Type} {cells : α → List Value} {X : List α} {k : Nat} {u u' : α} (h : X[k]? = some u) : (X.set k u').flatMap cells = (X.take k).flatMap cells ++ (cells u' ++ (X.drop (k + 1)).flatMap cells) := by
  obtain ⟨hk, rfl⟩ := List.getElem?_eq_some_iff.1 h
  rw [List.set_eq_take_append_cons_drop, if_pos hk]
  simp
theorem flat_sets {α : Type} {size : Nat} {cells : α → List Value} (hcl : ∀ x, (cells x).length = size) {X : List α} {k : Nat} {u : α} (h : X[k]? = some u) (c : List Value) (hc : c.length = size) (r : Nat) (v : Value) (hr : r < size) :
    ((X.take k).flatMap cells ++ (c ++ (X.drop (k + 1)).flatMap cells)).set (k * size + r) v = (X.take k).flatMap cells ++ (c.set r v ++ (X.drop (k + 1)).flatMap cells) := by
  have hk := (List.getElem?_eq_some_iff.1 h).1
  have hl : ((X.take k).flatMap cells).length = k * size := by rw [flat_size hcl, List.length_take, Nat.min_eq_left (by omega)]
  rw [List.set_append_right _ _ (by rw [hl]; omega), hl, Nat.add_sub_cancel_left, List.set_append_left _ _ (by rw [hc]; exact hr)]
/-- an update's time -/
theorem set_time {X : List Up} {k : Nat} {u : Up} (h : X[k]? = some u) (t : Tm) :
    (((X.flatMap Up.cells).set (k * 6 + 2) (.int .u64 (t.e : Int))).set (k * 6 + 3) (.int .u64 (t.a : Int))).set (k * 6 + 4) (.int .u64 (t.b : Int)) = (X.set k { u with t := t }).flatMap Up.cells := by
  rw [flat_change h, flat_part h, flat_sets (size := 6) (fun _ => rfl) h _ rfl 2 _ (by decide), flat_sets (size := 6) (fun _ => rfl) h _ rfl 3 _ (by decide), flat_sets (size := 6) (fun _ => rfl) h _ rfl 4 _ (by decide)]
  rfl
/-- an update's rows -/
theorem set_rows {X : List Up} {k : Nat} {u : Up} (h : X[k]? = some u) (kA rA : Option Addr) (kc rc : Nat) :
    ((X.flatMap Up.cells).set (k * 6 + 0) (.slice kA u.key.length kc)).set (k * 6 + 1) (.slice rA u.row.length rc) = (X.set k { u with kA := kA, kc := kc, rA := rA, rc := rc }).flatMap Up.cells := by
  rw [flat_change h, flat_part h, flat_sets (size := 6) (fun _ => rfl) h _ rfl 0 _ (by decide), flat_sets (size := 6) (fun _ => rfl) h _ rfl 1 _ (by decide)]
  rfl
/-- the first ones changed, one more of them -/
theorem part_next {α : Type} {g : α → α} {l : List α} {k : Nat} {u : α} (h : l[k]? = some u) : ((l.take k).map g ++ l.drop k)[k]? = some u ∧ ((l.take k).map g ++ l.drop k).set k (g u) = (l.take (k + 1)).map g ++ l.drop (k + 1) := by
  obtain ⟨hk, rfl⟩ := List.getElem?_eq_some_iff.1 h
  have hl : ((l.take k).map g).length = k := by rw [List.length_map, List.length_take, Nat.min_eq_left (by omega)]
  constructor
  · rw [List.getElem?_append_right (by omega), hl, Nat.sub_self, List.getElem?_drop, Nat.add_zero, List.getElem?_eq_getElem hk]
  · rw [List.set_append_right _ _ (by omega), hl, Nat.sub_self, List.drop_eq_getElem_cons hk, List.set_cons_zero, List.take_add_one, List.getElem?_eq_getElem hk, List.map_append, List.append_assoc]
    rfl
end Go.Proofs.YteiacpfnfolkkaaGreat
namespace Go.Proofs.YteiacpfnfolkkaaGreat
open Go Go.RowKit

set_option maxRecDepth 100000 in
set_option maxHeartbeats 3200000 in
theorem badvanced_any (A : Option Addr) (c : Nat) (l : List Up) (A' : Option Addr) (c' : Nat) (f : List Tm) (w : World) (hl : Ups w w.heap.size A l) (hn : l.length ≤ 1099511627776) (hf : Times w w.heap.size A' f) (hfo : TsOk f c') :
    Calls Tryz.prog 53 #[.slice A l.length c, .slice A' f.length c'] w (Tells (∀ u ∈ l, adv u.t f = u.t) w) := by
  have HL := Lib.hid (And.intro hl (And.intro hf hfo))
  clear hl hf hfo
  go_enter Tryz.func53, Tryz.ntmps53
  go_wp2_with fail
  go_loopw [9] (fun v9 wr => ∃ j : Nat, v9 = .int .i64 (j : Int) ∧ j ≤ l.length ∧ Below w.heap.size w wr ∧ (∀ u ∈ l.take j, adv u.t f = u.t)) (fun v9 _ => l.length - (intOf v9).toNat)
  case atStart => exact ⟨0, rfl, by omega, Below.refl _ _, fun u hu => (by cases hu)⟩
  case round =>
    obtain ⟨j, rfl, hj, hbj, hall⟩ := hrel
    obtain ⟨wi, hwi⟩ : ∃ wi, wi = wr := ⟨_, rfl⟩
    subst hwi
    by_cases hjt : j < l.length
    · have hy : l[j]? = some l[j] := List.getElem?_eq_getElem hjt
      have hym := List.mem_of_getElem? hy
      generalize l[j] = u at *
      obtain ⟨b, o, rfl, hB, hys⟩ := lies_up HL.out.1.head (by omega)
      obtain ⟨e0, e1, e2, e3, e4, e5⟩ := ((hys j u hy).past_ hbj hB).six
      obtain ⟨V, hV, hvb, hvs, hvo⟩ := upbox wi u
      have hbV := hbj.trans (hvb.mono hbj.size)
      have hX := fun p : Past V => own6 (hvo.past p.h hvo.inside)
      have hfV := fun p : Past V => ((HL.out.2.1.past (hbV.trans (p.h.mono hbV.size)) (Nat.le_refl _)).wide (Nat.le_trans hbV.size p.h.size))
      have u1 := fun p : Past V => calls_past (advance_any u.t A' c' f p.w (hfV p) HL.out.2.2.le HL.out.2.2.c_)
      have hne := neq_time (adv u.t f) u.t
      obtain ⟨s, hs⟩ : ∃ s, adv u.t f = s := ⟨_, rfl⟩
      have hall2 : s = u.t → ∀ x ∈ l.take (j + 1), adv x.t f = x.t := fun h x hx => by
        rw [List.take_add_one, hy] at hx
        rcases List.mem_append.1 hx with hx | hx
        · exact hall x hx
        · obtain rfl : x = u := by simpa using hx
          exact hs.trans h
      have hbad : s ≠ u.t → ¬ ∀ x ∈ l, adv x.t f = x.t := fun h k => h (hs.symm.trans (k u hym))
      rw [hs] at u1 hne
      have hgd := fun (x1 y1 : Operand) (xs ys : Array Value) (w : World) => grd_time .neq x1 y1 xs ys w
      unfold Tm.val at u1 hne
      have HJ := Lib.hid (And.intro hbV (And.intro hall2 hbad))
      have q0 : (0 : Int) ≤ (j : Int) := by omega
      have q1 : (j : Int) < (l.length : Int) := by omega
      have q2 : decide ((j : Int) < (l.length : Int)) = true := decide_eq_true q1
      clear hy hym hbj hall hvb hvs hbV hvo hall2 hbad hs hys hfV
      by_cases hst : s = u.t
      · have hv : (!eqT s u.t) = false := by rw [eqT_iff.2 hst]; rfl
        simp only [hv] at hne
        have HS := Lib.hid hst
        clear hst hv
        go_upto_region 4 with fail
        rw [← hV]
        clear hV e0 e1 e2 e3 e4 e5
        refine wp_region_past V (by kernel_rfl) (by kernel_rfl) (Below.refl _ _) ?_
        repeat (first | go_big_quiet_step (fail) | quiet_step (fail))
        quiet_step ((go_at_call 91; exact u1 _))
        repeat (first | go_big_quiet_step (fail) | quiet_step (fail))
        refine wpQuiet_nil ?_
        intro wz hw'
        obtain ⟨⟨wy, hbz⟩, hw''⟩ := hw'
        dsimp only at hw''
        subst hw''
        have HZ := Lib.hid (HJ.out.1.trans (hbz.mono HJ.out.1.size))
        clear hbz
        go_wp2_with fail
        go_roundw
        case rel => exact ⟨j + 1, by go_num, by omega, HZ.out, HJ.out.2.1 HS.out⟩
        case measure => simp [intOf]; omega
      · have hv : (!eqT s u.t) = true := by rw [Bool.not_eq_true', ← Bool.not_eq_true, eqT_iff]; exact hst
        simp only [hv] at hne
        have HS := Lib.hid hst
        clear hst hv
        go_upto_region 4 with fail
        rw [← hV]
        clear hV e0 e1 e2 e3 e4 e5
        refine wp_region_past V (by kernel_rfl) (by kernel_rfl) (Below.refl _ _) ?_
        repeat (first | go_big_quiet_step (fail) | quiet_step (fail))
        quiet_step ((go_at_call 91; exact u1 _))
        repeat (first | go_big_quiet_step (fail) | quiet_step (fail))
        refine wpQuiet_nil ?_
        intro wz hw'
        obtain ⟨⟨wy, hbz⟩, hw''⟩ := hw'
        dsimp only at hw''
        subst hw''
        have HZ := Lib.hid (HJ.out.1.trans (hbz.mono HJ.out.1.size))
        clear hbz
        go_wp2_with fail
        go_ret
        exact ⟨false, rfl, by simp only [Bool.false_eq_true, false_iff]; exact HJ.out.2.2 HS.out, HZ.out⟩
    · have hj2 : j = l.length := by omega
      have q2 : decide ((j : Int) < (l.length : Int)) = false := decide_eq_false (by omega)
      rw [hj2, List.take_length] at hall
      have HJ := Lib.hid (And.intro hbj hall)
      clear hbj hall
      go_wp2_with fail
      go_ret
      exact ⟨true, rfl, ⟨fun _ => HJ.out.2, fun _ => rfl⟩, HJ.out.1⟩
/-- updates advanced, in a list of their own; their rows are those of the others -/
def Advd (f : List Tm) (l : List Up) (w : World) (x : Ending) (w' : World) : Prop :=
  ∃ A', x = .returned (.slice A' l.length l.length) ∧ Ups w' w'.heap.size A' (advL f l) ∧ LoT w.heap.size A' ∧ Below w.heap.size w w'
theorem advL_len (f : List Tm) (l : List Up) : (advL f l).length = l.length := List.length_map ..
theorem advL_ok {f : List Tm} {l : List Up} (h : ∀ u ∈ l, UOk u) : ∀ u ∈ advL f l, UOk u := fun u hu => by
  obtain ⟨x, hx, rfl⟩ := List.mem_map.1 hu
  exact ⟨(h x hx).kn, (h x hx).rn, (h x hx).ks, (h x hx).rs, (h x hx).dn⟩
theorem advL_in {w : World} {B : Nat} {f : List Tm} {l : List Up} (h : ∀ u ∈ l, UIn w B u) : ∀ u ∈ advL f l, UIn w B u := fun u hu => by
  obtain ⟨x, hx, rfl⟩ := List.mem_map.1 hu
  exact ⟨(h x hx).key, (h x hx).row⟩
set_option maxRecDepth 100000 in
set_option maxHeartbeats 3200000 in
theorem badvance_any (A : Option Addr) (c : Nat) (l : List Up) (A' : Option Addr) (c' : Nat) (f : List Tm) (w : World) (hl : Ups w w.heap.size A l) (hn : l.length ≤ 1099511627776) (hf : Times w w.heap.size A' f) (hfo : TsOk f c') :
    Calls Tryz.prog 43 #[.slice A l.length c, .slice A' f.length c'] w (Advd f l w) := by
  have HL := Lib.hid (And.intro hl (And.intro hf hfo))
  have HC := Lib.hid (listU_any A c l w hl.head (by omega))
  clear hl hf hfo
  go_enter Tryz.func43, Tryz.ntmps43
  go_wp2_with fail
  refine HC.out.mono ?_
  rintro _ w1 ⟨B1, rfl, hnil, hown, b1⟩
  by_cases h0 : l = []
  · subst h0
    obtain ⟨rfl, rfl⟩ := hnil rfl
    clear hnil hown b1 HC
    go_wp2_with fail
    go_loopw [12] (fun v12 wr => v12 = .int .i64 0 ∧ wr = w1) (fun v12 _ => 0)
    case atStart => exact ⟨rfl, rfl⟩
    case round =>
      obtain ⟨rfl, rfl⟩ := hrel
      go_wp2_with fail
      go_ret
      exact ⟨none, rfl, ⟨Lies.nil_, fun u hu => by cases hu⟩, lot_nil _, Below.refl _ _⟩
  · have hpos : 0 < l.length := List.length_pos_iff.2 h0
    obtain ⟨rfl, ho⟩ := hown hpos
    have hG1 : w.heap.size < w1.heap.size := ho.inside
    obtain ⟨G, hG⟩ : ∃ G, G = w.heap.size := ⟨_, rfl⟩
    rw [← hG] at ho
    have H1 := Lib.hid (And.intro b1 (And.intro ho (And.intro hG hG1)))
    rw [← hG]
    clear hnil hown b1 ho h0 HC hG hG1
    go_wp2_with fail
    go_loopw [12] (fun v12 wr => ∃ k : Nat, v12 = .int .i64 (k : Int) ∧ k ≤ l.length ∧ Below w.heap.size w wr ∧ Own wr G 66 (((l.take k).map (Up.advd f) ++ l.drop k).flatMap Up.cells)) (fun v12 _ => l.length - (intOf v12).toNat)
    case atStart => exact ⟨0, rfl, by omega, H1.out.1, by simpa using H1.out.2.1⟩
    case round =>
      obtain ⟨k, rfl, hk, hb, ho⟩ := hrel
      by_cases hlt : k < l.length
      · have hx : l[k]? = some l[k] := List.getElem?_eq_getElem hlt
        generalize l[k] = u at *
        obtain ⟨hx1, hx2⟩ := part_next (g := Up.advd f) hx
        generalize hX : (l.take k).map (Up.advd f) ++ l.drop k = X at *
        have hc := fun r v (hr : u.cells[r]? = some v) => (show wr.cell? ⟨G, k * 6 + r, none⟩ = some v by rw [ho.at_]; exact flat_of (size := 6) (cells := Up.cells) (fun _ => rfl) X k r u v hx1 hr)
        have c0 := hc 0 _ rfl
        have c1 := hc 1 _ rfl
        have c2 := hc 2 _ rfl
        have c3 := hc 3 _ rfl
        have c4 := hc 4 _ rfl
        have c5 := hc 5 _ rfl
        rw [Nat.add_zero] at c0
        obtain ⟨V, hV, hvb, hvs, hvo⟩ := upbox wr u
        have hbV := hb.trans (hvb.mono hb.size)
        have hoV := ho.past hvb ho.inside
        obtain ⟨d0, d1, d2, d3, d4, d5⟩ := own6 hvo
        have hfV : Times V V.heap.size A' f := (HL.out.2.1.past hbV (Nat.le_refl _)).wide hbV.size
        have u1 := Lib.hid (advance_any u.t A' c' f V hfV HL.out.2.2.le HL.out.2.2.c_)
        have hst := fun t : Tm => set_time hx1 t
        have HV := Lib.hid (And.intro hbV (And.intro hoV (And.intro hst (And.intro hx2 (And.intro hx1 hX)))))
        have q0 : (0 : Int) ≤ (k : Int) := by omega
        have q1 : (k : Int) < (l.length : Int) := by omega
        clear hx hx1 hx2 hX hc hb ho hvb hvs hvo hbV hoV hfV hst
        go_upto_region 5 with fail
        rw [← hV]
        clear hV c0 c1 c2 c3 c4 c5
        go_wp2_with fail
        refine u1.out.mono ?_
        rintro _ w2 ⟨rfl, b2⟩
        obtain ⟨s, hs⟩ : ∃ s, adv u.t f = s := ⟨_, rfl⟩
        rw [hs]
        have ho2 := HV.out.2.1.past b2 HV.out.2.1.inside
        have hc := fun r v (hr : u.cells[r]? = some v) => (show w2.cell? ⟨G, k * 6 + r, none⟩ = some v by rw [ho2.at_]; exact flat_of (size := 6) (cells := Up.cells) (fun _ => rfl) X k r u v HV.out.2.2.2.2.1 hr)
        have c2 := hc 2 _ rfl
        have c3 := hc 3 _ rfl
        have c4 := hc 4 _ rfl
        have f2 := ho2.open_ (k * 6 + 2)
        have f3 := ho2.open_ (k * 6 + 3)
        have f4 := ho2.open_ (k * 6 + 4)
        have H2 := Lib.hid (And.intro (HV.out.1.trans (b2.mono HV.out.1.size)) (And.intro ho2 hs))
        unfold Tm.val
        clear b2 ho2 hc hs d0 d1 d2 d3 d4 d5 u1
        go_wp2_with fail
        go_roundw
        case rel =>
          refine ⟨k + 1, by go_num, by omega, ((H2.out.1.setCell (p := ⟨G, k * 6 + 2, none⟩) (by have := H1.out.2.2.1; show w.heap.size ≤ G; omega) _).setCell (p := ⟨G, k * 6 + 3, none⟩) (by have := H1.out.2.2.1; show w.heap.size ≤ G; omega) _).setCell (p := ⟨G, k * 6 + 4, none⟩) (by have := H1.out.2.2.1; show w.heap.size ≤ G; omega) _, ?_⟩
          rw [← HV.out.2.2.2.1, show u.advd f = { u with t := s } from by unfold Up.advd; rw [H2.out.2.2], ← HV.out.2.2.1]
          exact ((H2.out.2.1.set_ (k * 6 + 2) _).set_ (k * 6 + 3) _).set_ (k * 6 + 4) _
        case measure => simp [intOf]; omega
      · have hk2 : k = l.length := by omega
        subst hk2
        rw [List.take_length, List.drop_length, List.append_nil] at ho
        have H2 := Lib.hid (And.intro hb ho)
        clear hb ho
        go_wp2_with fail
        go_ret
        refine ⟨_, rfl, ups_own H2.out.2 (advL_in fun u hu => (HL.out.1.each_ u hu).past H2.out.1 (Nat.le_refl _) |>.wide H2.out.1.size), fun b o e => ?_, H2.out.1⟩
        simp only [Option.some.injEq, Addr.mk.injEq, and_true] at e
        have := H1.out.2.2.1
        omega
end Go.Proofs.YteiacpfnfolkkaaGreat
namespace Go.Proofs.YteiacpfnfolkkaaGreat
open Go Go.RowKit

theorem take_sameE {l m : List Tm} {s t : Tm} {k : Nat} (h : l[k]? = some s) (h' : m[k]? = some t) (he : l.take k = m.take k) (hst : s = t) : l.take (k + 1) = m.take (k + 1) := by
  rw [List.take_add_one, List.take_add_one, h, h', he, hst]

set_option maxRecDepth 100000 in
set_option maxHeartbeats 1600000 in
theorem equalTs_any (A A' : Option Addr) (c c' : Nat) (l m : List Tm) (w : World) (hl : Times w w.heap.size A l) (hm : Times w w.heap.size A' m) (hn : l.length ≤ maxLen) (hn' : m.length ≤ maxLen) :
    Calls Tryz.prog 86 #[.slice A l.length c, .slice A' m.length c'] w fun e w' => e = .returned (.bool (decide (l = m))) ∧ Below w.heap.size w w' := by
  unfold maxLen at hn hn'
  by_cases hlen : l.length = m.length
  · have hlb : ((l.length : Int) != (m.length : Int)) = false := by simp [hlen]
    have hn2 : (l.length : Int) = (m.length : Int) → True := fun _ => trivial
    have Hl := Lib.hid (And.intro hlen (And.intro hl hm))
    clear hl hm hlen hn2
    go_enter Tryz.func86, Tryz.ntmps86
    go_wp2_with fail
    go_loopw [13] (fun i wr => ∃ k : Nat, i = .int .i64 (k : Int) ∧ k ≤ l.length ∧ Below w.heap.size w wr ∧ l.take k = m.take k)
      (fun i _ => l.length - (intOf i).toNat)
    case atStart => exact ⟨0, rfl, by omega, Below.refl _ _, rfl⟩
    case round =>
      obtain ⟨k, rfl, hk, hb, he⟩ := hrel
      by_cases hlt : k < l.length
      · obtain ⟨hlen, hl, hm⟩ := Hl.out
        have hltm : k < m.length := by omega
        have hx : l[k]? = some l[k] := List.getElem?_eq_getElem hlt
        have hy : m[k]? = some m[k] := List.getElem?_eq_getElem hltm
        obtain ⟨b, o, rfl, hB, hl⟩ := hl (by omega)
        obtain ⟨b', o', rfl, hB', hm⟩ := hm (by omega)
        obtain ⟨c0, c1, c2⟩ := (hl k _ hx).past hb hB
        obtain ⟨d0, d1, d2⟩ := (hm k _ hy).past hb hB'
        generalize l[k] = s at *
        generalize m[k] = t at *
        have hne := neq_time s t
        have hgd := fun (x1 y1 : Operand) (xs ys : Array Value) (w : World) => grd_time .neq x1 y1 xs ys w
        unfold Tm.val at hne
        have HH := Lib.hid (And.intro hb (And.intro he (And.intro hx hy)))
        have q0 : (0 : Int) ≤ (k : Int) := by omega
        have q1 : (k : Int) < (l.length : Int) := by omega
        have q2 : (k : Int) < (m.length : Int) := by omega
        clear hb he hx hy hl hm hlen
        by_cases hst : s = t
        · have hv : (!eqT s t) = false := by rw [eqT_iff.2 hst]; rfl
          simp only [hv] at hne
          have HS := Lib.hid hst
          clear hst hv
          go_wp2_with fail
          go_quiet (fail)
          go_wp2_with fail
          obtain ⟨hb, he, hx, hy⟩ := HH.out
          go_roundw
          case rel => exact ⟨k + 1, by go_num, by omega, below_draws hb _, take_sameE hx hy he HS.out⟩
          case measure => simp [intOf]; omega
        · have hv : (!eqT s t) = true := by rw [Bool.not_eq_true', ← Bool.not_eq_true, eqT_iff]; exact hst
          simp only [hv] at hne
          have HS := Lib.hid hst
          clear hst hv
          go_wp2_with fail
          go_quiet (fail)
          go_wp2_with fail
          go_ret
          obtain ⟨hb, he, hx, hy⟩ := HH.out
          refine ⟨ret_bool (Eq.symm ?_), below_draws hb _⟩
          simp only [decide_eq_false_iff_not]
          intro h
          rw [h, hy] at hx
          exact HS.out (by injection hx with hx; exact hx.symm)
      · have hk2 : k = l.length := by omega
        have HH := Lib.hid (And.intro hb (And.intro he hk2))
        clear hb he hk2
        go_wp2_with fail
        go_ret
        obtain ⟨hb, he, rfl⟩ := HH.out
        refine ⟨ret_bool (Eq.symm ?_), hb⟩
        simp only [decide_eq_true_eq]
        have := Hl.out.1
        rw [List.take_length, this, List.take_length] at he
        exact he
  · have hd : decide (l = m) = false := by simp; intro h; exact hlen (by rw [h])
    rw [hd]
    have hlb : ((l.length : Int) != (m.length : Int)) = true := by simp; omega
    clear hlen hd hl hm
    go_enter Tryz.func86, Tryz.ntmps86
    go_wp2_with fail
    go_ret
    exact ⟨rfl, Below.refl _ _⟩
end Go.Proofs.YteiacpfnfolkkaaGreat
namespace Go.Proofs.YteiacpfnfolkkaaGreat
open Go Go.RowKit Go.Sort Go.Lib

theorem flat_inv : ∀ (l : List Tm) (j : Nat) (u : Value), (l.flatMap Tm.cells)[j]? = some u → ∃ i t, l[i]? = some t ∧ ((j = i * 3 ∧ u = .int .u64 (t.e : Int)) ∨ (j = i * 3 + 1 ∧ u = .int .u64 (t.a : Int)) ∨ (j = i * 3 + 2 ∧ u = .int .u64 (t.b : Int)))
  | [], j, u, h => by simp at h
  | x :: l, 0, u, h => ⟨0, x, rfl, .inl ⟨rfl, by simpa [Tm.cells] using h.symm⟩⟩
  | x :: l, 1, u, h => ⟨0, x, rfl, .inr (.inl ⟨rfl, by simpa [Tm.cells] using h.symm⟩)⟩
  | x :: l, 2, u, h => ⟨0, x, rfl, .inr (.inr ⟨rfl, by simpa [Tm.cells] using h.symm⟩)⟩
  | x :: l, j + 3, u, h => by
    obtain ⟨i, t, hi, hc⟩ := flat_inv l j u (by simpa [Tm.cells] using h)
    refine ⟨i + 1, t, by simpa using hi, ?_⟩
    rcases hc with ⟨h1, h2⟩ | ⟨h1, h2⟩ | ⟨h1, h2⟩
    · exact .inl ⟨by omega, h2⟩
    · exact .inr (.inl ⟨by omega, h2⟩)
    · exact .inr (.inr ⟨by omega, h2⟩)
theorem flat_one (l : List Tm) : ∀ u ∈ l.flatMap Tm.cells, u.oneCell' = true := by
  intro u hu
  obtain ⟨t, _, ht⟩ := List.mem_flatMap.1 hu
  simp [Tm.cells] at ht
  rcases ht with rfl | rfl | rfl <;> rfl
theorem times_news {w : World} {B : Nat} {ad : Addr} {l : List Tm} (h : Times w B (some ad) l) : ∀ j u, (l.flatMap Tm.cells)[j]? = some u → w.cell? (ad.add j) = some u := by
  intro j u hu
  obtain ⟨i, t, hi, hc⟩ := flat_inv l j u hu
  have hpos : 0 < l.length := by have := (List.getElem?_eq_some_iff.1 hi).1; omega
  obtain ⟨b, o, e, _, ht⟩ := h hpos
  obtain rfl : ad = ⟨b, o, none⟩ := by injection e
  obtain ⟨a0, a1, a2⟩ := ht i t hi
  have ea : (⟨b, o, none⟩ : Addr).add j = ⟨b, o + j, none⟩ := by unfold Addr.add; split <;> simp_all
  rw [ea]
  rcases hc with ⟨rfl, rfl⟩ | ⟨rfl, rfl⟩ | ⟨rfl, rfl⟩
  · exact a0
  · rw [← Nat.add_assoc]; exact a1
  · rw [← Nat.add_assoc]; exact a2

set_option maxRecDepth 100000 in
set_option maxHeartbeats 800000 in
theorem clone_any (A : Option Addr) (c : Nat) (l : List Tm) (w : World) (hl : Times w w.heap.size A l) (hn : l.length * 24 ≤ 140737488351232) :
    Calls Tryz.prog 126 #[.slice A l.length c] w fun e w' => ∃ v, e = .returned v ∧ w'.ownsRow w.heap.size 58 3 v l.length (l.flatMap Tm.cells) ∧ Below w.heap.size w w' := by
  have q26 := fun (w : World) (a : Option Addr) (n c n' c' : Nat) => Lib.run_eql_slice_nil (P := Tryz.prog) w _ _ a n c n' c' Tryz.underlying22
  have hU := Tryz.underlying22
  obtain ⟨i0, hi, hz0, hz1, hz2⟩ := info_parts infoTm
  cases A with
  | none =>
    have h0 : l = [] := by
      cases l with
      | nil => rfl
      | cons x l => obtain ⟨_, _, e, _⟩ := hl (by simp); cases e
    subst h0
    clear hl
    go_enter Tryz.func126, Tryz.ntmps126
    go_wp2_with fail
    go_ret
    exact ⟨_, rfl, World.ownsRow_nil _ _ _ _, Below.refl _ _⟩
  | some ad =>
    have hnews := times_news hl
    have HN := Lib.hid hnews
    clear hnews hl
    go_enter Tryz.func126, Tryz.ntmps126
    go_wp2_with (at_builtin; refine wpList_append_own_at _ rfl _ _ 22 rfl w.heap.size 58 i0 _ 3 24 hU hi hz0 hz1 hz2 rfl (by decide) _ _ _ rfl (World.ownsRow_made w #[] 0 (Nat.le_refl _) (Nat.zero_le _) rfl) ad l.length c (l.flatMap Tm.cells) rfl ?c1 ?c2 ?c3 ?c4 ?c5 ?c6 ?_)
    case c1 => rw [flat_len]
    case c2 => exact fun j u hu => (World.cell?_alloc_some _ _ _ (by rw [HN.out j u hu]; rfl)).trans (HN.out j u hu)
    case c3 => exact flat_one l
    case c4 => unfold maxLen; omega
    case c5 => omega
    case c6 => simp
    intro v' w' ho' hg' _ _
    have hb : Below w.heap.size w w' := ((Below.refl _ _).alloc (Nat.le_refl _) _).grown hg' (by simp) (by simp [Value.ownBlock])
    go_wp2
    go_ret
    exact ⟨_, rfl, ho', hb⟩

theorem getElem!_some {l : List Tm} {i : Nat} {t : Tm} (h : l[i]? = some t) : l.toArray[i]! = t := by
  obtain ⟨hi, h⟩ := List.getElem?_eq_some_iff.1 h
  rw [getElem!_pos _ i (by simpa using hi)]
  simpa using h
/-- the row sorted in place; blocks below it are as they were -/
theorem sort_any (g c : Nat) (l : List Tm) (w : World) (base : Nat) (h : w.ownsRow base 58 3 (.slice (some ⟨g, 0, none⟩) l.length c) l.length (l.flatMap Tm.cells)) (hn : l.length * 24 ≤ 140737488351232) :
    Calls Tryz.prog 127 #[.slice (some ⟨g, 0, none⟩) l.length c, .func (.func 82) #[] #[]] w fun e w' => e = .returned (.tuple #[]) ∧ Times w' w'.heap.size (some ⟨g, 0, none⟩) (sortT l) ∧ Below g w w' := by
  have eg : ∀ args w, (callFunc 82 args).run Tryz.prog w = .ok (.enter 82 args) w := enters_of Tryz.func82 (by kernel_rfl) rfl
  have hg : g < w.heap.size := by
    rcases h.2 with ⟨h, _⟩ | ⟨g', _, _, e, _, hg, _⟩
    · simp at h
    · injection e with e _ _
      injection e with e
      injection e with e
      subst e
      exact (Array.getElem?_eq_some_iff.1 hg).1
  have hcell : ∀ i c, i < l.length → c < 3 → w.cell? ⟨g, 0 + (i * 3 + c), none⟩ = some (Tm.cells l.toArray[i]!)[c]! ∧ w.frozen? ⟨g, 0 + (i * 3 + c), none⟩ = false := by
    intro i c hi hc
    refine ⟨?_, h.frozenAt _⟩
    rw [Nat.zero_add, h.cellAt _ (by omega)]
    have hx : l[i]? = some l[i] := List.getElem?_eq_getElem hi
    obtain ⟨a0, a1, a2⟩ := flat_at l i _ hx
    rw [getElem!_some hx]
    rcases (by omega : c = 0 ∨ c = 1 ∨ c = 2) with rfl | rfl | rfl
    · simpa [Tm.cells] using a0
    · simpa [Tm.cells] using a1
    · simpa [Tm.cells] using a2
  have hH : HoldsK Tm.cells 3 w g 0 l.toArray := by
    intro j hj
    rw [size_flatK] at hj
    rw [get_flatK _ _ _ _ hj]
    have hs : l.toArray.size = l.length := by simp
    have := hcell (j / 3) (j % 3) (by omega) (by omega)
    rwa [Nat.div_add_mod' j 3] at this
  have hcon := AnyQ.slices_SortFunc_total Tryz.sortTm 3 Tryz.isAgg58 Tryz.sizeOf58 Tm.cells (fun _ => rfl) (fun x v hv => by simp [Tm.cells] at hv; rcases hv with rfl | rfl | rfl <;> rfl) Tm.cmp swoT 82 #[] g 0 c l.toArray w eg
    (fun m os dk _ x y => compare_grows x y _) hH hg (by simp; omega) totT
  change Calls Tryz.prog 127 _ _ _ at hcon
  simp only [List.size_toArray] at hcon
  refine hcon.mono ?_
  rintro e w' ⟨rfl, n, os, rfl⟩
  have hlen : (sortT l).toArray.size = l.toArray.size := by simp [sortT_len]
  have hH' := holdsK_sortWorldK_c Tm.cells 3 w g 0 l.toArray (sortT l).toArray n os hH hg hlen
  refine ⟨rfl, fun _ => ⟨g, 0, rfl, Nat.lt_of_lt_of_le hg (size_sortWorldK_c Tm.cells 3 w g 0 n _ os), fun i t hi => ?_⟩, ?_⟩
  · have hil := (List.getElem?_eq_some_iff.1 hi).1
    have hq := fun c hc => (HoldsK.cell hH' (i := i) (c := c) (by simpa using hil) hc).1
    rw [getElem!_some hi] at hq
    exact ⟨hq 0 (by omega), hq 1 (by omega), hq 2 (by omega)⟩
  · unfold sortWorldK putRowK putRow mapBlock
    refine ⟨rfl, rfl, rfl, by simp [grow, ahead], fun k hk => ?_⟩
    show (_ ++ os)[k]? = _
    rw [Array.getElem?_append_left (by simp [ahead]; omega), Array.getElem?_modify, if_neg (by omega)]
    rfl
end Go.Proofs.YteiacpfnfolkkaaGreat
namespace Go.Proofs.YteiacpfnfolkkaaGreat
open Go Go.RowKit Go.Sort Go.Lib

theorem sort_all (v : Value) (n : Nat) (l : List Tm) (w : World) (base : Nat) (hnl : n = l.length) (h : w.ownsRow base 58 3 v n (l.flatMap Tm.cells)) (hn : l.length * 24 ≤ 140737488351232) :
    ∃ A c, v = .slice A l.length c ∧ Calls Tryz.prog 127 #[.slice A l.length c, .func (.func 82) #[] #[]] w fun e w' => e = .returned (.tuple #[]) ∧ Times w' w'.heap.size A (sortT l) ∧ Below base w w' := by
  subst hnl
  cases l with
  | nil =>
    rcases h.2 with ⟨rfl, _⟩ | ⟨g, cap, cur, rfl, _⟩
    · refine ⟨_, _, rfl, (AnyF.slices_SortFunc_none Tryz.sortTm _ _ _ w).mono fun e w' ⟨he, hw⟩ => ?_⟩
      subst hw
      exact ⟨he, fun h => by simp [sortT] at h, Below.refl _ _⟩
    · refine ⟨_, _, rfl, (AnyF.slices_SortFunc_none Tryz.sortTm _ _ _ w).mono fun e w' ⟨he, hw⟩ => ?_⟩
      subst hw
      exact ⟨he, fun h => by simp [sortT] at h, Below.refl _ _⟩
  | cons x l =>
    rcases h.2 with ⟨_, h0⟩ | ⟨g, cap, cur, rfl, hb, _⟩
    · simp at h0
    · exact ⟨_, _, rfl, (sort_any g cap (x :: l) w base h hn).mono fun e w' ⟨he, ht, hbe⟩ => ⟨he, ht, hbe.mono hb⟩⟩

set_option maxRecDepth 100000 in
set_option maxHeartbeats 1600000 in
theorem front_any (A : Option Addr) (c : Nat) (l : List Tm) (w : World) (hl : Times w w.heap.size A l) (hn : l.length * 24 ≤ 140737488351232) :
    Calls Tryz.prog 87 #[.slice A l.length c] w fun e w' => ∃ v, e = .returned v ∧ w'.ownsRow w.heap.size 58 3 v (frontL l).length ((frontL l).flatMap Tm.cells) ∧ Below w.heap.size w w' := by
  obtain ⟨i0, hi, hz0, hz1, hz2⟩ := info_parts infoTm
  have hU := Tryz.underlying22
  have Hl := Lib.hid hl
  have hbey := fun A c l t W h hn => Lib.hid (beyond_any A c l t W h hn)
  unfold Tm.val maxLen at hbey
  clear hl
  go_enter Tryz.func87, Tryz.ntmps87
  go_wp2_with fail
  refine (clone_any A c l _ Hl.out hn).mono ?_
  rintro e w1 ⟨v, rfl, ho1, hb1⟩
  obtain ⟨A', c', rfl, hsort⟩ := sort_all v _ l w1 _ rfl ho1 hn
  have HS := Lib.hid hsort
  have H1 := Lib.hid hb1
  clear hsort hb1 ho1
  go_wp2_with fail
  refine HS.out.mono ?_
  rintro e w0 ⟨rfl, ht0, hb0⟩
  have hlen := sortT_len l
  have HT := Lib.hid (And.intro ht0 (And.intro (H1.out.trans hb0) hlen))
  clear ht0 hb0 hlen HS
  go_wp2_with fail
  go_loopw [3, 12] (fun v i wr => ∃ k : Nat, i = .int .i64 (k : Int) ∧ k ≤ l.length ∧ Below w0.heap.size w0 wr ∧ wr.ownsRow w0.heap.size 58 3 v (frontTo (sortT l) k).length ((frontTo (sortT l) k).flatMap Tm.cells))
    (fun _ i _ => l.length - (intOf i).toNat)
  case atStart => exact ⟨0, rfl, by omega, Below.refl _ _, World.ownsRow_nil _ _ _ _⟩
  case round =>
    obtain ⟨k, rfl, hk, fb, hown⟩ := hrel
    obtain ⟨ht0, hb0, hlen⟩ := HT.out
    have hfl := frontTo_len (sortT l) k (by omega)
    obtain ⟨Af, cf, rfl, hcf, hcm, htf⟩ := times_of_own rfl hown
    by_cases hlt : k < l.length
    · have hx : (sortT l)[k]? = some (sortT l)[k] := List.getElem?_eq_getElem (by omega)
      obtain ⟨b, o, rfl, hB, hl⟩ := ht0 (by omega)
      obtain ⟨c0, c1, c2⟩ := (hl k _ hx).past fb hB
      have hsn := frontTo_snoc hx
      generalize (sortT l)[k] = y at *
      generalize frontTo (sortT l) k = f at *
      have hB2 : b < wr.heap.size := by have := fb.size; omega
      have hcall := fun o => hbey Af cf f y (wr.alloc o) ((htf.past ((Below.refl _ _).alloc (Nat.le_refl _) _) (Nat.le_refl _)).wide (by simp)) (by omega)
      have HR := Lib.hid (And.intro fb (And.intro hown (And.intro hsn hx)))
      have hz := fb.size
      clear fb hown hsn hx hl htf ht0 hb0 hlen hbey
      by_cases hbe : beyond f y = true
      · simp only [hbe] at hcall
        have HE := Lib.hid hbe
        clear hbe
        go_wp2_with fail
        refine (hcall _).out.mono ?_
        rintro e w2 ⟨rfl, h2⟩
        obtain ⟨fb, hown, hsn, hx⟩ := HR.out
        have h3 : Below wr.heap.size wr w2 := below_then ((Below.refl _ _).alloc (Nat.le_refl _) _) (by simp) h2
        have H3 := Lib.hid (And.intro h3 (And.intro fb (And.intro hown hsn)))
        clear fb hown hsn hx h2 h3
        go_wp2_with fail
        obtain ⟨h3, fb, hown, hsn⟩ := H3.out
        go_roundw
        case rel => exact ⟨k + 1, by go_num, by omega, fb.trans (h3.mono fb.size), by rw [hsn]; unfold keepStep; rw [if_pos HE.out]; exact own_below hown h3⟩
        case measure => simp [intOf]; omega
      · have hbf : beyond f y = false := by simpa using hbe
        simp only [hbf] at hcall
        have HE := Lib.hid hbe
        clear hbe hbf
        go_wp2_with fail
        refine (hcall _).out.mono ?_
        rintro e w2 ⟨rfl, h2⟩
        obtain ⟨fb, hown, hsn, hx⟩ := HR.out
        have h3 : Below wr.heap.size wr w2 := below_then ((Below.refl _ _).alloc (Nat.le_refl _) _) (by simp) h2
        have hown2 := own_below hown h3
        have d0 : w2.cell? ⟨wr.heap.size, 0, none⟩ = some (.int .u64 (y.e : Int)) := (h2.cell (p := ⟨wr.heap.size, 0, none⟩) (by simp)).trans (by simp [go_sem])
        have d1 : w2.cell? ⟨wr.heap.size, 1, none⟩ = some (.int .u64 (y.a : Int)) := (h2.cell (p := ⟨wr.heap.size, 1, none⟩) (by simp)).trans (by simp [go_sem])
        have d2 : w2.cell? ⟨wr.heap.size, 2, none⟩ = some (.int .u64 (y.b : Int)) := (h2.cell (p := ⟨wr.heap.size, 2, none⟩) (by simp)).trans (by simp [go_sem])
        have hz2 := h3.size
        have H3 := Lib.hid (And.intro (fb.trans (h3.mono fb.size)) hsn)
        clear fb hown hsn hx h2 h3
        go_wp2_with (at_builtin; refine wpList_push _ rfl _ _ 22 rfl w0.heap.size 58 i0 _ 3 24 hU hi hz0 hz1 ‹i0.bytes = 24› rfl (by decide) _ _ _ rfl hown2 _ rfl rfl ?c1 ?c2 ?c3 ?c4 ?_)
        case c1 => exact ⟨rfl, rfl, rfl⟩
        case c2 => unfold maxLen; omega
        case c3 => omega
        case c4 => omega
        intro v' w' ho' hb' _ _
        obtain ⟨fb, hsn⟩ := H3.out
        have H4 := Lib.hid (And.intro (fb.trans hb') (And.intro hsn ho'))
        clear fb hsn ho' hb' hown2
        go_wp2
        obtain ⟨fb, hsn, ho'⟩ := H4.out
        go_roundw
        case rel =>
          refine ⟨k + 1, by go_num, by omega, fb, ?_⟩
          rw [hsn]
          unfold keepStep
          rw [if_neg HE.out, ← flatT_snoc, List.length_append]
          exact ho'
        case measure => simp [intOf]; omega
    · have hk2 : k = l.length := by omega
      have hfin : frontTo (sortT l) k = frontL l := by unfold frontL; rw [hk2, hlen]
      rw [hfin] at hown ⊢
      have HR := Lib.hid (And.intro fb (And.intro hown (And.intro hb0 hk2)))
      clear fb hown hb0 hk2 hfin hfl hlen ht0 htf
      go_wp2_with fail
      go_ret
      obtain ⟨fb, hown, hb0, hk2⟩ := HR.out
      refine ⟨_, rfl, ?_, hb0.trans (fb.mono hb0.size)⟩
      exact ⟨hown.1, hown.2.imp id fun ⟨g, cap, cur, e, hbg, r⟩ => ⟨g, cap, cur, e, Nat.le_trans hb0.size hbg, r⟩⟩
end Go.Proofs.YteiacpfnfolkkaaGreat
namespace Go.Proofs.YteiacpfnfolkkaaGreat
open Go Go.RowKit

set_option maxRecDepth 100000 in
set_option maxHeartbeats 1600000 in
theorem bfrontier_any (A : Option Addr) (c : Nat) (l : List Tm) (w : World) (hl : Times w w.heap.size A l) (hn : l.length * 24 ≤ 140737488351232) :
    Calls Tryz.prog 41 #[.slice A l.length c] w fun e w' => ∃ b : Bool, e = .returned (.bool b) ∧ (b = true ↔ chk l = 0 ∧ frontL l = l) ∧ Below w.heap.size w w' := by
  have HL := Lib.hid (And.intro hl hn)
  have HC := Lib.hid (check_any A c l w hl (by unfold maxLen; omega))
  have HF := Lib.hid (fun (W : World) (h : Times W W.heap.size A l) => front_any A c l W h hn)
  clear hl
  go_enter Tryz.func41, Tryz.ntmps41
  go_wp2_with fail
  refine HC.out.mono ?_
  rintro _ w1 ⟨rfl, b1⟩
  have H1 := Lib.hid b1
  clear b1 HC
  by_cases h0 : chk l = 0
  · have hv : (chk l == 0) = true := by rw [h0]; rfl
    have HF1 := Lib.hid (HF.out w1 ((HL.out.1.past H1.out (Nat.le_refl _)).wide H1.out.size))
    have H0 := Lib.hid h0
    clear h0 HF
    go_wp2_with fail
    refine HF1.out.mono ?_
    rintro _ w2 ⟨v, rfl, ho, b2⟩
    obtain ⟨A2, c2, rfl, hc2, hm2, ht2⟩ := times_of_own rfl ho
    have hb2 := belows H1.out b2
    have hl2 := ((HL.out.1.past hb2 (Nat.le_refl _)).wide hb2.size)
    have HQ := Lib.hid (equalTs_any A2 A c2 c (frontL l) l w2 ht2 hl2 (by unfold maxLen at *; omega) (by unfold maxLen; have := HL.out.2; omega))
    have H2 := Lib.hid hb2
    clear ho b2 hc2 hm2 ht2 hb2 hl2 HF1
    go_wp2_with fail
    refine HQ.out.mono ?_
    rintro _ w3 ⟨rfl, b3⟩
    have H3 := Lib.hid (belows H2.out b3)
    clear b3 HQ
    by_cases he : frontL l = l
    · have hv2 : decide (frontL l = l) = true := decide_eq_true he
      have HE := Lib.hid he
      clear he
      go_wp2_with fail
      go_ret
      exact ⟨_, rfl, ⟨fun _ => ⟨H0.out, HE.out⟩, fun _ => rfl⟩, H3.out⟩
    · have hv2 : decide (frontL l = l) = false := decide_eq_false he
      have HE := Lib.hid he
      clear he
      go_wp2_with fail
      go_ret
      exact ⟨_, rfl, ⟨fun h => (by cases h), fun h => absurd h.2 HE.out⟩, H3.out⟩
  · have hv : (chk l == 0) = false := by simpa using h0
    have H0 := Lib.hid h0
    clear h0 HF
    go_wp2_with fail
    go_ret
    exact ⟨_, rfl, ⟨fun h => (by cases h), fun h => absurd h.1 H0.out⟩, H1.out⟩
end Go.Proofs.YteiacpfnfolkkaaGreat
namespace Go.Proofs.YteiacpfnfolkkaaGreat
open Go Go.RowKit

/-- what is told, as a Bool that hangs on nothing else -/
theorem tells_is {P : Prop} {w : World} {x : Ending} {w' : World} {b : Bool} (hb : b = true ↔ P) (h : Tells P w x w') : x = .returned (.bool b) ∧ Below w.heap.size w w' := by
  obtain ⟨b', h1, h2, h3⟩ := h
  have : b' = b := by rw [Bool.eq_iff_iff, h2, hb]
  rw [h1, this]
  exact ⟨rfl, h3⟩
theorem bool_of (P : Prop) : ∃ b : Bool, b = true ↔ P := by
  by_cases h : P
  · exact ⟨true, by simp [h]⟩
  · exact ⟨false, by simp [h]⟩
/-- an error k, or none -/
def Codes (P : Prop) (k : Int) (w : World) (x : Ending) (w' : World) : Prop := ∃ n : Int, x = .returned (.int .i64 n) ∧ (P ∧ n = 0 ∨ ¬ P ∧ n = k) ∧ Below w.heap.size w w'
theorem codes_is {P : Prop} {k n : Int} {w : World} {x : Ending} {w' : World} (hn : P ∧ n = 0 ∨ ¬ P ∧ n = k) (h : Codes P k w x w') : x = .returned (.int .i64 n) ∧ Below w.heap.size w w' := by
  obtain ⟨n', h1, h2, h3⟩ := h
  have : n' = n := by
    rcases hn with ⟨a, b⟩ | ⟨a, b⟩
    · rcases h2 with ⟨c, d⟩ | ⟨c, d⟩
      · rw [d, b]
      · exact absurd a c
    · rcases h2 with ⟨c, d⟩ | ⟨c, d⟩
      · exact absurd c a
      · rw [d, b]
  rw [h1, this]
  exact ⟨rfl, h3⟩
theorem code_of (P : Prop) (k : Int) : ∃ n : Int, P ∧ n = 0 ∨ ¬ P ∧ n = k := by
  by_cases h : P
  · exact ⟨0, .inl ⟨h, rfl⟩⟩
  · exact ⟨k, .inr ⟨h, rfl⟩⟩
set_option maxRecDepth 100000 in
set_option maxHeartbeats 6400000 in
theorem bcheck_any (b : Bt) (w : World) (hb : BtIn w w.heap.size b) (hok : BtOk b) :
    Calls Tryz.prog 16 #[b.val] w (Codes (BatchOk b.f b.l) 4 w) := by
  obtain ⟨V, hV, hvb, hvs, hvo⟩ := btbox w b
  have hX := fun p : Past V => own2 (hvo.past p.h hvo.inside)
  have hin := hb.keep hvb
  have hfV := fun p : Past V => (hin.since.past p.h (Nat.le_refl _)).wide p.h.size
  have huV := fun p : Past V => (hin.ups.past p.h (Nat.le_refl _)).wide p.h.size
  obtain ⟨bf, hbf⟩ := bool_of (FrontOk b.f)
  obtain ⟨be, hbe⟩ := bool_of (EvenP b.l)
  obtain ⟨ba, hba⟩ := bool_of (∀ u ∈ b.l, adv u.t b.f = u.t)
  have n1 := hok.f.n
  have u1 := fun p : Past V => calls_past ((bfrontier_any b.sA b.sc b.f p.w (hfV p) (by omega)).mono fun x w' h => tells_is hbf h)
  have u2 := fun p : Past V => calls_past ((even_any b.uA b.uc b.l p.w (huV p) hok.l.ok hok.l.n).mono fun x w' h => tells_is hbe h)
  have u3 := fun p : Past V => calls_past ((badvanced_any b.uA b.uc b.l b.sA b.sc b.f p.w (huV p) hok.l.n (hfV p) hok.f).mono fun x w' h => tells_is hba h)
  have HB := Lib.hid hvb
  have hend : ∀ n : Int, (bf = true ∧ be = true ∧ ba = true ∧ n = 0 ∨ ¬ (bf = true ∧ be = true ∧ ba = true) ∧ n = 4) → BatchOk b.f b.l ∧ n = 0 ∨ ¬ BatchOk b.f b.l ∧ n = 4 := fun n h => by
    rcases h with ⟨a1, a2, a3, a4⟩ | ⟨a1, a2⟩
    · exact .inl ⟨⟨hbf.1 a1, hbe.1 a2, hba.1 a3⟩, a4⟩
    · exact .inr ⟨fun h => a1 ⟨hbf.2 h.1, hbe.2 h.2.1, hba.2 h.2.2⟩, a2⟩
  have HE := Lib.hid hend
  rw [show b.val = .agg #[.slice b.sA b.f.length b.sc, .slice b.uA b.l.length b.uc] from rfl]
  have HP := Lib.hid (show ∀ n x w', (x = Ending.returned (.int .i64 n) ∧ (BatchOk b.f b.l ∧ n = 0 ∨ ¬ BatchOk b.f b.l ∧ n = 4) ∧ Below w.heap.size w w') → Codes (BatchOk b.f b.l) 4 w x w' from fun n x w' h => ⟨n, h⟩)
  clear hb hok hvb hvs hvo hin hfV huV hbf hbe hba n1 hend
  go_enter Tryz.func16, Tryz.ntmps16
  go_upto_region 1 with fail
  rw [← hV]
  clear hV
  obtain ⟨a0, a1⟩ := hX ⟨V, Below.refl _ _⟩
  dsimp only at a0 a1
  go_wp2_with fail
  refine (u1 ⟨V, Below.refl _ _⟩).mono ?_
  rintro _ _ ⟨rfl, ⟨p1, rfl⟩⟩
  clear a0 a1 u1
  obtain ⟨a0, a1⟩ := hX p1
  cases bf with
  | false =>
    clear u2 u3 hX
    go_wp2_with fail
    go_ret
    exact HP.out 4 _ _ ⟨rfl, HE.out _ (.inr ⟨by simp, rfl⟩), HB.out.trans (p1.h.mono HB.out.size)⟩
  | true =>
  go_wp2_with fail
  refine (u2 p1).mono ?_
  rintro _ _ ⟨rfl, ⟨p2, rfl⟩⟩
  clear a0 a1 u2
  obtain ⟨a0, a1⟩ := hX p2
  cases be with
  | false =>
    clear u3 hX
    go_wp2_with fail
    go_ret
    exact HP.out 4 _ _ ⟨rfl, HE.out _ (.inr ⟨by simp, rfl⟩), HB.out.trans (p2.h.mono HB.out.size)⟩
  | true =>
  go_wp2_with fail
  refine (u3 p2).mono ?_
  rintro _ _ ⟨rfl, ⟨p3, rfl⟩⟩
  clear a0 a1 u3 hX
  cases ba with
  | false =>
    go_wp2_with fail
    go_ret
    exact HP.out 4 _ _ ⟨rfl, HE.out _ (.inr ⟨by simp, rfl⟩), HB.out.trans (p3.h.mono HB.out.size)⟩
  | true =>
    go_wp2_with fail
    go_ret
    exact HP.out 0 _ _ ⟨rfl, HE.out _ (.inl (by simp)), HB.out.trans (p3.h.mono HB.out.size)⟩
end Go.Proofs.YteiacpfnfolkkaaGreat
namespace Go.Proofs.YteiacpfnfolkkaaGreat
open Go Go.RowKit

theorem zero_sizeU (z : Array Value) (n : Nat) : (Builtin.zeroCells z n).size = n * z.size := by simp [Builtin.zeroCells]
theorem bytesUp : Tryz.t66.bytes = 80 := by kernel_rfl
set_option maxRecDepth 100000 in
set_option maxHeartbeats 1600000 in
theorem growU_any (n : Nat) (w : World) (hn : n * 80 ≤ 140737488355328) :
    Calls Tryz.prog 92 #[.slice none 0 0, .int .i64 (n : Int)] w fun e w' => ∃ v, e = .returned v ∧ w'.ownsRow w.heap.size 66 6 v 0 [] ∧ Below w.heap.size w w' := by
  by_cases h0 : n = 0
  · subst h0
    go_enter Tryz.func92, Tryz.ntmps92
    go_wp2_with fail
    go_ret
    exact ⟨_, rfl, World.ownsRow_nil _ _ _ _, Below.refl _ _⟩
  · have hp : 0 < n := by omega
    have t1 : decide (0 < (n : Int)) = true := by simp; omega
    have hge := grownCap_ge w n 0 66
    have hle := grownCap_le_maxLen w n 0 66 (by unfold maxLen; omega)
    have HG := Lib.hid (And.intro hge hle)
    have hb := bytesUp
    have hnx : Builtin.nextslicecap n 0 = n := by unfold Builtin.nextslicecap; simp; omega
    clear h0 hge hle
    go_enter Tryz.func92, Tryz.ntmps92
    go_wp2_with fail
    all_goals first
      | (exfalso; omega)
      | skip
    go_ret
    refine ⟨_, rfl, ?_, ((Below.refl w.heap.size w).alloc (Nat.le_refl _) _).drew⟩
    obtain ⟨hge, hle⟩ := HG.out
    exact World.ownsRow_made (base := w.heap.size) (e := 66) (size := 6) w _ (grownCap w n 0 66) (Nat.le_refl _) hle (by
      rw [Array.size_append, zero_sizeU, zero_sizeU]
      show n * 6 + (grownCap w n 0 66 - n) * 6 = _
      omega)
theorem flatR_one {L : List (Rw Up)} {k : Nat} {s : Rw Up} (h : L[k]? = some s) : (flatR (L.take (k + 1))).length = (flatR (L.take k)).length + s.l.length := by
  rw [flatR_take h, List.length_append]
set_option maxRecDepth 100000 in
set_option maxHeartbeats 3200000 in
theorem concatU_any (A : Option Addr) (c : Nat) (L : List (Rw Up)) (w : World) (hl : ULs w w.heap.size A L) (hn : (flatR L).length ≤ 1099511627776) (hn2 : L.length ≤ 1099511627776) :
    Calls Tryz.prog 44 #[.slice A L.length c] w fun e w' => ∃ v, e = .returned v ∧ w'.ownsRow w.heap.size 66 6 v (flatR L).length ((flatR L).flatMap Up.cells) ∧ Below w.heap.size w w' := by
  obtain ⟨i0, hi, hz0, hz1, hz2⟩ := info_parts infoUp
  have HI := Lib.hid (And.intro Tryz.underlying24 (And.intro hi (And.intro hz0 (And.intro hz1 hz2))))
  have Hl := Lib.hid hl
  have hgrow := fun W => Lib.hid (growU_any (flatR L).length W (by omega))
  clear hl hi hz0 hz1 hz2
  go_enter Tryz.func44, Tryz.ntmps44
  go_wp2_with fail
  go_loopw [3, 11] (fun s i wr => ∃ k : Nat, i = .int .i64 (k : Int) ∧ s = .int .i64 (((flatR (L.take k)).length : Nat) : Int) ∧ k ≤ L.length ∧ Below w.heap.size w wr)
    (fun _ i _ => L.length - (intOf i).toNat)
  case atStart => exact ⟨0, rfl, rfl, by omega, Below.refl _ _⟩
  case round =>
    obtain ⟨k, rfl, rfl, hk, hb⟩ := hrel
    by_cases hlt : k < L.length
    · have hx : L[k]? = some L[k] := List.getElem?_eq_getElem hlt
      obtain ⟨b, o, rfl, hB, hc, hv⟩ := Hl.out.at_ hx
      have c0 := (hb.cell (p := ⟨b, o + k, none⟩) hB).trans hc
      have hsn := flatR_one hx
      have hon := flatR_len hx (Nat.le_refl _)
      generalize L[k] = s at *
      generalize (flatR (L.take k)).length = m at *
      have HH := Lib.hid (And.intro hb hsn)
      have q1 : m + s.l.length ≤ 1099511627776 := by omega
      clear hb hx hsn hc hv hon
      go_wp2_with fail
      go_roundw
      case rel => exact ⟨k + 1, by go_num, by rw [HH.out.2]; go_num, by omega, HH.out.1⟩
      case measure => simp [intOf]; omega
    · have hk2 : k = L.length := by omega
      subst hk2
      rw [List.take_length]
      have HH := Lib.hid hb
      clear hb
      go_wp2_with fail
      refine (hgrow _).out.mono ?_
      rintro e w1 ⟨v1, rfl, o1, b1⟩
      have hw1 := HH.out.trans (b1.mono HH.out.size)
      have o1' := o1.mono HH.out.size
      have H1 := Lib.hid (And.intro o1' hw1)
      clear o1 o1' b1 hw1 hgrow
      go_wp2_with fail
      go_loopw [6, 27] (fun v i w2 => ∃ k : Nat, i = .int .i64 (k : Int) ∧ k ≤ L.length ∧ w2.ownsRow w.heap.size 66 6 v (flatR (L.take k)).length ((flatR (L.take k)).flatMap Up.cells) ∧ Below w.heap.size w w2)
        (fun _ i _ => L.length - (intOf i).toNat)
      case atStart => exact ⟨0, rfl, by omega, H1.out.1, H1.out.2⟩
      case round =>
        obtain ⟨k, rfl, hk', hown, hb2⟩ := hrel
        by_cases hlt' : k < L.length
        · have hx : L[k]? = some L[k] := List.getElem?_eq_getElem hlt'
          obtain ⟨b, o, rfl, hB, hc, hv⟩ := Hl.out.at_ hx
          have c0 := (hb2.cell (p := ⟨b, o + k, none⟩) hB).trans hc
          have hvv := hv.head.past hb2 (Nat.le_refl _)
          have hsn := flatR_one hx
          have hon := flatR_len hx (Nat.le_refl _)
          have hfs := flatR_take hx
          generalize L[k] = s at *
          have hM : (flatR (L.take k)).length + s.l.length ≤ 1099511627776 := by omega
          have HV := Lib.hid (And.intro hvv (And.intro hown (And.intro hb2 (And.intro hsn (And.intro hfs hM)))))
          clear hx hsn hfs hc hv hvv hown hb2 hon hM
          go_wp2_with (at_builtin; refine wpList_append_lies _ rfl (.tmp 31) (.tmp 32) 24 66 rfl i0 _ 80 HI.out.1 HI.out.2.1 HI.out.2.2.1 HI.out.2.2.2.1 HI.out.2.2.2.2 rfl (by decide) ucells_len ucells_one w.heap.size _ _ _ rfl HV.out.2.1 s.c rfl HV.out.1 ?m1 ?m2 ?m3 ?m4)
          case m1 => unfold maxLen; have := HV.out.2.2.2.2.2; omega
          case m2 => have := HV.out.2.2.2.2.2; omega
          case m3 => exact HV.out.2.2.1.size
          intro v' w' ho' hb'
          rw [← List.flatMap_append, ← HV.out.2.2.2.2.1, ← HV.out.2.2.2.1] at ho'
          have H2 := Lib.hid (And.intro ho' (HV.out.2.2.1.trans hb'))
          clear ho' hb'
          go_wp2_with fail
          go_roundw
          case rel => exact ⟨k + 1, by go_num, by omega, H2.out.1, H2.out.2⟩
          case measure => simp [intOf]; omega
        · have hk3 : k = L.length := by omega
          subst hk3
          rw [List.take_length] at hown
          have H2 := Lib.hid (And.intro hown hb2)
          clear hown hb2
          go_wp2_with fail
          go_ret
          exact ⟨_, rfl, H2.out.1, H2.out.2⟩
end Go.Proofs.YteiacpfnfolkkaaGreat
namespace Go.Proofs.YteiacpfnfolkkaaGreat
open Go Go.RowKit

/-- what Build makes: a batch, and an error -/
def bldE (f : List Tm) (l : List Up) : Int := if chk f = 0 ∧ frontL f = f then consE [advL f l] else 4
def Built (f : List Tm) (l : List Up) (w : World) (x : Ending) (w' : World) : Prop :=
  ∃ b : Bt, x = .returned (.tuple #[b.val, .int .i64 (bldE f l)]) ∧ (bldE f l = 0 → FrontOk f ∧ b.f = f ∧ b.l.map Up.p = consL [advL f l]) ∧ (bldE f l ≠ 0 → b = Bt.nil) ∧ BtIn w' w'.heap.size b ∧ BtOk b ∧ BtLo w.heap.size b ∧ Below w.heap.size w w'
theorem batch_nil2 (w : World) : (w.alloc (.cells #[.slice none 0 0, .slice none 0 0] 26)).heap.size = w.heap.size + 1 := by simp
set_option maxRecDepth 100000 in
set_option maxHeartbeats 6400000 in
theorem build_any (A : Option Addr) (c : Nat) (f : List Tm) (A' : Option Addr) (c' : Nat) (L : List (Rw Up)) (w : World) (hf : Times w w.heap.size A f) (hfo : TsOk f c) (hl : ULs w w.heap.size A' L) (hok : ∀ s ∈ L, ∀ u ∈ s.l, UOk u) (hn : (flatR L).length ≤ 1099511627776) (hn2 : L.length ≤ 1099511627776) :
    Calls Tryz.prog 12 #[.slice A f.length c, .slice A' L.length c'] w (Built f (flatR L) w) := by
  obtain ⟨W, hW, hWb, hWo⟩ : ∃ W, W = w.alloc (.cells #[.slice none 0 0, .slice none 0 0] 26) ∧ Below w.heap.size w W ∧ Own W w.heap.size 26 [.slice none 0 0, .slice none 0 0] :=
    ⟨_, rfl, (Below.refl _ _).alloc (Nat.le_refl _) _, Own.made w 26 [.slice none 0 0, .slice none 0 0]⟩
  have hfn : f.length ≤ 1099511627776 := hfo.n
  have y1 := Lib.hid (bfrontier_any A c f W ((hf.past hWb (Nat.le_refl _)).wide hWb.size) (by omega))
  have HL := Lib.hid (And.intro hf (And.intro hfo (And.intro hl hok)))
  have HW := Lib.hid (And.intro hWb hWo)
  obtain ⟨G, hG⟩ : ∃ G, G = w.heap.size := ⟨_, rfl⟩
  have HG := Lib.hid hG
  clear hf hfo hl hok hWb hWo
  go_enter Tryz.func12, Tryz.ntmps12
  go_upto_region 1 with fail
  rw [← hW, ← hG]
  clear hW hG
  go_wp2_with fail
  refine y1.out.mono ?_
  rintro _ w1 ⟨b, rfl, hb, b1⟩
  have h1 : Below w.heap.size w w1 := HW.out.1.trans (b1.mono HW.out.1.size)
  have ho1 := HW.out.2.past b1 HW.out.2.inside
  rw [← HG.out] at ho1
  cases b with
  | false =>
    have hne : ¬ (chk f = 0 ∧ frontL f = f) := fun h => by have := hb.2 h; cases this
    have he : bldE f (flatR L) = 4 := if_neg hne
    have f0 := ho1.open_ 0
    have f1 := ho1.open_ 1
    obtain ⟨d0, d1⟩ := own2 ho1
    have H1 := Lib.hid (And.intro h1 (And.intro ho1 he))
    clear h1 ho1 he hne hb b1 y1
    go_wp2_with fail
    have hX := ((H1.out.2.1.set_ 0 (.slice none 0 0)).set_ 1 (.slice none 0 0))
    obtain ⟨x0, x1⟩ := own2 hX
    have HB := Lib.hid ((H1.out.1.setCell (p := ⟨G, 0, none⟩) (Nat.le_of_eq HG.out.symm) (.slice none 0 0)).setCell (p := ⟨G, 1, none⟩) (Nat.le_of_eq HG.out.symm) (.slice none 0 0))
    have HE := Lib.hid H1.out.2.2
    clear hX f0 f1 d0 d1
    exact bodyPost_ret (v := .tuple #[.agg #[.slice none 0 0, .slice none 0 0], .int .i64 4]) (by simp [results, Tryz.results12, go_sem, x0, x1]) rfl ⟨Bt.nil, by rw [HE.out]; rfl, fun h => by rw [HE.out] at h; omega, fun _ => rfl, bt_nil_in _ _, bt_nil_ok, bt_nil_lo _, HB.out⟩
  | true =>
    have hfr : FrontOk f := hb.1 rfl
    have he : bldE f (flatR L) = consE [advL f (flatR L)] := if_pos hfr
    have y2 := Lib.hid (concatU_any A' c' L w1 ((HL.out.2.2.1.past h1 (Nat.le_refl _)).wide h1.size) hn hn2)
    have H1 := Lib.hid (And.intro h1 (And.intro ho1 (And.intro hfr he)))
    clear h1 ho1 hfr he hb b1 y1
    go_wp2_with fail
    refine y2.out.mono ?_
    rintro _ w2 ⟨v2, rfl, ho2, b2⟩
    obtain ⟨A2, c2, rfl, _, _, hl2⟩ := lies_of_own (size := 6) (cells := Up.cells) (l := flatR L) (by decide) ucells_len rfl ho2
    have h2 : Below w.heap.size w w2 := H1.out.1.trans (b2.mono H1.out.1.size)
    have hu2 : Ups w2 w2.heap.size A2 (flatR L) := ⟨hl2, fun u hu => by
      obtain ⟨s, hs, hu⟩ := List.mem_flatMap.1 hu
      exact ((HL.out.2.2.1.each_ s hs).each_ u hu).past h2 (Nat.le_refl _) |>.wide h2.size⟩
    have hok2 : ∀ u ∈ flatR L, UOk u := fun u hu => by
      obtain ⟨s, hs, hu⟩ := List.mem_flatMap.1 hu
      exact HL.out.2.2.2 s hs u hu
    have hf2 : Times w2 w2.heap.size A f := (HL.out.1.past h2 (Nat.le_refl _)).wide h2.size
    have y3 := Lib.hid (badvance_any A2 c2 (flatR L) A c f w2 hu2 hn hf2 HL.out.2.1)
    have H2 := Lib.hid (And.intro h2 (And.intro (H1.out.2.1.past b2 H1.out.2.1.inside) hok2))
    obtain ⟨l, hlE⟩ : ∃ l, flatR L = l := ⟨_, rfl⟩
    rw [hlE] at y3 H1 H2 hn ⊢
    have HLE := Lib.hid hlE
    clear ho2 hl2 b2 h2 hu2 hok2 hf2 y2 hlE
    go_wp2_with fail
    refine y3.out.mono ?_
    rintro _ w3 ⟨A3, rfl, hu3, _, b3⟩
    rw [← advL_len f l] at *
    obtain ⟨V, hV, hvb, hul⟩ := one_list w3 A3 (advL f l).length (advL f l) hu3
    have y4 := Lib.hid (consolidate_new (some ⟨w3.heap.size, 0, none⟩) 1 _ V hul (fun s hs u hu => by
      obtain rfl : s = ⟨A3, (advL f l).length, advL f l⟩ := by simpa using hs
      exact advL_ok H2.out.2.2 u hu) (by simpa [flatR] using hn) (by simp))
    have h3 : Below w.heap.size w w3 := H2.out.1.trans (b3.mono H2.out.1.size)
    have hV' : Below w.heap.size w V := h3.trans (hvb.mono h3.size)
    have ho3 := (H2.out.2.1.past b3 H2.out.2.1.inside)
    have H3 := Lib.hid (And.intro hV' (ho3.past hvb ho3.inside))
    clear b3 hu3 hvb hul h3 hV' ho3 y3
    go_wp2_with fail
    rw [← hV]
    clear hV
    refine y4.out.mono ?_
    rintro _ w4 ⟨A4, c4, e, rfl, hp, hu4, ho4, b4, hlo⟩
    simp only [List.map_cons, List.map_nil] at hp
    simp only [List.map_cons, List.map_nil]
    have h4 : Below w.heap.size w w4 := H3.out.1.trans (b4.mono H3.out.1.size)
    have hoo := H3.out.2.past b4 H3.out.2.inside
    have hlen : e.length ≤ 1099511627776 := by
      have := consL_len [advL f l]
      rw [← hp, List.length_map] at this
      simp only [List.flatten_cons, List.flatten_nil, List.append_nil] at this
      omega
    obtain ⟨E, hE⟩ : ∃ E, consE [advL f l] = E := ⟨_, rfl⟩
    rw [hE]
    have hbe : bldE f l = E := H1.out.2.2.2.trans hE
    by_cases h0 : E = 0
    case neg =>
      have t1 : (E != 0) = true := bne_iff_ne.2 h0
      have f0 := hoo.open_ 0
      have f1 := hoo.open_ 1
      obtain ⟨d0, d1⟩ := own2 hoo
      have H4 := Lib.hid (And.intro h4 (And.intro hoo (And.intro hbe h0)))
      clear h4 hoo hbe h0 hE hp hu4 ho4 b4 hlo hlen y4
      go_wp2_with fail
      have hX := ((H4.out.2.1.set_ 0 (.slice none 0 0)).set_ 1 (.slice none 0 0))
      obtain ⟨x0, x1⟩ := own2 hX
      have HB := Lib.hid ((H4.out.1.setCell (p := ⟨G, 0, none⟩) (Nat.le_of_eq HG.out.symm) (.slice none 0 0)).setCell (p := ⟨G, 1, none⟩) (Nat.le_of_eq HG.out.symm) (.slice none 0 0))
      have HE := Lib.hid H4.out.2.2
      clear hX f0 f1 d0 d1
      exact bodyPost_ret (v := .tuple #[.agg #[.slice none 0 0, .slice none 0 0], .int .i64 E]) (by simp [results, Tryz.results12, go_sem, x0, x1]) rfl (by rw [HLE.out]; exact ⟨Bt.nil, by rw [HE.out.1]; rfl, fun h => absurd (HE.out.1.symm.trans h) HE.out.2, fun _ => rfl, bt_nil_in _ _, bt_nil_ok, bt_nil_lo _, HB.out⟩)
    subst h0
    have y5 := Lib.hid (listT_times A c f w4 ((HL.out.1.past h4 (Nat.le_refl _)).wide h4.size) (by omega))
    have H4 := Lib.hid (And.intro h4 (And.intro hoo (And.intro hbe (And.intro hp (And.intro hu4 (And.intro ho4 (And.intro hlo hlen)))))))
    clear h4 hoo hbe hE hp hu4 ho4 b4 hlo hlen y4
    go_wp2_with fail
    refine y5.out.mono ?_
    rintro _ w5 ⟨A5, rfl, ht5, hl5, b5⟩
    have h5 : Below w.heap.size w w5 := H4.out.1.trans (b5.mono H4.out.1.size)
    have ho5 := H4.out.2.1.past b5 H4.out.2.1.inside
    have f0 := ho5.open_ 0
    have f1 := ho5.open_ 1
    obtain ⟨d0, d1⟩ := own2 ho5
    have H5 := Lib.hid (And.intro h5 (And.intro ho5 (And.intro ht5 (And.intro hl5 (H4.out.2.2.2.2.1.keep b5)))))
    clear h5 ho5 ht5 hl5 b5 y5
    go_wp2_with fail
    have hX := ((H5.out.2.1.set_ 0 (.slice A5 f.length f.length)).set_ 1 (.slice A4 e.length c4))
    obtain ⟨x0, x1⟩ := own2 hX
    have HB := Lib.hid ((H5.out.1.setCell (p := ⟨G, 0, none⟩) (Nat.le_of_eq HG.out.symm) (.slice A5 f.length f.length)).setCell (p := ⟨G, 1, none⟩) (Nat.le_of_eq HG.out.symm) (.slice A4 e.length c4))
    clear hX f0 f1 d0 d1
    exact bodyPost_ret (v := .tuple #[.agg #[.slice A5 f.length f.length, .slice A4 e.length c4], .int .i64 0]) (by simp [results, Tryz.results12, go_sem, x0, x1]) rfl (by
      rw [HLE.out]
      have hs1 := H4.out.1.size
      have hs3 := H3.out.2.inside
      obtain ⟨s1, s2⟩ := set2_other w5 G (.slice A5 f.length f.length) (.slice A4 e.length c4)
      exact ⟨⟨A5, f.length, f, A4, c4, e⟩, by rw [H4.out.2.2.1]; rfl, fun _ => ⟨H1.out.2.2.1, rfl, H4.out.2.2.2.1⟩, fun h => absurd H4.out.2.2.1 h,
        ⟨times_other H5.out.2.2.1 (fun b o h => by have h1 := (H5.out.2.2.2.1 b o h).1; have h2 := H4.out.2.1.inside; omega) s1 s2, ups_other H5.out.2.2.2.2 (H4.out.2.2.2.2.2.2.1.mono hs3) s1 s2⟩,
        ⟨⟨hfn, Nat.le_refl _, by show f.length ≤ maxLen; unfold maxLen; omega⟩, ⟨H4.out.2.2.2.2.2.2.2, H4.out.2.2.2.2.2.1⟩⟩, ⟨fun b o h => Nat.le_trans H4.out.1.size (H5.out.2.2.2.1 b o h).1, H4.out.2.2.2.2.2.2.1.mono H3.out.1.size⟩, HB.out⟩)
end Go.Proofs.YteiacpfnfolkkaaGreat
namespace Go.Proofs.YteiacpfnfolkkaaGreat
open Go Go.RowKit

theorem take_same {l m : List Tm} {s t : Tm} {k : Nat} (h : l[k]? = some s) (h' : m[k]? = some t) (he : l.take k = m.take k) (hst : s = t) : l.take (k + 1) = m.take (k + 1) := by
  rw [List.take_add_one, List.take_add_one, h, h', he, hst]

set_option maxRecDepth 100000 in
set_option maxHeartbeats 1600000 in
theorem same_any (A A' : Option Addr) (c c' : Nat) (l m : List Tm) (w : World) (hl : Times w w.heap.size A l) (hm : Times w w.heap.size A' m) (hn : l.length ≤ maxLen) (hn' : m.length ≤ maxLen) :
    Calls Tryz.prog 51 #[.slice A l.length c, .slice A' m.length c'] w fun e w' => e = .returned (.bool (decide (l = m))) ∧ Below w.heap.size w w' := by
  unfold maxLen at hn hn'
  by_cases hlen : l.length = m.length
  · have hlb : ((l.length : Int) != (m.length : Int)) = false := by simp [hlen]
    have hn2 : (l.length : Int) = (m.length : Int) → True := fun _ => trivial
    have Hl := Lib.hid (And.intro hlen (And.intro hl hm))
    clear hl hm hlen hn2
    go_enter Tryz.func51, Tryz.ntmps51
    go_wp2_with fail
    go_loopw [13] (fun i wr => ∃ k : Nat, i = .int .i64 (k : Int) ∧ k ≤ l.length ∧ Below w.heap.size w wr ∧ l.take k = m.take k)
      (fun i _ => l.length - (intOf i).toNat)
    case atStart => exact ⟨0, rfl, by omega, Below.refl _ _, rfl⟩
    case round =>
      obtain ⟨k, rfl, hk, hb, he⟩ := hrel
      by_cases hlt : k < l.length
      · obtain ⟨hlen, hl, hm⟩ := Hl.out
        have hltm : k < m.length := by omega
        have hx : l[k]? = some l[k] := List.getElem?_eq_getElem hlt
        have hy : m[k]? = some m[k] := List.getElem?_eq_getElem hltm
        obtain ⟨b, o, rfl, hB, hl⟩ := hl (by omega)
        obtain ⟨b', o', rfl, hB', hm⟩ := hm (by omega)
        obtain ⟨c0, c1, c2⟩ := (hl k _ hx).past hb hB
        obtain ⟨d0, d1, d2⟩ := (hm k _ hy).past hb hB'
        generalize l[k] = s at *
        generalize m[k] = t at *
        have hne := neq_time s t
        have hgd := fun (x1 y1 : Operand) (xs ys : Array Value) (w : World) => grd_time .neq x1 y1 xs ys w
        unfold Tm.val at hne
        have HH := Lib.hid (And.intro hb (And.intro he (And.intro hx hy)))
        have q0 : (0 : Int) ≤ (k : Int) := by omega
        have q1 : (k : Int) < (l.length : Int) := by omega
        have q2 : (k : Int) < (m.length : Int) := by omega
        clear hb he hx hy hl hm hlen
        by_cases hst : s = t
        · have hv : (!eqT s t) = false := by rw [eqT_iff.2 hst]; rfl
          simp only [hv] at hne
          have HS := Lib.hid hst
          clear hst hv
          go_wp2_with fail
          go_quiet (fail)
          go_wp2_with fail
          obtain ⟨hb, he, hx, hy⟩ := HH.out
          go_roundw
          case rel => exact ⟨k + 1, by go_num, by omega, below_draws hb _, take_same hx hy he HS.out⟩
          case measure => simp [intOf]; omega
        · have hv : (!eqT s t) = true := by rw [Bool.not_eq_true', ← Bool.not_eq_true, eqT_iff]; exact hst
          simp only [hv] at hne
          have HS := Lib.hid hst
          clear hst hv
          go_wp2_with fail
          go_quiet (fail)
          go_wp2_with fail
          go_ret
          obtain ⟨hb, he, hx, hy⟩ := HH.out
          refine ⟨ret_bool (Eq.symm ?_), below_draws hb _⟩
          simp only [decide_eq_false_iff_not]
          intro h
          rw [h, hy] at hx
          exact HS.out (by injection hx with hx; exact hx.symm)
      · have hk2 : k = l.length := by omega
        have HH := Lib.hid (And.intro hb (And.intro he hk2))
        clear hb he hk2
        go_wp2_with fail
        go_ret
        obtain ⟨hb, he, rfl⟩ := HH.out
        refine ⟨ret_bool (Eq.symm ?_), hb⟩
        simp only [decide_eq_true_eq]
        have := Hl.out.1
        rw [List.take_length, this, List.take_length] at he
        exact he
  · have hd : decide (l = m) = false := by simp; intro h; exact hlen (by rw [h])
    rw [hd]
    have hlb : ((l.length : Int) != (m.length : Int)) = true := by simp; omega
    clear hlen hd hl hm
    go_enter Tryz.func51, Tryz.ntmps51
    go_wp2_with fail
    go_ret
    exact ⟨rfl, Below.refl _ _⟩
end Go.Proofs.YteiacpfnfolkkaaGreat
namespace Go.Proofs.YteiacpfnfolkkaaGreat
open Go Go.RowKit

theorem two_bt (w : World) (a b : Bt) : ∃ V, V = (w.alloc (.cells #[.slice a.sA a.f.length a.sc, .slice a.uA a.l.length a.uc] 26)).alloc (.cells #[.slice b.sA b.f.length b.sc, .slice b.uA b.l.length b.uc] 26) ∧ Below w.heap.size w V ∧ Own V w.heap.size 26 a.cells ∧ Own V (w.heap.size + 1) 26 b.cells := by
  obtain ⟨V1, e1, b1, s1, o1⟩ := btbox w a
  obtain ⟨V2, e2, b2, s2, o2⟩ := btbox V1 b
  exact ⟨V2, by rw [e2, e1], b1.trans (b2.mono b1.size), o1.past b2 o1.inside, by rw [← s1]; exact o2⟩
set_option maxRecDepth 100000 in
set_option maxHeartbeats 6400000 in
theorem samebatch_any (a b : Bt) (w : World) (ha : BtIn w w.heap.size a) (oa : BtOk a) (hb : BtIn w w.heap.size b) (ob : BtOk b) :
    Calls Tryz.prog 15 #[a.val, b.val] w (Tells (a.f = b.f ∧ a.l.map Up.p = b.l.map Up.p) w) := by
  obtain ⟨V, hV, hvb, hv1, hv2⟩ := two_bt w a b
  have hX := fun p : Past V => own2 (hv1.past p.h hv1.inside)
  have hY := fun p : Past V => own2 (hv2.past p.h hv2.inside)
  have hia := ha.keep hvb
  have hib := hb.keep hvb
  obtain ⟨bu, hbu⟩ := bool_of (a.l.map Up.p = b.l.map Up.p)
  have m2 : a.f.length ≤ maxLen := Nat.le_trans oa.f.le oa.f.c_
  have m3 : b.f.length ≤ maxLen := Nat.le_trans ob.f.le ob.f.c_
  obtain ⟨bf, hbf⟩ : ∃ x : Bool, decide (a.f = b.f) = x := ⟨_, rfl⟩
  have u1 := fun p : Past V => calls_past (same_any a.sA b.sA a.sc b.sc a.f b.f p.w (hia.keep p.h).since (hib.keep p.h).since m2 m3)
  rw [hbf] at u1
  have u2 := fun p : Past V => calls_past ((sameU_any a.uA b.uA a.uc b.uc a.l b.l p.w (hia.keep p.h).ups (hib.keep p.h).ups oa.l.ok ob.l.ok oa.l.n ob.l.n).mono fun x w' h => tells_is hbu h)
  have HB := Lib.hid hvb
  have HE := Lib.hid (show (bf && bu) = true ↔ a.f = b.f ∧ a.l.map Up.p = b.l.map Up.p by rw [Bool.and_eq_true, hbu, ← hbf, decide_eq_true_iff])
  rw [show a.val = .agg #[.slice a.sA a.f.length a.sc, .slice a.uA a.l.length a.uc] from rfl, show b.val = .agg #[.slice b.sA b.f.length b.sc, .slice b.uA b.l.length b.uc] from rfl]
  have HP := Lib.hid (show ∀ c x w', (x = Ending.returned (.bool c) ∧ (c = true ↔ a.f = b.f ∧ a.l.map Up.p = b.l.map Up.p) ∧ Below w.heap.size w w') → Tells (a.f = b.f ∧ a.l.map Up.p = b.l.map Up.p) w x w' from fun n x w' h => ⟨n, h⟩)
  clear ha oa hb ob hvb hv1 hv2 hia hib hbu hbf m2 m3
  go_enter Tryz.func15, Tryz.ntmps15
  go_upto_region 1 with fail
  rw [← hV]
  clear hV
  obtain ⟨a0, a1⟩ := hX ⟨V, Below.refl _ _⟩
  obtain ⟨b0, b1⟩ := hY ⟨V, Below.refl _ _⟩
  dsimp only at a0 a1 b0 b1
  go_wp2_with fail
  refine (u1 ⟨V, Below.refl _ _⟩).mono ?_
  rintro _ _ ⟨rfl, ⟨p1, rfl⟩⟩
  clear a0 a1 b0 b1 u1
  obtain ⟨a0, a1⟩ := hX p1
  obtain ⟨b0, b1⟩ := hY p1
  cases bf with
  | false =>
    clear u2 hX hY
    go_wp2_with fail
    go_ret
    exact HP.out false _ _ ⟨rfl, HE.out, HB.out.trans (p1.h.mono HB.out.size)⟩
  | true =>
  go_wp2_with fail
  refine (u2 p1).mono ?_
  rintro _ _ ⟨rfl, ⟨p2, rfl⟩⟩
  clear a0 a1 b0 b1 u2 hX hY
  go_wp2_with fail
  go_ret
  exact HP.out bu _ _ ⟨rfl, HE.out, HB.out.trans (p2.h.mono HB.out.size)⟩
theorem samebatch_yes (a b : Bt) (w : World) (ha : BtIn w w.heap.size a) (oa : BtOk a) (hb : BtIn w w.heap.size b) (ob : BtOk b) (h : a.f = b.f ∧ a.l.map Up.p = b.l.map Up.p) :
    Calls Tryz.prog 15 #[a.val, b.val] w fun x w' => x = .returned (.bool true) ∧ Below w.heap.size w w' :=
  (samebatch_any a b w ha oa hb ob).mono fun x w' ⟨c, h1, h2, h3⟩ => ⟨by rw [h1, h2.2 h], h3⟩
theorem sameups_yes (A A' : Option Addr) (c c' : Nat) (l m : List Up) (w : World) (hl : Ups w w.heap.size A l) (hm : Ups w w.heap.size A' m) (ol : UsOk l) (om : UsOk m) (h : l.map Up.p = m.map Up.p) :
    Calls Tryz.prog 24 #[.slice A l.length c, .slice A' m.length c'] w fun x w' => x = .returned (.bool true) ∧ Below w.heap.size w w' :=
  (sameU_any A A' c c' l m w hl hm ol.ok om.ok ol.n om.n).mono fun x w' ⟨b, h1, h2, h3⟩ => ⟨by rw [h1, h2.2 h], h3⟩
/-- Build of one list -/
theorem build_one (A : Option Addr) (c : Nat) (f : List Tm) (A1 A' : Option Addr) (c' : Nat) (l : List Up) (w : World) (hf : Times w w.heap.size A f) (hfo : TsOk f c) (hl : ULs w w.heap.size A1 [⟨A', c', l⟩]) (ol : UsOk l) :
    Calls Tryz.prog 12 #[.slice A f.length c, .slice A1 1 1] w (Built f l w) := by
  have he : flatR [(⟨A', c', l⟩ : Rw Up)] = l := by simp [flatR]
  have := build_any A c f A1 1 [⟨A', c', l⟩] w hf hfo hl (fun s hs u hu => by
    obtain rfl : s = ⟨A', c', l⟩ := by simpa using hs
    exact ol.ok u hu) (by rw [he]; exact ol.n) (by simp)
  rw [he] at this
  exact this
theorem built_ok {f : List Tm} {l : List Up} (h : bldE f l = 0) : FrontOk f ∧ consE [advL f l] = 0 := by
  unfold bldE at h
  split at h
  · exact ⟨by assumption, h⟩
  · exact absurd h (by decide)
theorem bld_ok {f : List Tm} {l : List Up} (h : FrontOk f) (h' : consE [advL f l] = 0) : bldE f l = 0 := (if_pos h).trans h'
end Go.Proofs.YteiacpfnfolkkaaGreat
namespace Go.Proofs.YteiacpfnfolkkaaGreat
open Go Go.RowKit

/-- the cells of a list that lies, one by one -/
theorem lies_cells {α : Type} {size : Nat} {cells : α → List Value} {w : World} {B b o : Nat} {l : List α} (hpos : 0 < size) (hcl : ∀ x, (cells x).length = size) (h : Lies size cells w B (some ⟨b, o, none⟩) l) : ∀ j u, (l.flatMap cells)[j]? = some u → w.cell? ((⟨b, o, none⟩ : Addr).add j) = some u := fun j u hu => by
  obtain ⟨i, r, y, rfl, hi, hr⟩ := flat_back hpos hcl l j u hu
  obtain ⟨b', o', e, _, hc⟩ := h (by have := (List.getElem?_eq_some_iff.1 hi).1; omega)
  simp only [Option.some.injEq, Addr.mk.injEq, and_true] at e
  obtain ⟨rfl, rfl⟩ := e
  have ea : (⟨b, o, none⟩ : Addr).add (i * size + r) = ⟨b, o + i * size + r, none⟩ := by unfold Addr.add; split <;> simp_all <;> omega
  rw [ea]
  exact hc i y hi r u hr
/-- the second type is asked for its kind alone -/
theorem append_types {P : Program} (w : World) {t tx ty e e' : TypeId} {i : TypeInfo} (ht : P.underlying t = some (.slice e)) (htx : P.underlying tx = some (.slice e')) (hi : P.info? e = some i) (ad : Option Addr) (n cap : Nat) (x : Value) : (Builtin.append_ #[t, tx] ty #[.slice ad n cap, x]).run P w = (Builtin.append_ #[t, t] ty #[.slice ad n cap, x]).run P w := by
  simp [Builtin.append_, run_underlying ht, run_underlying htx, sizeOf, typeInfo, hi]
/-- 'append(v, s...)' where there is room -/
theorem wpList_append_room {P : Program} (w : World) {ops : Array Oper} {rest : List Oper} {o : Oper} {a : Act} {Q : Exit → Act → World → Prop} (hgd : o.guard = none) (s x : Operand) (t tx e e' : TypeId)
    (ho : o.op = .call { callee := .builtin .append, args := #[s, x], argTypes := #[t, tx] }) (i0 : TypeInfo) (size : Nat) (ht : P.underlying t = some (.slice e)) (htx : P.underlying tx = some (.slice e')) (hi : P.info? e = some i0) (hsz : i0.size = size)
    (base g n cap m c b off : Nat) (xs cs : List Value) (hown : w.ownsRow base e size (.slice (some ⟨g, 0, none⟩) n cap) n xs) (hs : a.eval s = .slice (some ⟨g, 0, none⟩) n cap) (hx : a.eval x = .slice (some ⟨b, off, none⟩) m c) (hcs : cs.length = m * size) (hroom : n + m ≤ cap)
    (hsrc : ∀ j v, cs[j]? = some v → w.cell? ((⟨b, off, none⟩ : Addr).add j) = some v) (h1 : ∀ v ∈ cs, v.oneCell' = true)
    (h : ∀ w', w'.ownsRow base e size (.slice (some ⟨g, 0, none⟩) (n + m) cap) (n + m) (xs ++ cs) → w.grownBy w' (some g) → wpList P ops Q rest (a.put o.dst (.slice (some ⟨g, 0, none⟩) (n + m) cap)) w') :
    wpList P ops Q (o :: rest) a w := by
  obtain ⟨X, hrun, hB, hG⟩ := run_append_own_spare (P := P) w base t o.type e i0 size ht hi hsz g n cap xs hown ⟨b, off, none⟩ m c cs hcs hsrc h1 hroom
  refine wpList_plain hgd fun K hK => ?_
  unfold Oper.wp execOp
  simp only [ho, resolve, invoke, builtin, Sem.run_bind, Sem.run_pure, Result.andThen_ok, List.map_toArray, List.map_cons, List.map_nil, hs, hx, append_types w ht htx hi, hrun]
  exact hK _ _ (h X hB hG)
/-- 'append(v, s...)', v without room and not the call's own: a new row -/
theorem wpList_append_over {P : Program} (w : World) {ops : Array Oper} {rest : List Oper} {o : Oper} {a : Act} {Q : Exit → Act → World → Prop} (hgd : o.guard = none) (s x : Operand) (t e : TypeId)
    (ho : o.op = .call { callee := .builtin .append, args := #[s, x], argTypes := #[t, t] }) (i0 : TypeInfo) (z : Value) (size bytes : Nat) (ht : P.underlying t = some (.slice e)) (hi : P.info? e = some i0) (hz0 : i0.zero = some z) (hsz : i0.size = size) (hby : i0.bytes = bytes) (hzs : z.cells.size = size) (hpos : 0 < size)
    (b off n cap b' off' m c : Nat) (xs cs : List Value) (hs : a.eval s = .slice (some ⟨b, off, none⟩) n cap) (hx : a.eval x = .slice (some ⟨b', off', none⟩) m c) (hxl : xs.length = n * size) (hxs : ∀ j v, xs[j]? = some v → w.cell? ((⟨b, off, none⟩ : Addr).add j) = some v)
    (hcs : cs.length = m * size) (hsrc : ∀ j v, cs[j]? = some v → w.cell? ((⟨b', off', none⟩ : Addr).add j) = some v) (hroom : cap < n + m) (h63 : n + m ≤ maxLen) (hbytes : (n + m) * bytes ≤ 140737488355328)
    (h : ∀ v' w', w'.ownsRow w.heap.size e size v' (n + m) (xs ++ cs) → Below w.heap.size w w' → wpList P ops Q rest (a.put o.dst v') w') :
    wpList P ops Q (o :: rest) a w := by
  obtain ⟨v', X, hrun, hB, hG⟩ := run_append_arg_grows (P := P) w t o.type e i0 z size bytes ht hi hz0 hsz hby hzs hpos ⟨b, off, none⟩ n cap xs hxl hxs ⟨b', off', none⟩ m c cs hcs hsrc hroom h63 hbytes
  refine wpList_plain hgd fun K hK => ?_
  unfold Oper.wp execOp
  simp only [ho, resolve, invoke, builtin, Sem.run_bind, Sem.run_pure, Result.andThen_ok, List.map_toArray, List.map_cons, List.map_nil, hs, hx, hrun]
  exact hK _ _ (h v' X hB ((Below.refl _ _).grown hG (Nat.le_refl _) (fun k h => by cases h)))
end Go.Proofs.YteiacpfnfolkkaaGreat
namespace Go.Proofs.YteiacpfnfolkkaaGreat
open Go Go.RowKit

/-- all that was there but blocks P and g is as it was -/
structure Fr (w w' : World) (P g : Nat) : Prop where
  os : w'.os = w.os
  tape : w'.tape = w.tape
  output : w'.output = w.output
  size : w.heap.size ≤ w'.heap.size
  block : ∀ k, k < w.heap.size → k ≠ P → k ≠ g → w'.heap[k]? = w.heap[k]?
theorem Fr.refl (w : World) (P g : Nat) : Fr w w P g := ⟨rfl, rfl, rfl, Nat.le_refl _, fun _ _ _ _ => rfl⟩
theorem Fr.trans {a b c : World} {P g : Nat} (h : Fr a b P g) (k : Fr b c P g) : Fr a c P g := ⟨k.os.trans h.os, k.tape.trans h.tape, k.output.trans h.output, Nat.le_trans h.size k.size, fun i h0 h1 h2 => (k.block i (Nat.lt_of_lt_of_le h0 h.size) h1 h2).trans (h.block i h0 h1 h2)⟩
theorem Fr.below {w w' : World} {P g B : Nat} (h : Fr w w' P g) (hP : B ≤ P) (hg : B ≤ g) (hB : B ≤ w.heap.size) : Below B w w' := ⟨h.os, h.tape, h.output, h.size, fun k hk => h.block k (by omega) (by omega) (by omega)⟩
/-- rows copied so far: in block g, told by the variable P -/
structure Rws (w : World) (P g n cap base : Nat) (xs : List Value) : Prop where
  var : Own w P 143 [.slice (some ⟨g, 0, none⟩) n cap]
  row : w.ownsRow base 70 3 (.slice (some ⟨g, 0, none⟩) n cap) n xs
  ne : g ≠ P
theorem ret_sub {A : Option Addr} {m n c : Nat} (h : m = n) : Ending.returned (.slice A m c) = .returned (.slice A n c) := by rw [h]
def Rowed (r : List Vl) (P g n cap base : Nat) (xs : List Value) (w : World) (x : Ending) (w' : World) : Prop :=
  ∃ A c, x = .returned (.slice A r.length c) ∧ (0 < r.length → A = some ⟨g, n * 3, none⟩) ∧ (r = [] → A = none) ∧ Rws w' P g (n + r.length) cap base (xs ++ r.flatMap Vl.cells) ∧ Fr w w' P g
set_option maxRecDepth 100000 in
set_option maxHeartbeats 3200000 in
theorem rowcopy_any (P g n cap base : Nat) (xs : List Value) (A : Option Addr) (c : Nat) (r : List Vl) (w : World) (hr : Rws w P g n cap base xs) (hl : Vals w w.heap.size A r) (hn : n + r.length ≤ cap) (hc : cap ≤ 140737488351232) :
    Calls Tryz.prog 105 #[.pointer (some ⟨P, 0, none⟩), .slice A r.length c] w (Rowed r P g n cap base xs w) := by
  obtain ⟨i0, hi, hz0, hz1, hz2⟩ := info_parts infoVl
  have HI := Lib.hid (And.intro Tryz.underlying143 (And.intro hi hz1))
  by_cases h0 : r = []
  · subst h0
    have HR := Lib.hid hr
    clear hr hl hn hi hz0 hz1 hz2
    go_enter Tryz.func105, Tryz.ntmps105
    go_wp2_with fail
    go_ret
    exact ⟨none, 0, rfl, fun h => absurd h (by simp), fun _ => rfl, by simpa using HR.out, Fr.refl _ _ _⟩
  have hp : 0 < r.length := List.length_pos_iff.2 h0
  obtain ⟨b, o, rfl, hB, hv⟩ := hl hp
  have t0 : ((r.length : Int) == 0) = false := beq_eq_false_iff_ne.2 (by omega)
  have c0 := hr.var.at_ 0
  have f0 := hr.var.open_ 0
  simp only [List.getElem?_cons_zero] at c0
  have hsrc := Lib.hid (lies_cells (size := 3) (cells := Vl.cells) (by decide) (fun _ => rfl) (lies_of_vals hl))
  have HR := Lib.hid (And.intro hr h0)
  clear hr hl hv hi hz0 hz1 hz2 h0
  go_enter Tryz.func105, Tryz.ntmps105
  go_wp2_with (at_builtin; refine wpList_append_room _ rfl (.tmp 16) (.tmp 17) 143 35 70 70 rfl i0 3 HI.out.1 Tryz.underlying35 HI.out.2.1 HI.out.2.2 base g n cap r.length c b o xs (r.flatMap Vl.cells) HR.out.1.row rfl rfl ?m1 hn hsrc.out ?m2 ?m3)
  case m1 => exact flat_size (size := 3) (cells := Vl.cells) (fun _ => rfl) r
  case m2 => exact fun v hv => (by obtain ⟨x, _, hx⟩ := List.mem_flatMap.1 hv; exact vl_one x v hx)
  intro w1 ho1 hg1
  have hvar : Own w1 P 143 [.slice (some ⟨g, 0, none⟩) n cap] := (hg1.block P HR.out.1.var.inside (by simp; exact fun h => HR.out.1.ne h.symm)).trans HR.out.1.var
  have c1 := hvar.at_ 0
  have f1 := hvar.open_ 0
  simp only [List.getElem?_cons_zero] at c1
  have hg1' := hg1
  have H1 := Lib.hid (And.intro ho1 (And.intro hg1 hvar))
  clear ho1 hg1 hvar c0 f0
  have hvs := H1.out.2.2.set_ 0 (.slice (some ⟨g, 0, none⟩) (n + r.length) cap)
  have hfrm : Fr w (w1.setCell ⟨P, 0, none⟩ (.slice (some ⟨g, 0, none⟩) (n + r.length) cap)) P g := ⟨hg1'.os, hg1'.tape, hg1'.output, by simpa [World.setCell] using hg1'.size, fun k h0 h1 h2 => (Below.heap_setCell w1 ⟨P, 0, none⟩ _ k h1).trans (hg1'.block k h0 (by simp; exact h2))⟩
  obtain ⟨V, hV⟩ : ∃ V, V = w1.setCell ⟨P, 0, none⟩ (.slice (some ⟨g, 0, none⟩) (n + r.length) cap) := ⟨_, rfl⟩
  rw [← hV] at hvs hfrm
  have c2 := hvs.at_ 0
  simp only [List.set_cons_zero, List.getElem?_cons_zero] at c2
  have hrow : V.ownsRow base 70 3 (.slice (some ⟨g, 0, none⟩) (n + r.length) cap) (n + r.length) (xs ++ r.flatMap Vl.cells) := by
    rw [hV]
    refine World.ownsRow.kept (row := some P) H1.out.1 ⟨rfl, rfl, rfl, by simp [World.setCell], fun k _ hne => Below.heap_setCell w1 ⟨P, 0, none⟩ _ k (by simpa using hne)⟩ (.inr ?_)
    exact fun h => HR.out.1.ne (by simpa [Value.ownBlock] using h)
  have HV := Lib.hid (And.intro hvs (And.intro hfrm hrow))
  have q0 : (0 : Int) ≤ (n : Int) := by omega
  have q1 : (n : Int) ≤ ((n + r.length : Nat) : Int) := by omega
  have q2 : ((n + r.length : Nat) : Int) ≤ (cap : Int) := by omega
  clear hvs hfrm hg1' hrow
  go_upto_region 5 with fail
  rw [← hV]
  clear hV c1 f1
  go_quiet (fail)
  go_wp2_with fail
  go_ret
  exact ⟨_, _, ret_sub (Nat.add_sub_cancel_left n r.length), fun _ => rfl, fun h => absurd h HR.out.2, ⟨HV.out.1, HV.out.2.2, HR.out.1.ne⟩, ⟨HV.out.2.1.os, HV.out.2.1.tape, HV.out.2.1.output, HV.out.2.1.size, HV.out.2.1.block⟩⟩
end Go.Proofs.YteiacpfnfolkkaaGreat
