/- Part 8 of the texts on which BatchMerges rests: facts and contracts. -/
import Derived.Test.YtllpfngmnccejaaGreatBatchMergesM7
import Derived.BigQuiet
import Derived.Outline
import Derived.WalkSpells
import Derived.WalkLawsBesides
import Derived.Deep.Onto
namespace Go.Proofs.YtllpfngmnccejaaGreat
open Go Go.RowKit

theorem up_p {x y : Up} (h : x.p = y.p) : x.key = y.key ∧ x.row = y.row ∧ x.t = y.t ∧ x.d = y.d := by
  have h : ((⟨x.key, x.row, x.t⟩ : Uk), x.d) = ((⟨y.key, y.row, y.t⟩ : Uk), y.d) := h
  simp only [Prod.mk.injEq, Uk.mk.injEq] at h
  exact ⟨h.1.1, h.1.2.1, h.1.2.2, h.2⟩
theorem plc_p {x x' y y' : Up} (hx : x.p = x'.p) (hy : y.p = y'.p) : plc x y = plc x' y' := by
  obtain ⟨a, b, _⟩ := up_p hx
  obtain ⟨c, d, _⟩ := up_p hy
  unfold plc
  rw [a, b, c, d]
theorem map_pk {l m : List Up} (h : l.map Up.p = m.map Up.p) : l.map Up.k = m.map Up.k := by
  have := congrArg (List.map Prod.fst) h
  rw [List.map_map, List.map_map] at this
  exact this
theorem chkUs_p : ∀ {l m : List Up}, l.map Up.p = m.map Up.p → chkUs l = chkUs m
  | [], [], _ => rfl
  | [], _ :: _, h => by simp at h
  | _ :: _, [], h => by simp at h
  | x :: l, y :: m, h => by
    rw [List.map_cons, List.map_cons, List.cons.injEq] at h
    have ih := chkUs_p h.2
    have hk : x.k = y.k := congrArg Prod.fst h.1
    unfold chkUs chkU
    rw [ih, hk]
theorem even_p {l m : List Up} (h : l.map Up.p = m.map Up.p) (hl : EvenP l) : EvenP m := by
  refine ⟨fun u hu => ?_, by rw [← h]; exact hl.2.1, by rw [← chkUs_p h]; exact hl.2.2⟩
  have : u.p ∈ l.map Up.p := by rw [h]; exact List.mem_map_of_mem hu
  obtain ⟨x, hx, e⟩ := List.mem_map.1 this
  rw [← (up_p e).2.2.2]
  exact hl.1 x hx
theorem advL_p {l m : List Up} (f : List Tm) (h : l.map Up.p = m.map Up.p) : (advL f l).map Up.p = (advL f m).map Up.p := by
  have e : ∀ n : List Up, (advL f n).map Up.p = (n.map Up.p).map fun x => ((⟨x.1.key, x.1.row, adv x.1.t f⟩ : Uk), x.2) := fun n => by
    unfold advL
    rw [List.map_map, List.map_map]
    rfl
  rw [e, e, h]
theorem consL_p {l m : List Up} (h : l.map Up.p = m.map Up.p) : consL [l] = consL [m] ∧ consE [l] = consE [m] := by
  have hc : chkLs [l] = chkLs [m] := by unfold chkLs; rw [chkUs_p h]
  unfold consL consE
  rw [hc]
  simp only [List.flatten_cons, List.flatten_nil, List.append_nil]
  rw [h]
  exact ⟨rfl, rfl⟩
theorem mem_p {l m : List Up} (h : l.map Up.p = m.map Up.p) {x : Up} (hx : x ∈ l) : ∃ y ∈ m, y.p = x.p := by
  have : x.p ∈ m.map Up.p := by rw [← h]; exact List.mem_map_of_mem hx
  obtain ⟨y, hy, e⟩ := List.mem_map.1 this
  exact ⟨y, hy, e⟩
theorem len_p {l m : List Up} (h : l.map Up.p = m.map Up.p) : l.length = m.length := by have := congrArg List.length h; simpa using this
theorem take_p {l m : List Up} (h : l.map Up.p = m.map Up.p) (n : Nat) : (l.take n).map Up.p = (m.take n).map Up.p := by rw [List.map_take, List.map_take, h]
theorem drop_p {l m : List Up} (h : l.map Up.p = m.map Up.p) (n : Nat) : (l.drop n).map Up.p = (m.drop n).map Up.p := by rw [List.map_drop, List.map_drop, h]
theorem app_p {l m l' m' : List Up} (h : l.map Up.p = m.map Up.p) (h' : l'.map Up.p = m'.map Up.p) : (l ++ l').map Up.p = (m ++ m').map Up.p := by rw [List.map_append, List.map_append, h, h']
theorem advd_p {f : List Tm} {l m : List Up} (h : l.map Up.p = m.map Up.p) (hl : ∀ u ∈ l, adv u.t f = u.t) : ∀ u ∈ m, adv u.t f = u.t := fun u hu => by
  obtain ⟨x, hx, e⟩ := mem_p h.symm hu
  have := (up_p e).2.2.1
  rw [← this]
  exact hl x hx
/-- a merger as it lies, at work from where it is -/
def startM (a : List Up) (i : Nat) (b : List Up) (j : Nat) (o : List (Uk × Int)) : MS := ⟨a.take i, a.drop i, b.take j, b.drop j, o, 0, 0⟩
def FineM (f : List Tm) (a : List Up) (i : Nat) (b : List Up) (j : Nat) (o : List (Uk × Int)) : Prop := i ≤ a.length ∧ j ≤ b.length ∧ (startM a i b j o).Fine f a b
theorem finem_copy {f : List Tm} {a a' b b' : List Up} {i j : Nat} {o : List (Uk × Int)} (h : FineM f a i b j o) (ha : a.map Up.p = a'.map Up.p) (hb : b.map Up.p = b'.map Up.p) : FineM f a' i b' j o := by
  obtain ⟨h1, h2, h3⟩ := h
  refine ⟨by rw [← len_p ha]; exact h1, by rw [← len_p hb]; exact h2, ⟨fun x hx y hy => ?_, ?_, ?_⟩, List.take_append_drop _ _, List.take_append_drop _ _⟩
  · obtain ⟨x0, hx0, ex⟩ := mem_p (app_p (take_p ha i) (take_p hb j)).symm hx
    obtain ⟨y0, hy0, ey⟩ := mem_p (app_p (drop_p ha i) (drop_p hb j)).symm hy
    rw [← plc_p ex ey]
    exact h3.inv.sep x0 hx0 y0 hy0
  · have := advL_p f (app_p (take_p ha i) (take_p hb j))
    show resE Uk.cmp ((advL f (a'.take i ++ b'.take j)).map Up.p) = 0
    rw [← this]
    exact h3.inv.fit
  · have := advL_p f (app_p (take_p ha i) (take_p hb j))
    show o = nz Uk.cmp ((advL f (a'.take i ++ b'.take j)).map Up.p)
    rw [← this]
    exact h3.inv.out_
theorem finem_start (f : List Tm) (a b : List Up) : FineM f a 0 b 0 [] := ⟨Nat.zero_le _, Nat.zero_le _, fine_start f a b⟩
theorem finem_of {f : List Tm} {a b : List Up} {s : MS} (h : s.Fine f a b) : FineM f a s.ta.length b s.tb.length s.out := by
  obtain ⟨h1, h2, h3⟩ := h
  subst h2; subst h3
  refine ⟨by rw [List.length_append]; omega, by rw [List.length_append]; omega, ?_⟩
  have e : startM (s.ta ++ s.ra) s.ta.length (s.tb ++ s.rb) s.tb.length s.out = ⟨s.ta, s.ra, s.tb, s.rb, s.out, 0, 0⟩ := by
    unfold startM
    rw [List.take_left, List.drop_left, List.take_left, List.drop_left]
  rw [e]
  exact ⟨h1, rfl, rfl⟩
/-- such a merger is right -/
theorem finem_ok {f : List Tm} {a b o : List Up} {i j : Nat} {O : List (Uk × Int)} (h : FineM f a i b j O) (hf : FrontOk f) (ha : EvenP a) (hb : EvenP b) (ho : o.map Up.p = O) : MergOk f a b o i j := by
  obtain ⟨h1, h2, h3⟩ := h
  have := fine_ok h3 hf ha hb ho
  have e1 : (startM a i b j O).ta.length = i := by show (a.take i).length = i; rw [List.length_take]; omega
  have e2 : (startM a i b j O).tb.length = j := by show (b.take j).length = j; rw [List.length_take]; omega
  rwa [e1, e2] at this
theorem start_left (a : List Up) (i : Nat) (b : List Up) (j : Nat) (o : List (Uk × Int)) : (startM a i b j o).left = (a.length - i) + (b.length - j) := by
  unfold startM MS.left
  rw [List.length_drop, List.length_drop]
theorem work_E {f : List Tm} {fuel : Int} : ∀ (n : Nat) (s : MS), s.E = 0 → (workM f fuel n s).ta.length + (workM f fuel n s).tb.length = s.ta.length + s.tb.length + ((workM f fuel n s).cost - s.cost) ∧ s.cost ≤ (workM f fuel n s).cost
  | 0, s, _ => ⟨by show _ = _ + (s.cost - s.cost); rw [Nat.sub_self]; rfl, Nat.le_refl _⟩
  | n + 1, s, h => by
    unfold workM
    split
    · cases hu : nextM s.ra s.rb with
      | none => exact ⟨by show _ = _ + (s.cost - s.cost); rw [Nat.sub_self]; rfl, Nat.le_refl _⟩
      | some u =>
        dsimp only
        split
        · obtain ⟨h1, h2⟩ := work_E (f := f) (fuel := fuel) n (s.step f u) rfl
          have e1 : (s.step f u).ta.length = s.ta.length + (grp u s.ra).length := List.length_append
          have e2 : (s.step f u).tb.length = s.tb.length + (grp u s.rb).length := List.length_append
          have e3 : (s.step f u).cost = s.cost + ((grp u s.ra).length + (grp u s.rb).length) := rfl
          omega
        · exact ⟨by show _ = _ + (s.cost - s.cost); rw [Nat.sub_self]; rfl, Nat.le_refl _⟩
    · exact ⟨by show _ = _ + (s.cost - s.cost); rw [Nat.sub_self]; rfl, Nat.le_refl _⟩
end Go.Proofs.YtllpfngmnccejaaGreat
namespace Go.Proofs.YtllpfngmnccejaaGreat
open Go Go.RowKit

/-- a batch: its frontier, its updates -/
structure Bt where
  sA : Option Addr
  sc : Nat
  f : List Tm
  uA : Option Addr
  uc : Nat
  l : List Up
namespace Bt
def cells (b : Bt) : List Value := [.slice b.sA b.f.length b.sc, .slice b.uA b.l.length b.uc]
def val (b : Bt) : Value := .agg #[.slice b.sA b.f.length b.sc, .slice b.uA b.l.length b.uc]
end Bt
structure BtIn (w : World) (B : Nat) (b : Bt) : Prop where
  since : Times w B b.sA b.f
  ups : Ups w B b.uA b.l
theorem BtIn.past {w w' : World} {B B' : Nat} {b : Bt} (h : BtIn w B b) (hb : Below B' w w') (hB : B ≤ B') : BtIn w' B b := ⟨h.since.past hb hB, h.ups.past hb hB⟩
theorem BtIn.wide {w : World} {B B' : Nat} {b : Bt} (h : BtIn w B b) (hB : B ≤ B') : BtIn w B' b := ⟨h.since.wide hB, h.ups.wide hB⟩
theorem BtIn.keep {w w' : World} {b : Bt} (h : BtIn w w.heap.size b) (hb : Below w.heap.size w w') : BtIn w' w'.heap.size b := (h.past hb (Nat.le_refl _)).wide hb.size
/-- how great lists may be -/
def big : Nat := 1099511627776
theorem big_eq : big = 1099511627776 := rfl
structure TsOk (f : List Tm) (c : Nat) : Prop where
  n : f.length ≤ 1099511627776
  le : f.length ≤ c
  c_ : c ≤ maxLen
structure UsOk (l : List Up) : Prop where
  n : l.length ≤ 1099511627776
  ok : ∀ u ∈ l, UOk u
structure BtOk (b : Bt) : Prop where
  f : TsOk b.f b.sc
  l : UsOk b.l
def Bt.nil : Bt := ⟨none, 0, [], none, 0, []⟩
theorem bt_nil_in (w : World) (B : Nat) : BtIn w B Bt.nil := ⟨Times.nil_, ⟨Lies.nil_, fun u hu => by cases hu⟩⟩
theorem ts_nil : TsOk [] 0 := ⟨Nat.zero_le _, Nat.le_refl _, Nat.zero_le _⟩
theorem us_nil : UsOk [] := ⟨Nat.zero_le _, fun u hu => by cases hu⟩
theorem bt_nil_ok : BtOk Bt.nil := ⟨ts_nil, us_nil⟩
/-- it lies in no block below B -/
def LoT (B : Nat) (A : Option Addr) : Prop := ∀ b o, A = some (⟨b, o, none⟩ : Addr) → B ≤ b
structure BtLo (B : Nat) (b : Bt) : Prop where
  f : LoT B b.sA
  l : Lo B b.uA b.l
theorem lot_nil (B : Nat) : LoT B none := fun _ _ h => by cases h
theorem bt_nil_lo (B : Nat) : BtLo B Bt.nil := ⟨lot_nil B, lo_nil B⟩
theorem Lo.mono {B B' : Nat} {A : Option Addr} {l : List Up} (h : Lo B A l) (hB : B' ≤ B) : Lo B' A l := ⟨fun b o e => Nat.le_trans hB (h.1 b o e), fun u hu b o e => Nat.le_trans hB (h.2 u hu b o e)⟩
theorem LoT.mono {B B' : Nat} {A : Option Addr} (h : LoT B A) (hB : B' ≤ B) : LoT B' A := fun b o e => Nat.le_trans hB (h b o e)
theorem BtLo.mono {B B' : Nat} {b : Bt} (h : BtLo B b) (hB : B' ≤ B) : BtLo B' b := ⟨h.f.mono hB, h.l.mono hB⟩
/-- a merger: two lists, how far each is, its frontier, what came of it -/
structure Mg where
  aA : Option Addr
  ac : Nat
  a : List Up
  bA : Option Addr
  bc : Nat
  b : List Up
  i : Int
  j : Int
  sA : Option Addr
  sc : Nat
  f : List Tm
  oA : Option Addr
  oc : Nat
  o : List Up
namespace Mg
def cells (m : Mg) : List Value := [.slice m.aA m.a.length m.ac, .slice m.bA m.b.length m.bc, .int .i64 m.i, .int .i64 m.j, .slice m.sA m.f.length m.sc, .slice m.oA m.o.length m.oc]
def val (m : Mg) : Value := .agg #[.slice m.aA m.a.length m.ac, .slice m.bA m.b.length m.bc, .int .i64 m.i, .int .i64 m.j, .slice m.sA m.f.length m.sc, .slice m.oA m.o.length m.oc]
def nil : Mg := ⟨none, 0, [], none, 0, [], 0, 0, none, 0, [], none, 0, []⟩
end Mg
structure MgIn (w : World) (B : Nat) (m : Mg) : Prop where
  a : Ups w B m.aA m.a
  b : Ups w B m.bA m.b
  f : Times w B m.sA m.f
  o : Ups w B m.oA m.o
theorem MgIn.past {w w' : World} {B B' : Nat} {m : Mg} (h : MgIn w B m) (hb : Below B' w w') (hB : B ≤ B') : MgIn w' B m := ⟨h.a.past hb hB, h.b.past hb hB, h.f.past hb hB, h.o.past hb hB⟩
theorem MgIn.wide {w : World} {B B' : Nat} {m : Mg} (h : MgIn w B m) (hB : B ≤ B') : MgIn w B' m := ⟨h.a.wide hB, h.b.wide hB, h.f.wide hB, h.o.wide hB⟩
theorem MgIn.keep {w w' : World} {m : Mg} (h : MgIn w w.heap.size m) (hb : Below w.heap.size w w') : MgIn w' w'.heap.size m := (h.past hb (Nat.le_refl _)).wide hb.size
structure MgOk (m : Mg) : Prop where
  a : UsOk m.a
  b : UsOk m.b
  f : TsOk m.f m.sc
  o : UsOk m.o
  i : -9223372036854775808 ≤ m.i ∧ m.i ≤ 9223372036854775807
  j : -9223372036854775808 ≤ m.j ∧ m.j ≤ 9223372036854775807
structure MgLo (B : Nat) (m : Mg) : Prop where
  a : Lo B m.aA m.a
  b : Lo B m.bA m.b
  f : LoT B m.sA
  o : Lo B m.oA m.o
theorem MgLo.mono {B B' : Nat} {m : Mg} (h : MgLo B m) (hB : B' ≤ B) : MgLo B' m := ⟨h.a.mono hB, h.b.mono hB, h.f.mono hB, h.o.mono hB⟩
theorem mg_nil_in (w : World) (B : Nat) : MgIn w B Mg.nil := ⟨⟨Lies.nil_, fun u hu => by cases hu⟩, ⟨Lies.nil_, fun u hu => by cases hu⟩, Times.nil_, ⟨Lies.nil_, fun u hu => by cases hu⟩⟩
theorem mg_nil_ok : MgOk Mg.nil := ⟨us_nil, us_nil, ts_nil, us_nil, by decide, by decide⟩
theorem mg_nil_lo (B : Nat) : MgLo B Mg.nil := ⟨lo_nil B, lo_nil B, lot_nil B, lo_nil B⟩
/-- a batch's two cells in a block of their own -/
theorem btbox (w : World) (b : Bt) : ∃ W, W = w.alloc (.cells #[.slice b.sA b.f.length b.sc, .slice b.uA b.l.length b.uc] 27) ∧ Below w.heap.size w W ∧ W.heap.size = w.heap.size + 1 ∧ Own W w.heap.size 27 b.cells :=
  ⟨_, rfl, (Below.refl _ _).alloc (Nat.le_refl _) _, by simp, Own.made w 27 b.cells⟩
/-- a merger's six -/
theorem mgbox (w : World) (m : Mg) : ∃ W, W = w.alloc (.cells #[.slice m.aA m.a.length m.ac, .slice m.bA m.b.length m.bc, .int .i64 m.i, .int .i64 m.j, .slice m.sA m.f.length m.sc, .slice m.oA m.o.length m.oc] 25) ∧ Below w.heap.size w W ∧ W.heap.size = w.heap.size + 1 ∧ Own W w.heap.size 25 m.cells :=
  ⟨_, rfl, (Below.refl _ _).alloc (Nat.le_refl _) _, by simp, Own.made w 25 m.cells⟩
/-- what lies in other blocks than the one that turned -/
theorem times_other {w X : World} {P : Nat} {A : Option Addr} {l : List Tm} (h : Times w w.heap.size A l) (hA : LoT (P + 1) A) (hs : X.heap.size = w.heap.size) (hX : ∀ b, b ≠ P → X.heap[b]? = w.heap[b]?) : Times X X.heap.size A l := fun hp => by
  obtain ⟨b, o, e, hb, hc⟩ := h hp
  have hne : b ≠ P := by have := hA b o e; omega
  have hk : ∀ j, X.cell? ⟨b, j, none⟩ = w.cell? ⟨b, j, none⟩ := fun j => by unfold World.cell?; rw [hX b hne]
  refine ⟨b, o, e, by omega, fun i v hi => ?_⟩
  obtain ⟨a0, a1, a2⟩ := hc i v hi
  exact ⟨(hk _).trans a0, (hk _).trans a1, (hk _).trans a2⟩
theorem ups_other {w X : World} {P : Nat} {A : Option Addr} {l : List Up} (h : Ups w w.heap.size A l) (hlo : Lo (P + 1) A l) (hs : X.heap.size = w.heap.size) (hX : ∀ b, b ≠ P → X.heap[b]? = w.heap[b]?) : Ups X X.heap.size A l := by
  refine ⟨fun hp => ?_, fun u hu => ⟨vals_other (h.each_ u hu).key (fun b o e => hlo.2 u hu b o (.inl e)) hs hX, vals_other (h.each_ u hu).row (fun b o e => hlo.2 u hu b o (.inr e)) hs hX⟩⟩
  obtain ⟨b, o, e, hb, hc⟩ := h.head hp
  have hne : b ≠ P := by have := hlo.1 b o e; omega
  exact ⟨b, o, e, by omega, fun i x hi j u hj => by
    rw [← hc i x hi j u hj]
    unfold World.cell?
    rw [hX b hne]⟩
theorem set2_other (w : World) (P : Nat) (x y : Value) : ((w.setCell ⟨P, 0, none⟩ x).setCell ⟨P, 1, none⟩ y).heap.size = w.heap.size ∧ ∀ b, b ≠ P → ((w.setCell ⟨P, 0, none⟩ x).setCell ⟨P, 1, none⟩ y).heap[b]? = w.heap[b]? :=
  ⟨by simp [World.setCell], fun b hb => (Below.heap_setCell _ ⟨P, 1, none⟩ y b hb).trans (Below.heap_setCell w ⟨P, 0, none⟩ x b hb)⟩
end Go.Proofs.YtllpfngmnccejaaGreat
namespace Go.Proofs.YtllpfngmnccejaaGreat
open Go Go.RowKit

/-- an update's time -/
theorem set_time {X : List Up} {k : Nat} {u : Up} (h : X[k]? = some u) (t : Tm) :
    (((X.flatMap Up.cells).set (k * 6 + 2) (.int .u64 (t.e : Int))).set (k * 6 + 3) (.int .u64 (t.a : Int))).set (k * 6 + 4) (.int .u64 (t.b : Int)) = (X.set k { u with t := t }).flatMap Up.cells := by
  rw [flat_change h, flat_part h, flat_sets (size := 6) (fun _ => rfl) h _ rfl 2 _ (by decide), flat_sets (size := 6) (fun _ => rfl) h _ rfl 3 _ (by decide), flat_sets (size := 6) (fun _ => rfl) h _ rfl 4 _ (by decide)]
  rfl
/-- an update's rows -/
theorem set_rows {X : List Up} {k : Nat} {u : Up} (h : X[k]? = some u) (kA rA : Option Addr) (kc rc : Nat) :
    ((X.flatMap Up.cells).set (k * 6 + 0) (.slice kA u.key.length kc)).set (k * 6 + 1) (.slice rA u.row.length rc) = (X.set k { u with kA := kA, kc := kc, rA := rA, rc := rc }).flatMap Up.cells := by
  rw [flat_change h, flat_part h, flat_sets (size := 6) (fun _ => rfl) h _ rfl 0 _ (by decide), flat_sets (size := 6) (fun _ => rfl) h _ rfl 1 _ (by decide)]
  rfl
/-- the first ones changed, one more of them -/
theorem part_next {α : Type} {g : α → α} {l : List α} {k : Nat} {u : α} (h : l[k]? = some u) : ((l.take k).map g ++ l.drop k)[k]? = some u ∧ ((l.take k).map g ++ l.drop k).set k (g u) = (l.take (k + 1)).map g ++ l.drop (k + 1) := by
  obtain ⟨hk, rfl⟩ := List.getElem?_eq_some_iff.1 h
  have hl : ((l.take k).map g).length = k := by rw [List.length_map, List.length_take, Nat.min_eq_left (by omega)]
  constructor
  · rw [List.getElem?_append_right (by omega), hl, Nat.sub_self, List.getElem?_drop, Nat.add_zero, List.getElem?_eq_getElem hk]
  · rw [List.set_append_right _ _ (by omega), hl, Nat.sub_self, List.drop_eq_getElem_cons hk, List.set_cons_zero, List.take_add_one, List.getElem?_eq_getElem hk, List.map_append, List.append_assoc]
    rfl
end Go.Proofs.YtllpfngmnccejaaGreat
namespace Go.Proofs.YtllpfngmnccejaaGreat
open Go Go.RowKit

set_option maxRecDepth 100000 in
set_option maxHeartbeats 3200000 in
theorem badvanced_any (A : Option Addr) (c : Nat) (l : List Up) (A' : Option Addr) (c' : Nat) (f : List Tm) (w : World) (hl : Ups w w.heap.size A l) (hn : l.length ≤ 1099511627776) (hf : Times w w.heap.size A' f) (hfo : TsOk f c') :
    Calls Tryz.prog 47 #[.slice A l.length c, .slice A' f.length c'] w (Tells (∀ u ∈ l, adv u.t f = u.t) w) := by
  have HL := Lib.hid (And.intro hl (And.intro hf hfo))
  clear hl hf hfo
  go_enter Tryz.func47, Tryz.ntmps47
  go_wp2_with fail
  go_loopw [9] (fun v9 wr => ∃ j : Nat, v9 = .int .i64 (j : Int) ∧ j ≤ l.length ∧ Below w.heap.size w wr ∧ (∀ u ∈ l.take j, adv u.t f = u.t)) (fun v9 _ => l.length - (intOf v9).toNat)
  case atStart => exact ⟨0, rfl, by omega, Below.refl _ _, fun u hu => (by cases hu)⟩
  case round =>
    obtain ⟨j, rfl, hj, hbj, hall⟩ := hrel
    obtain ⟨wi, hwi⟩ : ∃ wi, wi = wr := ⟨_, rfl⟩
    subst hwi
    by_cases hjt : j < l.length
    · have hy : l[j]? = some l[j] := List.getElem?_eq_getElem hjt
      have hym := List.mem_of_getElem? hy
      generalize l[j] = u at *
      obtain ⟨b, o, rfl, hB, hys⟩ := lies_up HL.out.1.head (by omega)
      obtain ⟨e0, e1, e2, e3, e4, e5⟩ := ((hys j u hy).past_ hbj hB).six
      obtain ⟨V, hV, hvb, hvs, hvo⟩ := upbox wi u
      have hbV := hbj.trans (hvb.mono hbj.size)
      have hX := fun p : Past V => own6 (hvo.past p.h hvo.inside)
      have hfV := fun p : Past V => ((HL.out.2.1.past (hbV.trans (p.h.mono hbV.size)) (Nat.le_refl _)).wide (Nat.le_trans hbV.size p.h.size))
      have u1 := fun p : Past V => calls_past (advance_any u.t A' c' f p.w (hfV p) HL.out.2.2.le HL.out.2.2.c_)
      have hne := neq_time (adv u.t f) u.t
      obtain ⟨s, hs⟩ : ∃ s, adv u.t f = s := ⟨_, rfl⟩
      have hall2 : s = u.t → ∀ x ∈ l.take (j + 1), adv x.t f = x.t := fun h x hx => by
        rw [List.take_add_one, hy] at hx
        rcases List.mem_append.1 hx with hx | hx
        · exact hall x hx
        · obtain rfl : x = u := by simpa using hx
          exact hs.trans h
      have hbad : s ≠ u.t → ¬ ∀ x ∈ l, adv x.t f = x.t := fun h k => h (hs.symm.trans (k u hym))
      rw [hs] at u1 hne
      have hgd := fun (x1 y1 : Operand) (xs ys : Array Value) (w : World) => grd_time .neq x1 y1 xs ys w
      unfold Tm.val at u1 hne
      have HJ := Lib.hid (And.intro hbV (And.intro hall2 hbad))
      have q0 : (0 : Int) ≤ (j : Int) := by omega
      have q1 : (j : Int) < (l.length : Int) := by omega
      have q2 : decide ((j : Int) < (l.length : Int)) = true := decide_eq_true q1
      clear hy hym hbj hall hvb hvs hbV hvo hall2 hbad hs hys hfV
      by_cases hst : s = u.t
      · have hv : (!eqT s u.t) = false := by rw [eqT_iff.2 hst]; rfl
        simp only [hv] at hne
        have HS := Lib.hid hst
        clear hst hv
        go_upto_region 4 with fail
        rw [← hV]
        clear hV e0 e1 e2 e3 e4 e5
        refine wp_region_past V (by kernel_rfl) (by kernel_rfl) (Below.refl _ _) ?_
        repeat (first | go_big_quiet_step (fail) | quiet_step (fail))
        quiet_step ((go_at_call 92; exact u1 _))
        repeat (first | go_big_quiet_step (fail) | quiet_step (fail))
        refine wpQuiet_nil ?_
        intro wz hw'
        obtain ⟨⟨wy, hbz⟩, hw''⟩ := hw'
        dsimp only at hw''
        subst hw''
        have HZ := Lib.hid (HJ.out.1.trans (hbz.mono HJ.out.1.size))
        clear hbz
        go_wp2_with fail
        go_roundw
        case rel => exact ⟨j + 1, by go_num, by omega, HZ.out, HJ.out.2.1 HS.out⟩
        case measure => simp [intOf]; omega
      · have hv : (!eqT s u.t) = true := by rw [Bool.not_eq_true', ← Bool.not_eq_true, eqT_iff]; exact hst
        simp only [hv] at hne
        have HS := Lib.hid hst
        clear hst hv
        go_upto_region 4 with fail
        rw [← hV]
        clear hV e0 e1 e2 e3 e4 e5
        refine wp_region_past V (by kernel_rfl) (by kernel_rfl) (Below.refl _ _) ?_
        repeat (first | go_big_quiet_step (fail) | quiet_step (fail))
        quiet_step ((go_at_call 92; exact u1 _))
        repeat (first | go_big_quiet_step (fail) | quiet_step (fail))
        refine wpQuiet_nil ?_
        intro wz hw'
        obtain ⟨⟨wy, hbz⟩, hw''⟩ := hw'
        dsimp only at hw''
        subst hw''
        have HZ := Lib.hid (HJ.out.1.trans (hbz.mono HJ.out.1.size))
        clear hbz
        go_wp2_with fail
        go_ret
        exact ⟨false, rfl, by simp only [Bool.false_eq_true, false_iff]; exact HJ.out.2.2 HS.out, HZ.out⟩
    · have hj2 : j = l.length := by omega
      have q2 : decide ((j : Int) < (l.length : Int)) = false := decide_eq_false (by omega)
      rw [hj2, List.take_length] at hall
      have HJ := Lib.hid (And.intro hbj hall)
      clear hbj hall
      go_wp2_with fail
      go_ret
      exact ⟨true, rfl, ⟨fun _ => HJ.out.2, fun _ => rfl⟩, HJ.out.1⟩
/-- updates advanced, in a list of their own; their rows are those of the others -/
def Advd (f : List Tm) (l : List Up) (w : World) (x : Ending) (w' : World) : Prop :=
  ∃ A', x = .returned (.slice A' l.length l.length) ∧ Ups w' w'.heap.size A' (advL f l) ∧ LoT w.heap.size A' ∧ Below w.heap.size w w'
theorem advL_len (f : List Tm) (l : List Up) : (advL f l).length = l.length := List.length_map ..
theorem advL_ok {f : List Tm} {l : List Up} (h : ∀ u ∈ l, UOk u) : ∀ u ∈ advL f l, UOk u := fun u hu => by
  obtain ⟨x, hx, rfl⟩ := List.mem_map.1 hu
  exact ⟨(h x hx).kn, (h x hx).rn, (h x hx).ks, (h x hx).rs, (h x hx).dn⟩
theorem advL_in {w : World} {B : Nat} {f : List Tm} {l : List Up} (h : ∀ u ∈ l, UIn w B u) : ∀ u ∈ advL f l, UIn w B u := fun u hu => by
  obtain ⟨x, hx, rfl⟩ := List.mem_map.1 hu
  exact ⟨(h x hx).key, (h x hx).row⟩
set_option maxRecDepth 100000 in
set_option maxHeartbeats 3200000 in
theorem badvance_any (A : Option Addr) (c : Nat) (l : List Up) (A' : Option Addr) (c' : Nat) (f : List Tm) (w : World) (hl : Ups w w.heap.size A l) (hn : l.length ≤ 1099511627776) (hf : Times w w.heap.size A' f) (hfo : TsOk f c') :
    Calls Tryz.prog 56 #[.slice A l.length c, .slice A' f.length c'] w (Advd f l w) := by
  have HL := Lib.hid (And.intro hl (And.intro hf hfo))
  have HC := Lib.hid (listU_any A c l w hl.head (by omega))
  clear hl hf hfo
  go_enter Tryz.func56, Tryz.ntmps56
  go_wp2_with fail
  refine HC.out.mono ?_
  rintro _ w1 ⟨B1, rfl, hnil, hown, b1⟩
  by_cases h0 : l = []
  · subst h0
    obtain ⟨rfl, rfl⟩ := hnil rfl
    clear hnil hown b1 HC
    go_wp2_with fail
    go_loopw [12] (fun v12 wr => v12 = .int .i64 0 ∧ wr = w1) (fun v12 _ => 0)
    case atStart => exact ⟨rfl, rfl⟩
    case round =>
      obtain ⟨rfl, rfl⟩ := hrel
      go_wp2_with fail
      go_ret
      exact ⟨none, rfl, ⟨Lies.nil_, fun u hu => by cases hu⟩, lot_nil _, Below.refl _ _⟩
  · have hpos : 0 < l.length := List.length_pos_iff.2 h0
    obtain ⟨rfl, ho⟩ := hown hpos
    have hG1 : w.heap.size < w1.heap.size := ho.inside
    obtain ⟨G, hG⟩ : ∃ G, G = w.heap.size := ⟨_, rfl⟩
    rw [← hG] at ho
    have H1 := Lib.hid (And.intro b1 (And.intro ho (And.intro hG hG1)))
    rw [← hG]
    clear hnil hown b1 ho h0 HC hG hG1
    go_wp2_with fail
    go_loopw [12] (fun v12 wr => ∃ k : Nat, v12 = .int .i64 (k : Int) ∧ k ≤ l.length ∧ Below w.heap.size w wr ∧ Own wr G 48 (((l.take k).map (Up.advd f) ++ l.drop k).flatMap Up.cells)) (fun v12 _ => l.length - (intOf v12).toNat)
    case atStart => exact ⟨0, rfl, by omega, H1.out.1, by simpa using H1.out.2.1⟩
    case round =>
      obtain ⟨k, rfl, hk, hb, ho⟩ := hrel
      by_cases hlt : k < l.length
      · have hx : l[k]? = some l[k] := List.getElem?_eq_getElem hlt
        generalize l[k] = u at *
        obtain ⟨hx1, hx2⟩ := part_next (g := Up.advd f) hx
        generalize hX : (l.take k).map (Up.advd f) ++ l.drop k = X at *
        have hc := fun r v (hr : u.cells[r]? = some v) => (show wr.cell? ⟨G, k * 6 + r, none⟩ = some v by rw [ho.at_]; exact flat_of (size := 6) (cells := Up.cells) (fun _ => rfl) X k r u v hx1 hr)
        have c0 := hc 0 _ rfl
        have c1 := hc 1 _ rfl
        have c2 := hc 2 _ rfl
        have c3 := hc 3 _ rfl
        have c4 := hc 4 _ rfl
        have c5 := hc 5 _ rfl
        rw [Nat.add_zero] at c0
        obtain ⟨V, hV, hvb, hvs, hvo⟩ := upbox wr u
        have hbV := hb.trans (hvb.mono hb.size)
        have hoV := ho.past hvb ho.inside
        obtain ⟨d0, d1, d2, d3, d4, d5⟩ := own6 hvo
        have hfV : Times V V.heap.size A' f := (HL.out.2.1.past hbV (Nat.le_refl _)).wide hbV.size
        have u1 := Lib.hid (advance_any u.t A' c' f V hfV HL.out.2.2.le HL.out.2.2.c_)
        have hst := fun t : Tm => set_time hx1 t
        have HV := Lib.hid (And.intro hbV (And.intro hoV (And.intro hst (And.intro hx2 (And.intro hx1 hX)))))
        have q0 : (0 : Int) ≤ (k : Int) := by omega
        have q1 : (k : Int) < (l.length : Int) := by omega
        clear hx hx1 hx2 hX hc hb ho hvb hvs hvo hbV hoV hfV hst
        go_upto_region 5 with fail
        rw [← hV]
        clear hV c0 c1 c2 c3 c4 c5
        go_wp2_with fail
        refine u1.out.mono ?_
        rintro _ w2 ⟨rfl, b2⟩
        obtain ⟨s, hs⟩ : ∃ s, adv u.t f = s := ⟨_, rfl⟩
        rw [hs]
        have ho2 := HV.out.2.1.past b2 HV.out.2.1.inside
        have hc := fun r v (hr : u.cells[r]? = some v) => (show w2.cell? ⟨G, k * 6 + r, none⟩ = some v by rw [ho2.at_]; exact flat_of (size := 6) (cells := Up.cells) (fun _ => rfl) X k r u v HV.out.2.2.2.2.1 hr)
        have c2 := hc 2 _ rfl
        have c3 := hc 3 _ rfl
        have c4 := hc 4 _ rfl
        have f2 := ho2.open_ (k * 6 + 2)
        have f3 := ho2.open_ (k * 6 + 3)
        have f4 := ho2.open_ (k * 6 + 4)
        have H2 := Lib.hid (And.intro (HV.out.1.trans (b2.mono HV.out.1.size)) (And.intro ho2 hs))
        unfold Tm.val
        clear b2 ho2 hc hs d0 d1 d2 d3 d4 d5 u1
        go_wp2_with fail
        go_roundw
        case rel =>
          refine ⟨k + 1, by go_num, by omega, ((H2.out.1.setCell (p := ⟨G, k * 6 + 2, none⟩) (by have := H1.out.2.2.1; show w.heap.size ≤ G; omega) _).setCell (p := ⟨G, k * 6 + 3, none⟩) (by have := H1.out.2.2.1; show w.heap.size ≤ G; omega) _).setCell (p := ⟨G, k * 6 + 4, none⟩) (by have := H1.out.2.2.1; show w.heap.size ≤ G; omega) _, ?_⟩
          rw [← HV.out.2.2.2.1, show u.advd f = { u with t := s } from by unfold Up.advd; rw [H2.out.2.2], ← HV.out.2.2.1]
          exact ((H2.out.2.1.set_ (k * 6 + 2) _).set_ (k * 6 + 3) _).set_ (k * 6 + 4) _
        case measure => simp [intOf]; omega
      · have hk2 : k = l.length := by omega
        subst hk2
        rw [List.take_length, List.drop_length, List.append_nil] at ho
        have H2 := Lib.hid (And.intro hb ho)
        clear hb ho
        go_wp2_with fail
        go_ret
        refine ⟨_, rfl, ups_own H2.out.2 (advL_in fun u hu => (HL.out.1.each_ u hu).past H2.out.1 (Nat.le_refl _) |>.wide H2.out.1.size), fun b o e => ?_, H2.out.1⟩
        simp only [Option.some.injEq, Addr.mk.injEq, and_true] at e
        have := H1.out.2.2.1
        omega
end Go.Proofs.YtllpfngmnccejaaGreat
namespace Go.Proofs.YtllpfngmnccejaaGreat
open Go Go.RowKit

theorem take_sameE {l m : List Tm} {s t : Tm} {k : Nat} (h : l[k]? = some s) (h' : m[k]? = some t) (he : l.take k = m.take k) (hst : s = t) : l.take (k + 1) = m.take (k + 1) := by
  rw [List.take_add_one, List.take_add_one, h, h', he, hst]

set_option maxRecDepth 100000 in
set_option maxHeartbeats 1600000 in
theorem equalTs_any (A A' : Option Addr) (c c' : Nat) (l m : List Tm) (w : World) (hl : Times w w.heap.size A l) (hm : Times w w.heap.size A' m) (hn : l.length ≤ maxLen) (hn' : m.length ≤ maxLen) :
    Calls Tryz.prog 81 #[.slice A l.length c, .slice A' m.length c'] w fun e w' => e = .returned (.bool (decide (l = m))) ∧ Below w.heap.size w w' := by
  unfold maxLen at hn hn'
  by_cases hlen : l.length = m.length
  · have hlb : ((l.length : Int) != (m.length : Int)) = false := by simp [hlen]
    have hn2 : (l.length : Int) = (m.length : Int) → True := fun _ => trivial
    have Hl := Lib.hid (And.intro hlen (And.intro hl hm))
    clear hl hm hlen hn2
    go_enter Tryz.func81, Tryz.ntmps81
    go_wp2_with fail
    go_loopw [13] (fun i wr => ∃ k : Nat, i = .int .i64 (k : Int) ∧ k ≤ l.length ∧ Below w.heap.size w wr ∧ l.take k = m.take k)
      (fun i _ => l.length - (intOf i).toNat)
    case atStart => exact ⟨0, rfl, by omega, Below.refl _ _, rfl⟩
    case round =>
      obtain ⟨k, rfl, hk, hb, he⟩ := hrel
      by_cases hlt : k < l.length
      · obtain ⟨hlen, hl, hm⟩ := Hl.out
        have hltm : k < m.length := by omega
        have hx : l[k]? = some l[k] := List.getElem?_eq_getElem hlt
        have hy : m[k]? = some m[k] := List.getElem?_eq_getElem hltm
        obtain ⟨b, o, rfl, hB, hl⟩ := hl (by omega)
        obtain ⟨b', o', rfl, hB', hm⟩ := hm (by omega)
        obtain ⟨c0, c1, c2⟩ := (hl k _ hx).past hb hB
        obtain ⟨d0, d1, d2⟩ := (hm k _ hy).past hb hB'
        generalize l[k] = s at *
        generalize m[k] = t at *
        have hne := neq_time s t
        have hgd := fun (x1 y1 : Operand) (xs ys : Array Value) (w : World) => grd_time .neq x1 y1 xs ys w
        unfold Tm.val at hne
        have HH := Lib.hid (And.intro hb (And.intro he (And.intro hx hy)))
        have q0 : (0 : Int) ≤ (k : Int) := by omega
        have q1 : (k : Int) < (l.length : Int) := by omega
        have q2 : (k : Int) < (m.length : Int) := by omega
        clear hb he hx hy hl hm hlen
        by_cases hst : s = t
        · have hv : (!eqT s t) = false := by rw [eqT_iff.2 hst]; rfl
          simp only [hv] at hne
          have HS := Lib.hid hst
          clear hst hv
          go_wp2_with fail
          go_quiet (fail)
          go_wp2_with fail
          obtain ⟨hb, he, hx, hy⟩ := HH.out
          go_roundw
          case rel => exact ⟨k + 1, by go_num, by omega, below_draws hb _, take_sameE hx hy he HS.out⟩
          case measure => simp [intOf]; omega
        · have hv : (!eqT s t) = true := by rw [Bool.not_eq_true', ← Bool.not_eq_true, eqT_iff]; exact hst
          simp only [hv] at hne
          have HS := Lib.hid hst
          clear hst hv
          go_wp2_with fail
          go_quiet (fail)
          go_wp2_with fail
          go_ret
          obtain ⟨hb, he, hx, hy⟩ := HH.out
          refine ⟨ret_bool (Eq.symm ?_), below_draws hb _⟩
          simp only [decide_eq_false_iff_not]
          intro h
          rw [h, hy] at hx
          exact HS.out (by injection hx with hx; exact hx.symm)
      · have hk2 : k = l.length := by omega
        have HH := Lib.hid (And.intro hb (And.intro he hk2))
        clear hb he hk2
        go_wp2_with fail
        go_ret
        obtain ⟨hb, he, rfl⟩ := HH.out
        refine ⟨ret_bool (Eq.symm ?_), hb⟩
        simp only [decide_eq_true_eq]
        have := Hl.out.1
        rw [List.take_length, this, List.take_length] at he
        exact he
  · have hd : decide (l = m) = false := by simp; intro h; exact hlen (by rw [h])
    rw [hd]
    have hlb : ((l.length : Int) != (m.length : Int)) = true := by simp; omega
    clear hlen hd hl hm
    go_enter Tryz.func81, Tryz.ntmps81
    go_wp2_with fail
    go_ret
    exact ⟨rfl, Below.refl _ _⟩
end Go.Proofs.YtllpfngmnccejaaGreat
namespace Go.Proofs.YtllpfngmnccejaaGreat
open Go Go.RowKit

set_option maxRecDepth 100000 in
set_option maxHeartbeats 1600000 in
theorem bfrontier_any (A : Option Addr) (c : Nat) (l : List Tm) (w : World) (hl : Times w w.heap.size A l) (hn : l.length * 24 ≤ 140737488351232) :
    Calls Tryz.prog 36 #[.slice A l.length c] w fun e w' => ∃ b : Bool, e = .returned (.bool b) ∧ (b = true ↔ chk l = 0 ∧ frontL l = l) ∧ Below w.heap.size w w' := by
  have HL := Lib.hid (And.intro hl hn)
  have HC := Lib.hid (check_any A c l w hl (by unfold maxLen; omega))
  have HF := Lib.hid (fun (W : World) (h : Times W W.heap.size A l) => front_any A c l W h hn)
  clear hl
  go_enter Tryz.func36, Tryz.ntmps36
  go_wp2_with fail
  refine HC.out.mono ?_
  rintro _ w1 ⟨rfl, b1⟩
  have H1 := Lib.hid b1
  clear b1 HC
  by_cases h0 : chk l = 0
  · have hv : (chk l == 0) = true := by rw [h0]; rfl
    have HF1 := Lib.hid (HF.out w1 ((HL.out.1.past H1.out (Nat.le_refl _)).wide H1.out.size))
    have H0 := Lib.hid h0
    clear h0 HF
    go_wp2_with fail
    refine HF1.out.mono ?_
    rintro _ w2 ⟨v, rfl, ho, b2⟩
    obtain ⟨A2, c2, rfl, hc2, hm2, ht2⟩ := times_of_own rfl ho
    have hb2 := belows H1.out b2
    have hl2 := ((HL.out.1.past hb2 (Nat.le_refl _)).wide hb2.size)
    have HQ := Lib.hid (equalTs_any A2 A c2 c (frontL l) l w2 ht2 hl2 (by unfold maxLen at *; omega) (by unfold maxLen; have := HL.out.2; omega))
    have H2 := Lib.hid hb2
    clear ho b2 hc2 hm2 ht2 hb2 hl2 HF1
    go_wp2_with fail
    refine HQ.out.mono ?_
    rintro _ w3 ⟨rfl, b3⟩
    have H3 := Lib.hid (belows H2.out b3)
    clear b3 HQ
    by_cases he : frontL l = l
    · have hv2 : decide (frontL l = l) = true := decide_eq_true he
      have HE := Lib.hid he
      clear he
      go_wp2_with fail
      go_ret
      exact ⟨_, rfl, ⟨fun _ => ⟨H0.out, HE.out⟩, fun _ => rfl⟩, H3.out⟩
    · have hv2 : decide (frontL l = l) = false := decide_eq_false he
      have HE := Lib.hid he
      clear he
      go_wp2_with fail
      go_ret
      exact ⟨_, rfl, ⟨fun h => (by cases h), fun h => absurd h.2 HE.out⟩, H3.out⟩
  · have hv : (chk l == 0) = false := by simpa using h0
    have H0 := Lib.hid h0
    clear h0 HF
    go_wp2_with fail
    go_ret
    exact ⟨_, rfl, ⟨fun h => (by cases h), fun h => absurd h.1 H0.out⟩, H1.out⟩
end Go.Proofs.YtllpfngmnccejaaGreat
namespace Go.Proofs.YtllpfngmnccejaaGreat
open Go Go.RowKit

/-- what is told, as a Bool that hangs on nothing else -/
theorem tells_is {P : Prop} {w : World} {x : Ending} {w' : World} {b : Bool} (hb : b = true ↔ P) (h : Tells P w x w') : x = .returned (.bool b) ∧ Below w.heap.size w w' := by
  obtain ⟨b', h1, h2, h3⟩ := h
  have : b' = b := by rw [Bool.eq_iff_iff, h2, hb]
  rw [h1, this]
  exact ⟨rfl, h3⟩
theorem bool_of (P : Prop) : ∃ b : Bool, b = true ↔ P := by
  by_cases h : P
  · exact ⟨true, by simp [h]⟩
  · exact ⟨false, by simp [h]⟩
/-- an error k, or none -/
def Codes (P : Prop) (k : Int) (w : World) (x : Ending) (w' : World) : Prop := ∃ n : Int, x = .returned (.int .i64 n) ∧ (P ∧ n = 0 ∨ ¬ P ∧ n = k) ∧ Below w.heap.size w w'
theorem codes_is {P : Prop} {k n : Int} {w : World} {x : Ending} {w' : World} (hn : P ∧ n = 0 ∨ ¬ P ∧ n = k) (h : Codes P k w x w') : x = .returned (.int .i64 n) ∧ Below w.heap.size w w' := by
  obtain ⟨n', h1, h2, h3⟩ := h
  have : n' = n := by
    rcases hn with ⟨a, b⟩ | ⟨a, b⟩
    · rcases h2 with ⟨c, d⟩ | ⟨c, d⟩
      · rw [d, b]
      · exact absurd a c
    · rcases h2 with ⟨c, d⟩ | ⟨c, d⟩
      · exact absurd c a
      · rw [d, b]
  rw [h1, this]
  exact ⟨rfl, h3⟩
theorem code_of (P : Prop) (k : Int) : ∃ n : Int, P ∧ n = 0 ∨ ¬ P ∧ n = k := by
  by_cases h : P
  · exact ⟨0, .inl ⟨h, rfl⟩⟩
  · exact ⟨k, .inr ⟨h, rfl⟩⟩
set_option maxRecDepth 100000 in
set_option maxHeartbeats 6400000 in
theorem bcheck_any (b : Bt) (w : World) (hb : BtIn w w.heap.size b) (hok : BtOk b) :
    Calls Tryz.prog 35 #[b.val] w (Codes (BatchOk b.f b.l) 4 w) := by
  obtain ⟨V, hV, hvb, hvs, hvo⟩ := btbox w b
  have hX := fun p : Past V => own2 (hvo.past p.h hvo.inside)
  have hin := hb.keep hvb
  have hfV := fun p : Past V => (hin.since.past p.h (Nat.le_refl _)).wide p.h.size
  have huV := fun p : Past V => (hin.ups.past p.h (Nat.le_refl _)).wide p.h.size
  obtain ⟨bf, hbf⟩ := bool_of (FrontOk b.f)
  obtain ⟨be, hbe⟩ := bool_of (EvenP b.l)
  obtain ⟨ba, hba⟩ := bool_of (∀ u ∈ b.l, adv u.t b.f = u.t)
  have n1 := hok.f.n
  have u1 := fun p : Past V => calls_past ((bfrontier_any b.sA b.sc b.f p.w (hfV p) (by omega)).mono fun x w' h => tells_is hbf h)
  have u2 := fun p : Past V => calls_past ((even_any b.uA b.uc b.l p.w (huV p) hok.l.ok hok.l.n).mono fun x w' h => tells_is hbe h)
  have u3 := fun p : Past V => calls_past ((badvanced_any b.uA b.uc b.l b.sA b.sc b.f p.w (huV p) hok.l.n (hfV p) hok.f).mono fun x w' h => tells_is hba h)
  have HB := Lib.hid hvb
  have hend : ∀ n : Int, (bf = true ∧ be = true ∧ ba = true ∧ n = 0 ∨ ¬ (bf = true ∧ be = true ∧ ba = true) ∧ n = 4) → BatchOk b.f b.l ∧ n = 0 ∨ ¬ BatchOk b.f b.l ∧ n = 4 := fun n h => by
    rcases h with ⟨a1, a2, a3, a4⟩ | ⟨a1, a2⟩
    · exact .inl ⟨⟨hbf.1 a1, hbe.1 a2, hba.1 a3⟩, a4⟩
    · exact .inr ⟨fun h => a1 ⟨hbf.2 h.1, hbe.2 h.2.1, hba.2 h.2.2⟩, a2⟩
  have HE := Lib.hid hend
  rw [show b.val = .agg #[.slice b.sA b.f.length b.sc, .slice b.uA b.l.length b.uc] from rfl]
  have HP := Lib.hid (show ∀ n x w', (x = Ending.returned (.int .i64 n) ∧ (BatchOk b.f b.l ∧ n = 0 ∨ ¬ BatchOk b.f b.l ∧ n = 4) ∧ Below w.heap.size w w') → Codes (BatchOk b.f b.l) 4 w x w' from fun n x w' h => ⟨n, h⟩)
  clear hb hok hvb hvs hvo hin hfV huV hbf hbe hba n1 hend
  go_enter Tryz.func35, Tryz.ntmps35
  go_upto_region 1 with fail
  rw [← hV]
  clear hV
  obtain ⟨a0, a1⟩ := hX ⟨V, Below.refl _ _⟩
  dsimp only at a0 a1
  go_wp2_with fail
  refine (u1 ⟨V, Below.refl _ _⟩).mono ?_
  rintro _ _ ⟨rfl, ⟨p1, rfl⟩⟩
  clear a0 a1 u1
  obtain ⟨a0, a1⟩ := hX p1
  cases bf with
  | false =>
    clear u2 u3 hX
    go_wp2_with fail
    go_ret
    exact HP.out 4 _ _ ⟨rfl, HE.out _ (.inr ⟨by simp, rfl⟩), HB.out.trans (p1.h.mono HB.out.size)⟩
  | true =>
  go_wp2_with fail
  refine (u2 p1).mono ?_
  rintro _ _ ⟨rfl, ⟨p2, rfl⟩⟩
  clear a0 a1 u2
  obtain ⟨a0, a1⟩ := hX p2
  cases be with
  | false =>
    clear u3 hX
    go_wp2_with fail
    go_ret
    exact HP.out 4 _ _ ⟨rfl, HE.out _ (.inr ⟨by simp, rfl⟩), HB.out.trans (p2.h.mono HB.out.size)⟩
  | true =>
  go_wp2_with fail
  refine (u3 p2).mono ?_
  rintro _ _ ⟨rfl, ⟨p3, rfl⟩⟩
  clear a0 a1 u3 hX
  cases ba with
  | false =>
    go_wp2_with fail
    go_ret
    exact HP.out 4 _ _ ⟨rfl, HE.out _ (.inr ⟨by simp, rfl⟩), HB.out.trans (p3.h.mono HB.out.size)⟩
  | true =>
    go_wp2_with fail
    go_ret
    exact HP.out 0 _ _ ⟨rfl, HE.out _ (.inl (by simp)), HB.out.trans (p3.h.mono HB.out.size)⟩
end Go.Proofs.YtllpfngmnccejaaGreat
namespace Go.Proofs.YtllpfngmnccejaaGreat
open Go Go.RowKit

set_option maxRecDepth 100000 in
set_option maxHeartbeats 1600000 in
theorem risfront_any (A : Option Addr) (c : Nat) (l : List Tm) (w : World) (hl : Times w w.heap.size A l) (hn : l.length * 24 ≤ 140737488351232) :
    Calls Tryz.prog 89 #[.slice A l.length c] w fun e w' => e = .returned (.bool (decide (l = frontL l))) ∧ Below w.heap.size w w' := by
  have HF := Lib.hid (refFront_any A c l w hl hn)
  have HL := Lib.hid (And.intro hl hn)
  clear hl
  go_enter Tryz.func89, Tryz.ntmps89
  go_wp2_with fail
  refine HF.out.mono ?_
  rintro _ w1 ⟨v, rfl, ho, b1⟩
  obtain ⟨A2, c2, rfl, hc2, hm2, ht2⟩ := times_of_own rfl ho
  have HQ := Lib.hid (same_any A A2 c c2 l (frontL l) w1 ((HL.out.1.past b1 (Nat.le_refl _)).wide b1.size) ht2 (by unfold maxLen; omega) (by unfold maxLen at *; omega))
  have H1 := Lib.hid b1
  clear b1 ho ht2 hc2 hm2 HF
  go_wp2_with fail
  refine HQ.out.mono ?_
  rintro _ w2 ⟨rfl, b2⟩
  have H2 := Lib.hid (belows H1.out b2)
  clear b2 HQ
  go_wp2_with fail
  go_ret
  exact ⟨rfl, H2.out⟩
set_option maxRecDepth 100000 in
set_option maxHeartbeats 1600000 in
theorem rfront_any (A : Option Addr) (c : Nat) (l : List Tm) (w : World) (hl : Times w w.heap.size A l) (hn : l.length * 24 ≤ 140737488351232) :
    Calls Tryz.prog 41 #[.slice A l.length c] w (Tells (FrontOk l) w) := by
  have HC := Lib.hid (refCheck_any A c l w hl (by unfold maxLen; omega))
  have HF := Lib.hid (fun (W : World) (h : Times W W.heap.size A l) => risfront_any A c l W h hn)
  have HL := Lib.hid hl
  clear hl
  go_enter Tryz.func41, Tryz.ntmps41
  go_wp2_with fail
  refine HC.out.mono ?_
  rintro _ w1 ⟨rfl, b1⟩
  have H1 := Lib.hid b1
  clear b1 HC
  by_cases h0 : chk l = 0
  · have hv : (chk l == 0) = true := by rw [h0]; rfl
    have HF1 := Lib.hid (HF.out w1 ((HL.out.past H1.out (Nat.le_refl _)).wide H1.out.size))
    have H0 := Lib.hid h0
    clear h0 HF
    go_wp2_with fail
    refine HF1.out.mono ?_
    rintro _ w2 ⟨rfl, b2⟩
    have H2 := Lib.hid (belows H1.out b2)
    clear b2 HF1
    by_cases he : l = frontL l
    · have hv2 : decide (l = frontL l) = true := decide_eq_true he
      have HE := Lib.hid he
      clear he
      go_wp2_with fail
      go_ret
      exact ⟨_, rfl, ⟨fun _ => ⟨H0.out, HE.out.symm⟩, fun _ => rfl⟩, H2.out⟩
    · have hv2 : decide (l = frontL l) = false := decide_eq_false he
      have HE := Lib.hid he
      clear he
      go_wp2_with fail
      go_ret
      exact ⟨_, rfl, ⟨fun h => (by cases h), fun h => absurd h.2.symm HE.out⟩, H2.out⟩
  · have hv : (chk l == 0) = false := by simpa using h0
    have H0 := Lib.hid h0
    clear h0 HF
    go_wp2_with fail
    go_ret
    exact ⟨_, rfl, ⟨fun h => (by cases h), fun h => absurd h.1 H0.out⟩, H1.out⟩
set_option maxRecDepth 100000 in
set_option maxHeartbeats 3200000 in
theorem radvanced_any (A : Option Addr) (c : Nat) (l : List Up) (A' : Option Addr) (c' : Nat) (f : List Tm) (w : World) (hl : Ups w w.heap.size A l) (hn : l.length ≤ 1099511627776) (hf : Times w w.heap.size A' f) (hfo : TsOk f c') :
    Calls Tryz.prog 50 #[.slice A l.length c, .slice A' f.length c'] w (Tells (∀ u ∈ l, adv u.t f = u.t) w) := by
  have HL := Lib.hid (And.intro hl (And.intro hf hfo))
  clear hl hf hfo
  go_enter Tryz.func50, Tryz.ntmps50
  go_wp2_with fail
  go_loopw [9] (fun v9 wr => ∃ j : Nat, v9 = .int .i64 (j : Int) ∧ j ≤ l.length ∧ Below w.heap.size w wr ∧ (∀ u ∈ l.take j, adv u.t f = u.t)) (fun v9 _ => l.length - (intOf v9).toNat)
  case atStart => exact ⟨0, rfl, by omega, Below.refl _ _, fun u hu => (by cases hu)⟩
  case round =>
    obtain ⟨j, rfl, hj, hbj, hall⟩ := hrel
    obtain ⟨wi, hwi⟩ : ∃ wi, wi = wr := ⟨_, rfl⟩
    subst hwi
    by_cases hjt : j < l.length
    · have hy : l[j]? = some l[j] := List.getElem?_eq_getElem hjt
      have hym := List.mem_of_getElem? hy
      generalize l[j] = u at *
      obtain ⟨b, o, rfl, hB, hys⟩ := lies_up HL.out.1.head (by omega)
      obtain ⟨e0, e1, e2, e3, e4, e5⟩ := ((hys j u hy).past_ hbj hB).six
      obtain ⟨V, hV, hvb, hvs, hvo⟩ := upbox wi u
      have hbV := hbj.trans (hvb.mono hbj.size)
      have hX := fun p : Past V => own6 (hvo.past p.h hvo.inside)
      have hfV := fun p : Past V => ((HL.out.2.1.past (hbV.trans (p.h.mono hbV.size)) (Nat.le_refl _)).wide (Nat.le_trans hbV.size p.h.size))
      have u1 := fun p : Past V => calls_past (refAdvance_any u.t A' c' f p.w (hfV p) (by have := HL.out.2.2.n; omega))
      have hne := neq_time (adv u.t f) u.t
      obtain ⟨s, hs⟩ : ∃ s, adv u.t f = s := ⟨_, rfl⟩
      have hall2 : s = u.t → ∀ x ∈ l.take (j + 1), adv x.t f = x.t := fun h x hx => by
        rw [List.take_add_one, hy] at hx
        rcases List.mem_append.1 hx with hx | hx
        · exact hall x hx
        · obtain rfl : x = u := by simpa using hx
          exact hs.trans h
      have hbad : s ≠ u.t → ¬ ∀ x ∈ l, adv x.t f = x.t := fun h k => h (hs.symm.trans (k u hym))
      rw [hs] at u1 hne
      have hgd := fun (x1 y1 : Operand) (xs ys : Array Value) (w : World) => grd_time .neq x1 y1 xs ys w
      unfold Tm.val at u1 hne
      have HJ := Lib.hid (And.intro hbV (And.intro hall2 hbad))
      have q0 : (0 : Int) ≤ (j : Int) := by omega
      have q1 : (j : Int) < (l.length : Int) := by omega
      have q2 : decide ((j : Int) < (l.length : Int)) = true := decide_eq_true q1
      clear hy hym hbj hall hvb hvs hbV hvo hall2 hbad hs hys hfV
      by_cases hst : s = u.t
      · have hv : (!eqT s u.t) = false := by rw [eqT_iff.2 hst]; rfl
        simp only [hv] at hne
        have HS := Lib.hid hst
        clear hst hv
        go_upto_region 4 with fail
        rw [← hV]
        clear hV e0 e1 e2 e3 e4 e5
        refine wp_region_past V (by kernel_rfl) (by kernel_rfl) (Below.refl _ _) ?_
        repeat (first | go_big_quiet_step (fail) | quiet_step (fail))
        quiet_step ((go_at_call 80; exact u1 _))
        repeat (first | go_big_quiet_step (fail) | quiet_step (fail))
        refine wpQuiet_nil ?_
        intro wz hw'
        obtain ⟨⟨wy, hbz⟩, hw''⟩ := hw'
        dsimp only at hw''
        subst hw''
        have HZ := Lib.hid (HJ.out.1.trans (hbz.mono HJ.out.1.size))
        clear hbz
        go_wp2_with fail
        go_roundw
        case rel => exact ⟨j + 1, by go_num, by omega, HZ.out, HJ.out.2.1 HS.out⟩
        case measure => simp [intOf]; omega
      · have hv : (!eqT s u.t) = true := by rw [Bool.not_eq_true', ← Bool.not_eq_true, eqT_iff]; exact hst
        simp only [hv] at hne
        have HS := Lib.hid hst
        clear hst hv
        go_upto_region 4 with fail
        rw [← hV]
        clear hV e0 e1 e2 e3 e4 e5
        refine wp_region_past V (by kernel_rfl) (by kernel_rfl) (Below.refl _ _) ?_
        repeat (first | go_big_quiet_step (fail) | quiet_step (fail))
        quiet_step ((go_at_call 80; exact u1 _))
        repeat (first | go_big_quiet_step (fail) | quiet_step (fail))
        refine wpQuiet_nil ?_
        intro wz hw'
        obtain ⟨⟨wy, hbz⟩, hw''⟩ := hw'
        dsimp only at hw''
        subst hw''
        have HZ := Lib.hid (HJ.out.1.trans (hbz.mono HJ.out.1.size))
        clear hbz
        go_wp2_with fail
        go_ret
        exact ⟨false, rfl, by simp only [Bool.false_eq_true, false_iff]; exact HJ.out.2.2 HS.out, HZ.out⟩
    · have hj2 : j = l.length := by omega
      have q2 : decide ((j : Int) < (l.length : Int)) = false := decide_eq_false (by omega)
      rw [hj2, List.take_length] at hall
      have HJ := Lib.hid (And.intro hbj hall)
      clear hbj hall
      go_wp2_with fail
      go_ret
      exact ⟨true, rfl, ⟨fun _ => HJ.out.2, fun _ => rfl⟩, HJ.out.1⟩
set_option maxRecDepth 100000 in
set_option maxHeartbeats 3200000 in
theorem rbcheck_any (b : Bt) (w : World) (hb : BtIn w w.heap.size b) (hok : BtOk b) :
    Calls Tryz.prog 40 #[b.val] w (Codes (BatchOk b.f b.l) 4 w) := by
  obtain ⟨V, hV, hvb, hvs, hvo⟩ := btbox w b
  have hin := hb.keep hvb
  have hfn := hok.f.n
  have hln := hok.l.n
  have z1 := Lib.hid (rfront_any b.sA b.sc b.f V hin.since (by omega))
  have z2 := fun W (h : Below V.heap.size V W) => Lib.hid (reven_any b.uA b.uc b.l W (hin.keep h).ups hok.l.ok hok.l.n)
  have z3 := fun W (h : Below V.heap.size V W) => Lib.hid (radvanced_any b.uA b.uc b.l b.sA b.sc b.f W (hin.keep h).ups hok.l.n (hin.keep h).since hok.f)
  have HV := Lib.hid (And.intro hvb hvo)
  rw [show b.val = .agg #[.slice b.sA b.f.length b.sc, .slice b.uA b.l.length b.uc] from rfl]
  unfold Tells at z1 z2 z3
  clear hb hok hvb hvs hvo hin
  go_enter Tryz.func40, Tryz.ntmps40
  go_upto_region 1 with fail
  rw [← hV]
  clear hV
  obtain ⟨d0, d1⟩ := own2 HV.out.2
  go_wp2_with fail
  refine z1.out.mono ?_
  rintro _ w1 ⟨B1, rfl, hB1, b1⟩
  have H1 := Lib.hid (And.intro b1 (And.intro hB1 (HV.out.2.past b1 HV.out.2.inside)))
  clear b1 hB1 z1 d0 d1
  cases B1 with
  | false =>
    go_wp2_with fail
    go_ret
    exact ⟨4, rfl, .inr ⟨fun h => (by have := H1.out.2.1.2 h.1; cases this), rfl⟩, belows HV.out.1 H1.out.1⟩
  | true =>
    obtain ⟨d0, d1⟩ := own2 H1.out.2.2
    go_wp2_with fail
    refine (z2 _ H1.out.1).out.mono ?_
    rintro _ w2 ⟨B2, rfl, hB2, b2⟩
    have H2 := Lib.hid (And.intro (belows H1.out.1 b2) (And.intro hB2 (H1.out.2.2.past b2 H1.out.2.2.inside)))
    clear b2 hB2 z2 d0 d1
    cases B2 with
    | false =>
      go_wp2_with fail
      go_ret
      exact ⟨4, rfl, .inr ⟨fun h => (by have := H2.out.2.1.2 h.2.1; cases this), rfl⟩, belows HV.out.1 H2.out.1⟩
    | true =>
      obtain ⟨d0, d1⟩ := own2 H2.out.2.2
      go_wp2_with fail
      refine (z3 _ H2.out.1).out.mono ?_
      rintro _ w3 ⟨B3, rfl, hB3, b3⟩
      have H3 := Lib.hid (And.intro (belows H2.out.1 b3) hB3)
      clear b3 hB3 z3 d0 d1
      cases B3 with
      | false =>
        go_wp2_with fail
        go_ret
        exact ⟨4, rfl, .inr ⟨fun h => (by have := H3.out.2.2 h.2.2; cases this), rfl⟩, belows HV.out.1 H3.out.1⟩
      | true =>
        go_wp2_with fail
        go_ret
        exact ⟨0, rfl, .inl ⟨⟨H1.out.2.1.1 (by first | trivial | rfl), H2.out.2.1.1 (by first | trivial | rfl), H3.out.2.1 (by first | trivial | rfl)⟩, rfl⟩, belows HV.out.1 H3.out.1⟩
/-- an update's time set anew in a row of the call's own -/
theorem row_time {w : World} {base g n cap : Nat} {X : List Up} {k : Nat} {u : Up} (h : w.ownsRow base 48 6 (.slice (some ⟨g, 0, none⟩) n cap) n (X.flatMap Up.cells)) (hx : X[k]? = some u) (t : Tm) :
    ∃ W, W = ((w.setCell ⟨g, k * 6 + 2, none⟩ (.int .u64 (t.e : Int))).setCell ⟨g, k * 6 + 3, none⟩ (.int .u64 (t.a : Int))).setCell ⟨g, k * 6 + 4, none⟩ (.int .u64 (t.b : Int)) ∧
      W.ownsRow base 48 6 (.slice (some ⟨g, 0, none⟩) n cap) n ((X.set k { u with t := t }).flatMap Up.cells) ∧ w.grownBy W (some g) ∧ (∀ B u, Below B u w → B ≤ g → Below B u W) := by
  refine ⟨_, rfl, ?_, ⟨rfl, rfl, rfl, by simp [World.setCell], fun b _ hb => ?_⟩, fun B u hB hg => ((hB.setCell (p := ⟨g, k * 6 + 2, none⟩) hg _).setCell (p := ⟨g, k * 6 + 3, none⟩) hg _).setCell (p := ⟨g, k * 6 + 4, none⟩) hg _⟩
  · rw [← set_time hx t]
    exact (((h.stored (k * 6 + 2) _).1.stored (k * 6 + 3) _).1.stored (k * 6 + 4) _).1
  · have hne : b ≠ g := fun e => hb (by rw [e])
    rw [Below.heap_setCell _ ⟨g, k * 6 + 4, none⟩ _ b hne, Below.heap_setCell _ ⟨g, k * 6 + 3, none⟩ _ b hne, Below.heap_setCell _ ⟨g, k * 6 + 2, none⟩ _ b hne]
theorem advP (f : List Tm) {X : List Up} {k : Nat} {u : Up} (h : X[k]? = some u) (s : Tm) (hs : adv u.t f = s) : X.set k { u with t := s } = X.set k (u.advd f) := by
  unfold Up.advd; rw [hs]
set_option maxRecDepth 100000 in
set_option maxHeartbeats 6400000 in
theorem radvL_any (A : Option Addr) (c : Nat) (l : List Up) (A' : Option Addr) (c' : Nat) (f : List Tm) (w : World) (hl : Ups w w.heap.size A l) (hok : ∀ u ∈ l, UOk u) (h8 : ∀ u ∈ l, u.key.length ≤ 1099511627776 ∧ u.row.length ≤ 1099511627776) (hn : l.length ≤ 1099511627776) (hf : Times w w.heap.size A' f) (hfn : f.length ≤ 1099511627776) :
    Calls Tryz.prog 33 #[.slice A l.length c, .slice A' f.length c'] w (Copied (advL f l) w) := by
  have HC := Lib.hid (copyU_own A c l w hl hok h8 hn)
  have HL := Lib.hid hf
  clear hl hok h8 hf
  go_enter Tryz.func33, Tryz.ntmps33
  go_wp2_with fail
  refine HC.out.mono ?_
  rintro _ w1 ⟨v, o, rfl, hp, hown, hout, b1⟩
  obtain ⟨Ao, co, rfl⟩ : ∃ Ao co, v = .slice Ao o.length co := by
    rcases hown.2 with ⟨e, h0⟩ | ⟨g, cap, cur, e, _⟩
    · exact ⟨none, 0, by rw [e, h0]⟩
    · exact ⟨_, _, e⟩
  have hlo : o.length ≤ 1099511627776 := by have := congrArg List.length hp; rw [List.length_map, List.length_map] at this; omega
  have H1 := Lib.hid (And.intro hp (And.intro hown (And.intro hout b1)))
  have hs1 := b1.size
  clear hp hown hout b1 HC
  go_wp2_with fail
  go_loopw [11] (fun v11 wr => ∃ k : Nat, v11 = .int .i64 (k : Int) ∧ k ≤ o.length ∧ wr.ownsRow w.heap.size 48 6 (.slice Ao o.length co) o.length (((o.take k).map (Up.advd f) ++ o.drop k).flatMap Up.cells) ∧ (∀ u ∈ (o.take k).map (Up.advd f) ++ o.drop k, UIn wr wr.heap.size u ∧ UOk u ∧ Far w.heap.size (.slice Ao o.length co) wr u) ∧ Below w.heap.size w wr) (fun v11 _ => o.length - (intOf v11).toNat)
  case atStart => exact ⟨0, rfl, by omega, by simpa using H1.out.2.1, by simpa using H1.out.2.2.1, H1.out.2.2.2⟩
  case round =>
    obtain ⟨k, rfl, hk, hown, hout, hb⟩ := hrel
    obtain ⟨wi, hwi⟩ : ∃ wi, wi = wr := ⟨_, rfl⟩
    subst hwi
    by_cases hlt : k < o.length
    · have hx : o[k]? = some o[k] := List.getElem?_eq_getElem hlt
      generalize o[k] = u at *
      obtain ⟨hx1, hx2⟩ := part_next (g := Up.advd f) hx
      generalize hX : (o.take k).map (Up.advd f) ++ o.drop k = X at *
      obtain ⟨g, rfl⟩ : ∃ g, Ao = some ⟨g, 0, none⟩ := by
        rcases hown.2 with ⟨e, h0⟩ | ⟨g, cap, cur, e, _⟩
        · omega
        · injection e with e; exact ⟨g, e⟩
      have hg := hown.lt g rfl
      have hc := fun r v (hr : u.cells[r]? = some v) => (hown.cellAt (k * 6 + r) (by have := (List.getElem?_eq_some_iff.1 hr).1; have := ucells_len u; omega)).trans (flat_of (size := 6) (cells := Up.cells) (fun _ => rfl) X k r u v hx1 hr)
      have c2 := hc 2 _ rfl
      have c3 := hc 3 _ rfl
      have c4 := hc 4 _ rfl
      have u1 := Lib.hid (refAdvance_any u.t A' c' f wi ((HL.out.past hb (Nat.le_refl _)).wide hb.size) (by omega))
      obtain ⟨s, hs⟩ : ∃ s, adv u.t f = s := ⟨_, rfl⟩
      rw [hs] at u1
      unfold Tm.val at u1
      have HV := Lib.hid (And.intro hown (And.intro hout (And.intro hb (And.intro hx1 (And.intro hx2 hs)))))
      have q0 : (0 : Int) ≤ (k : Int) := by omega
      have q1 : (k : Int) < (o.length : Int) := by omega
      have hg2 := hg.2
      clear hx hx1 hx2 hc hb hown hout hs hg
      go_wp2_with fail
      refine u1.out.mono ?_
      rintro _ w2 ⟨rfl, b2⟩
      have hown2 := own_below HV.out.1 b2
      obtain ⟨W, hW, hWo, hWg, hWb⟩ := row_time hown2 HV.out.2.2.2.1 s
      have d2 := (b2.cell (p := ⟨g, k * 6 + 2, none⟩) hg2).trans c2
      have d3 := (b2.cell (p := ⟨g, k * 6 + 3, none⟩) hg2).trans c3
      have d4 := (b2.cell (p := ⟨g, k * 6 + 4, none⟩) hg2).trans c4
      have f2 := hown2.frozenAt (k * 6 + 2)
      have f3 := hown2.frozenAt (k * 6 + 3)
      have f4 := hown2.frozenAt (k * 6 + 4)
      have hb2 := HV.out.2.2.1.trans (b2.mono HV.out.2.2.1.size)
      have hgw := (HV.out.1.lt g rfl).1
      have H2 := Lib.hid (And.intro hWo (And.intro hWg (And.intro (hWb _ _ hb2 hgw) (And.intro b2 hWg.size))))
      clear b2 hown2 hWo hWg hWb hb2 hgw c2 c3 c4 u1
      go_wp2_with fail
      rw [← hW]
      clear hW d2 d3 d4 f2 f3 f4
      go_roundw
      case rel =>
        have e1 : X.set k { u with t := s } = (o.take (k + 1)).map (Up.advd f) ++ o.drop (k + 1) := by rw [advP f HV.out.2.2.2.1 s HV.out.2.2.2.2.2]; exact HV.out.2.2.2.2.1
        refine ⟨k + 1, by go_num, by omega, ?_, ?_, H2.out.2.2.1⟩
        · rw [← e1]; exact H2.out.1
        · rw [← e1]
          intro z hz
          have hkeep : ∀ y ∈ X, UIn W W.heap.size y ∧ UOk y ∧ Far w.heap.size (.slice (some ⟨g, 0, none⟩) o.length co) W y := fun y hy => by
            obtain ⟨a1, a2, a3⟩ := HV.out.2.1 y hy
            have a4 := a3.next H2.out.2.2.2.1.size
            exact ⟨uin_grown (a1.keep H2.out.2.2.2.1) a4 H2.out.2.1, a2, a4.next H2.out.2.2.2.2⟩
          rcases List.mem_or_eq_of_mem_set hz with hz | hz
          · exact hkeep z hz
          · subst hz
            obtain ⟨a1, a2, a3⟩ := hkeep u (List.mem_of_getElem? HV.out.2.2.2.1)
            exact ⟨⟨a1.key, a1.row⟩, ⟨a2.kn, a2.rn, a2.ks, a2.rs, a2.dn⟩, a3⟩
      case measure => simp [intOf]; omega
    · have hk2 : k = o.length := by omega
      subst hk2
      rw [List.take_length, List.drop_length, List.append_nil] at hown hout
      have hlen : (o.map (Up.advd f)).length = o.length := List.length_map ..
      obtain ⟨A2, c2, e2, _, _, hl2⟩ := lies_of_own (size := 6) (cells := Up.cells) (l := o.map (Up.advd f)) (by decide) ucells_len hlen.symm hown
      injection e2 with e2 _ e3
      subst e2
      have hpp : (o.map (Up.advd f)).map Up.p = (advL f l).map Up.p := by
        unfold advL
        rw [List.map_map, List.map_map]
        have h0 : ∀ (a b : List Up), a.map Up.p = b.map Up.p → a.map (Up.p ∘ Up.advd f) = b.map (Up.p ∘ Up.advd f) := by
          intro a b h
          have e : (Up.p ∘ Up.advd f) = (fun q : Uk × Int => ((⟨q.1.key, q.1.row, adv q.1.t f⟩ : Uk), q.2)) ∘ Up.p := rfl
          rw [e, ← List.map_map, ← List.map_map, h]
        exact h0 _ _ H1.out.1
      have H2 := Lib.hid (And.intro hl2 (And.intro hout (And.intro hb hpp)))
      have HLN := Lib.hid hlen
      have q5 : decide ((o.length : Int) < (o.length : Int)) = false := decide_eq_false (by omega)
      clear hl2 hout hb hown hpp hlen e3 hk hlt
      obtain ⟨n, hnn⟩ : ∃ n, o.length = n := ⟨_, rfl⟩
      rw [hnn] at q5 ⊢
      rw [hnn] at hlo
      have HNN := Lib.hid hnn
      clear hnn
      go_wp2_with fail
      go_ret
      exact ⟨Ao, co, o.map (Up.advd f), by first | (rw [HLN.out, HNN.out]; done) | (rw [HLN.out, HNN.out]; rfl) | (rw [HNN.out] at HLN; rw [HLN.out]), H2.out.2.2.2, ⟨H2.out.1, fun u hu => (H2.out.2.1 u hu).1⟩, fun u hu => (H2.out.2.1 u hu).2.1, H2.out.2.2.1⟩
end Go.Proofs.YtllpfngmnccejaaGreat
namespace Go.Proofs.YtllpfngmnccejaaGreat
open Go Go.RowKit

theorem zero_sizeU (z : Array Value) (n : Nat) : (Builtin.zeroCells z n).size = n * z.size := by simp [Builtin.zeroCells]
theorem bytesUp : Tryz.t48.bytes = 80 := by kernel_rfl
set_option maxRecDepth 100000 in
set_option maxHeartbeats 1600000 in
theorem growU_any (n : Nat) (w : World) (hn : n * 80 ≤ 140737488355328) :
    Calls Tryz.prog 100 #[.slice none 0 0, .int .i64 (n : Int)] w fun e w' => ∃ v, e = .returned v ∧ w'.ownsRow w.heap.size 48 6 v 0 [] ∧ Below w.heap.size w w' := by
  by_cases h0 : n = 0
  · subst h0
    go_enter Tryz.func100, Tryz.ntmps100
    go_wp2_with fail
    go_ret
    exact ⟨_, rfl, World.ownsRow_nil _ _ _ _, Below.refl _ _⟩
  · have hp : 0 < n := by omega
    have t1 : decide (0 < (n : Int)) = true := by simp; omega
    have hge := grownCap_ge w n 0 48
    have hle := grownCap_le_maxLen w n 0 48 (by unfold maxLen; omega)
    have HG := Lib.hid (And.intro hge hle)
    have hb := bytesUp
    have hnx : Builtin.nextslicecap n 0 = n := by unfold Builtin.nextslicecap; simp; omega
    clear h0 hge hle
    go_enter Tryz.func100, Tryz.ntmps100
    go_wp2_with fail
    all_goals first
      | (exfalso; omega)
      | skip
    go_ret
    refine ⟨_, rfl, ?_, ((Below.refl w.heap.size w).alloc (Nat.le_refl _) _).drew⟩
    obtain ⟨hge, hle⟩ := HG.out
    exact World.ownsRow_made (base := w.heap.size) (e := 48) (size := 6) w _ (grownCap w n 0 48) (Nat.le_refl _) hle (by
      rw [Array.size_append, zero_sizeU, zero_sizeU]
      show n * 6 + (grownCap w n 0 48 - n) * 6 = _
      omega)
theorem flatR_one {L : List (Rw Up)} {k : Nat} {s : Rw Up} (h : L[k]? = some s) : (flatR (L.take (k + 1))).length = (flatR (L.take k)).length + s.l.length := by
  rw [flatR_take h, List.length_append]
set_option maxRecDepth 100000 in
set_option maxHeartbeats 3200000 in
theorem concatU_any (A : Option Addr) (c : Nat) (L : List (Rw Up)) (w : World) (hl : ULs w w.heap.size A L) (hn : (flatR L).length ≤ 1099511627776) (hn2 : L.length ≤ 1099511627776) :
    Calls Tryz.prog 57 #[.slice A L.length c] w fun e w' => ∃ v, e = .returned v ∧ w'.ownsRow w.heap.size 48 6 v (flatR L).length ((flatR L).flatMap Up.cells) ∧ Below w.heap.size w w' := by
  obtain ⟨i0, hi, hz0, hz1, hz2⟩ := info_parts infoUp
  have HI := Lib.hid (And.intro Tryz.underlying22 (And.intro hi (And.intro hz0 (And.intro hz1 hz2))))
  have Hl := Lib.hid hl
  have hgrow := fun W => Lib.hid (growU_any (flatR L).length W (by omega))
  clear hl hi hz0 hz1 hz2
  go_enter Tryz.func57, Tryz.ntmps57
  go_wp2_with fail
  go_loopw [3, 11] (fun s i wr => ∃ k : Nat, i = .int .i64 (k : Int) ∧ s = .int .i64 (((flatR (L.take k)).length : Nat) : Int) ∧ k ≤ L.length ∧ Below w.heap.size w wr)
    (fun _ i _ => L.length - (intOf i).toNat)
  case atStart => exact ⟨0, rfl, rfl, by omega, Below.refl _ _⟩
  case round =>
    obtain ⟨k, rfl, rfl, hk, hb⟩ := hrel
    by_cases hlt : k < L.length
    · have hx : L[k]? = some L[k] := List.getElem?_eq_getElem hlt
      obtain ⟨b, o, rfl, hB, hc, hv⟩ := Hl.out.at_ hx
      have c0 := (hb.cell (p := ⟨b, o + k, none⟩) hB).trans hc
      have hsn := flatR_one hx
      have hon := flatR_len hx (Nat.le_refl _)
      generalize L[k] = s at *
      generalize (flatR (L.take k)).length = m at *
      have HH := Lib.hid (And.intro hb hsn)
      have q1 : m + s.l.length ≤ 1099511627776 := by omega
      clear hb hx hsn hc hv hon
      go_wp2_with fail
      go_roundw
      case rel => exact ⟨k + 1, by go_num, by rw [HH.out.2]; go_num, by omega, HH.out.1⟩
      case measure => simp [intOf]; omega
    · have hk2 : k = L.length := by omega
      subst hk2
      rw [List.take_length]
      have HH := Lib.hid hb
      clear hb
      go_wp2_with fail
      refine (hgrow _).out.mono ?_
      rintro e w1 ⟨v1, rfl, o1, b1⟩
      have hw1 := HH.out.trans (b1.mono HH.out.size)
      have o1' := o1.mono HH.out.size
      have H1 := Lib.hid (And.intro o1' hw1)
      clear o1 o1' b1 hw1 hgrow
      go_wp2_with fail
      go_loopw [6, 27] (fun v i w2 => ∃ k : Nat, i = .int .i64 (k : Int) ∧ k ≤ L.length ∧ w2.ownsRow w.heap.size 48 6 v (flatR (L.take k)).length ((flatR (L.take k)).flatMap Up.cells) ∧ Below w.heap.size w w2)
        (fun _ i _ => L.length - (intOf i).toNat)
      case atStart => exact ⟨0, rfl, by omega, H1.out.1, H1.out.2⟩
      case round =>
        obtain ⟨k, rfl, hk', hown, hb2⟩ := hrel
        by_cases hlt' : k < L.length
        · have hx : L[k]? = some L[k] := List.getElem?_eq_getElem hlt'
          obtain ⟨b, o, rfl, hB, hc, hv⟩ := Hl.out.at_ hx
          have c0 := (hb2.cell (p := ⟨b, o + k, none⟩) hB).trans hc
          have hvv := hv.head.past hb2 (Nat.le_refl _)
          have hsn := flatR_one hx
          have hon := flatR_len hx (Nat.le_refl _)
          have hfs := flatR_take hx
          generalize L[k] = s at *
          have hM : (flatR (L.take k)).length + s.l.length ≤ 1099511627776 := by omega
          have HV := Lib.hid (And.intro hvv (And.intro hown (And.intro hb2 (And.intro hsn (And.intro hfs hM)))))
          clear hx hsn hfs hc hv hvv hown hb2 hon hM
          go_wp2_with (at_builtin; refine wpList_append_lies _ rfl (.tmp 31) (.tmp 32) 22 48 rfl i0 _ 80 HI.out.1 HI.out.2.1 HI.out.2.2.1 HI.out.2.2.2.1 HI.out.2.2.2.2 rfl (by decide) ucells_len ucells_one w.heap.size _ _ _ rfl HV.out.2.1 s.c rfl HV.out.1 ?m1 ?m2 ?m3 ?m4)
          case m1 => unfold maxLen; have := HV.out.2.2.2.2.2; omega
          case m2 => have := HV.out.2.2.2.2.2; omega
          case m3 => exact HV.out.2.2.1.size
          intro v' w' ho' hb'
          rw [← List.flatMap_append, ← HV.out.2.2.2.2.1, ← HV.out.2.2.2.1] at ho'
          have H2 := Lib.hid (And.intro ho' (HV.out.2.2.1.trans hb'))
          clear ho' hb'
          go_wp2_with fail
          go_roundw
          case rel => exact ⟨k + 1, by go_num, by omega, H2.out.1, H2.out.2⟩
          case measure => simp [intOf]; omega
        · have hk3 : k = L.length := by omega
          subst hk3
          rw [List.take_length] at hown
          have H2 := Lib.hid (And.intro hown hb2)
          clear hown hb2
          go_wp2_with fail
          go_ret
          exact ⟨_, rfl, H2.out.1, H2.out.2⟩
end Go.Proofs.YtllpfngmnccejaaGreat
namespace Go.Proofs.YtllpfngmnccejaaGreat
open Go Go.RowKit

/-- what Build makes: a batch, and an error -/
def bldE (f : List Tm) (l : List Up) : Int := if chk f = 0 ∧ frontL f = f then consE [advL f l] else 4
def Built (f : List Tm) (l : List Up) (w : World) (x : Ending) (w' : World) : Prop :=
  ∃ b : Bt, x = .returned (.tuple #[b.val, .int .i64 (bldE f l)]) ∧ (bldE f l = 0 → FrontOk f ∧ b.f = f ∧ b.l.map Up.p = consL [advL f l]) ∧ (bldE f l ≠ 0 → b = Bt.nil) ∧ BtIn w' w'.heap.size b ∧ BtOk b ∧ BtLo w.heap.size b ∧ Below w.heap.size w w'
theorem batch_nil2 (w : World) : (w.alloc (.cells #[.slice none 0 0, .slice none 0 0] 27)).heap.size = w.heap.size + 1 := by simp
set_option maxRecDepth 100000 in
set_option maxHeartbeats 6400000 in
theorem build_any (A : Option Addr) (c : Nat) (f : List Tm) (A' : Option Addr) (c' : Nat) (L : List (Rw Up)) (w : World) (hf : Times w w.heap.size A f) (hfo : TsOk f c) (hl : ULs w w.heap.size A' L) (hok : ∀ s ∈ L, ∀ u ∈ s.l, UOk u) (hn : (flatR L).length ≤ 1099511627776) (hn2 : L.length ≤ 1099511627776) :
    Calls Tryz.prog 20 #[.slice A f.length c, .slice A' L.length c'] w (Built f (flatR L) w) := by
  obtain ⟨W, hW, hWb, hWo⟩ : ∃ W, W = w.alloc (.cells #[.slice none 0 0, .slice none 0 0] 27) ∧ Below w.heap.size w W ∧ Own W w.heap.size 27 [.slice none 0 0, .slice none 0 0] :=
    ⟨_, rfl, (Below.refl _ _).alloc (Nat.le_refl _) _, Own.made w 27 [.slice none 0 0, .slice none 0 0]⟩
  have hfn : f.length ≤ 1099511627776 := hfo.n
  have y1 := Lib.hid (bfrontier_any A c f W ((hf.past hWb (Nat.le_refl _)).wide hWb.size) (by omega))
  have HL := Lib.hid (And.intro hf (And.intro hfo (And.intro hl hok)))
  have HW := Lib.hid (And.intro hWb hWo)
  obtain ⟨G, hG⟩ : ∃ G, G = w.heap.size := ⟨_, rfl⟩
  have HG := Lib.hid hG
  clear hf hfo hl hok hWb hWo
  go_enter Tryz.func20, Tryz.ntmps20
  go_upto_region 1 with fail
  rw [← hW, ← hG]
  clear hW hG
  go_wp2_with fail
  refine y1.out.mono ?_
  rintro _ w1 ⟨b, rfl, hb, b1⟩
  have h1 : Below w.heap.size w w1 := HW.out.1.trans (b1.mono HW.out.1.size)
  have ho1 := HW.out.2.past b1 HW.out.2.inside
  rw [← HG.out] at ho1
  cases b with
  | false =>
    have hne : ¬ (chk f = 0 ∧ frontL f = f) := fun h => by have := hb.2 h; cases this
    have he : bldE f (flatR L) = 4 := if_neg hne
    have f0 := ho1.open_ 0
    have f1 := ho1.open_ 1
    obtain ⟨d0, d1⟩ := own2 ho1
    have H1 := Lib.hid (And.intro h1 (And.intro ho1 he))
    clear h1 ho1 he hne hb b1 y1
    go_wp2_with fail
    have hX := ((H1.out.2.1.set_ 0 (.slice none 0 0)).set_ 1 (.slice none 0 0))
    obtain ⟨x0, x1⟩ := own2 hX
    have HB := Lib.hid ((H1.out.1.setCell (p := ⟨G, 0, none⟩) (Nat.le_of_eq HG.out.symm) (.slice none 0 0)).setCell (p := ⟨G, 1, none⟩) (Nat.le_of_eq HG.out.symm) (.slice none 0 0))
    have HE := Lib.hid H1.out.2.2
    clear hX f0 f1 d0 d1
    exact bodyPost_ret (v := .tuple #[.agg #[.slice none 0 0, .slice none 0 0], .int .i64 4]) (by simp [results, Tryz.results20, go_sem, x0, x1]) rfl ⟨Bt.nil, by rw [HE.out]; rfl, fun h => by rw [HE.out] at h; omega, fun _ => rfl, bt_nil_in _ _, bt_nil_ok, bt_nil_lo _, HB.out⟩
  | true =>
    have hfr : FrontOk f := hb.1 rfl
    have he : bldE f (flatR L) = consE [advL f (flatR L)] := if_pos hfr
    have y2 := Lib.hid (concatU_any A' c' L w1 ((HL.out.2.2.1.past h1 (Nat.le_refl _)).wide h1.size) hn hn2)
    have H1 := Lib.hid (And.intro h1 (And.intro ho1 (And.intro hfr he)))
    clear h1 ho1 hfr he hb b1 y1
    go_wp2_with fail
    refine y2.out.mono ?_
    rintro _ w2 ⟨v2, rfl, ho2, b2⟩
    obtain ⟨A2, c2, rfl, _, _, hl2⟩ := lies_of_own (size := 6) (cells := Up.cells) (l := flatR L) (by decide) ucells_len rfl ho2
    have h2 : Below w.heap.size w w2 := H1.out.1.trans (b2.mono H1.out.1.size)
    have hu2 : Ups w2 w2.heap.size A2 (flatR L) := ⟨hl2, fun u hu => by
      obtain ⟨s, hs, hu⟩ := List.mem_flatMap.1 hu
      exact ((HL.out.2.2.1.each_ s hs).each_ u hu).past h2 (Nat.le_refl _) |>.wide h2.size⟩
    have hok2 : ∀ u ∈ flatR L, UOk u := fun u hu => by
      obtain ⟨s, hs, hu⟩ := List.mem_flatMap.1 hu
      exact HL.out.2.2.2 s hs u hu
    have hf2 : Times w2 w2.heap.size A f := (HL.out.1.past h2 (Nat.le_refl _)).wide h2.size
    have y3 := Lib.hid (badvance_any A2 c2 (flatR L) A c f w2 hu2 hn hf2 HL.out.2.1)
    have H2 := Lib.hid (And.intro h2 (And.intro (H1.out.2.1.past b2 H1.out.2.1.inside) hok2))
    obtain ⟨l, hlE⟩ : ∃ l, flatR L = l := ⟨_, rfl⟩
    rw [hlE] at y3 H1 H2 hn ⊢
    have HLE := Lib.hid hlE
    clear ho2 hl2 b2 h2 hu2 hok2 hf2 y2 hlE
    go_wp2_with fail
    refine y3.out.mono ?_
    rintro _ w3 ⟨A3, rfl, hu3, _, b3⟩
    rw [← advL_len f l] at *
    obtain ⟨V, hV, hvb, hul⟩ := one_list w3 A3 (advL f l).length (advL f l) hu3
    have y4 := Lib.hid (consolidate_new (some ⟨w3.heap.size, 0, none⟩) 1 _ V hul (fun s hs u hu => by
      obtain rfl : s = ⟨A3, (advL f l).length, advL f l⟩ := by simpa using hs
      exact advL_ok H2.out.2.2 u hu) (by simpa [flatR] using hn) (by simp))
    have h3 : Below w.heap.size w w3 := H2.out.1.trans (b3.mono H2.out.1.size)
    have hV' : Below w.heap.size w V := h3.trans (hvb.mono h3.size)
    have ho3 := (H2.out.2.1.past b3 H2.out.2.1.inside)
    have H3 := Lib.hid (And.intro hV' (ho3.past hvb ho3.inside))
    clear b3 hu3 hvb hul h3 hV' ho3 y3
    go_wp2_with fail
    rw [← hV]
    clear hV
    refine y4.out.mono ?_
    rintro _ w4 ⟨A4, c4, e, rfl, hp, hu4, ho4, b4, hlo⟩
    simp only [List.map_cons, List.map_nil] at hp
    simp only [List.map_cons, List.map_nil]
    have h4 : Below w.heap.size w w4 := H3.out.1.trans (b4.mono H3.out.1.size)
    have hoo := H3.out.2.past b4 H3.out.2.inside
    have hlen : e.length ≤ 1099511627776 := by
      have := consL_len [advL f l]
      rw [← hp, List.length_map] at this
      simp only [List.flatten_cons, List.flatten_nil, List.append_nil] at this
      omega
    obtain ⟨E, hE⟩ : ∃ E, consE [advL f l] = E := ⟨_, rfl⟩
    rw [hE]
    have hbe : bldE f l = E := H1.out.2.2.2.trans hE
    by_cases h0 : E = 0
    case neg =>
      have t1 : (E != 0) = true := bne_iff_ne.2 h0
      have f0 := hoo.open_ 0
      have f1 := hoo.open_ 1
      obtain ⟨d0, d1⟩ := own2 hoo
      have H4 := Lib.hid (And.intro h4 (And.intro hoo (And.intro hbe h0)))
      clear h4 hoo hbe h0 hE hp hu4 ho4 b4 hlo hlen y4
      go_wp2_with fail
      have hX := ((H4.out.2.1.set_ 0 (.slice none 0 0)).set_ 1 (.slice none 0 0))
      obtain ⟨x0, x1⟩ := own2 hX
      have HB := Lib.hid ((H4.out.1.setCell (p := ⟨G, 0, none⟩) (Nat.le_of_eq HG.out.symm) (.slice none 0 0)).setCell (p := ⟨G, 1, none⟩) (Nat.le_of_eq HG.out.symm) (.slice none 0 0))
      have HE := Lib.hid H4.out.2.2
      clear hX f0 f1 d0 d1
      exact bodyPost_ret (v := .tuple #[.agg #[.slice none 0 0, .slice none 0 0], .int .i64 E]) (by simp [results, Tryz.results20, go_sem, x0, x1]) rfl (by rw [HLE.out]; exact ⟨Bt.nil, by rw [HE.out.1]; rfl, fun h => absurd (HE.out.1.symm.trans h) HE.out.2, fun _ => rfl, bt_nil_in _ _, bt_nil_ok, bt_nil_lo _, HB.out⟩)
    subst h0
    have y5 := Lib.hid (listT_times A c f w4 ((HL.out.1.past h4 (Nat.le_refl _)).wide h4.size) (by omega))
    have H4 := Lib.hid (And.intro h4 (And.intro hoo (And.intro hbe (And.intro hp (And.intro hu4 (And.intro ho4 (And.intro hlo hlen)))))))
    clear h4 hoo hbe hE hp hu4 ho4 b4 hlo hlen y4
    go_wp2_with fail
    refine y5.out.mono ?_
    rintro _ w5 ⟨A5, rfl, ht5, hl5, b5⟩
    have h5 : Below w.heap.size w w5 := H4.out.1.trans (b5.mono H4.out.1.size)
    have ho5 := H4.out.2.1.past b5 H4.out.2.1.inside
    have f0 := ho5.open_ 0
    have f1 := ho5.open_ 1
    obtain ⟨d0, d1⟩ := own2 ho5
    have H5 := Lib.hid (And.intro h5 (And.intro ho5 (And.intro ht5 (And.intro hl5 (H4.out.2.2.2.2.1.keep b5)))))
    clear h5 ho5 ht5 hl5 b5 y5
    go_wp2_with fail
    have hX := ((H5.out.2.1.set_ 0 (.slice A5 f.length f.length)).set_ 1 (.slice A4 e.length c4))
    obtain ⟨x0, x1⟩ := own2 hX
    have HB := Lib.hid ((H5.out.1.setCell (p := ⟨G, 0, none⟩) (Nat.le_of_eq HG.out.symm) (.slice A5 f.length f.length)).setCell (p := ⟨G, 1, none⟩) (Nat.le_of_eq HG.out.symm) (.slice A4 e.length c4))
    clear hX f0 f1 d0 d1
    exact bodyPost_ret (v := .tuple #[.agg #[.slice A5 f.length f.length, .slice A4 e.length c4], .int .i64 0]) (by simp [results, Tryz.results20, go_sem, x0, x1]) rfl (by
      rw [HLE.out]
      have hs1 := H4.out.1.size
      have hs3 := H3.out.2.inside
      obtain ⟨s1, s2⟩ := set2_other w5 G (.slice A5 f.length f.length) (.slice A4 e.length c4)
      exact ⟨⟨A5, f.length, f, A4, c4, e⟩, by rw [H4.out.2.2.1]; rfl, fun _ => ⟨H1.out.2.2.1, rfl, H4.out.2.2.2.1⟩, fun h => absurd H4.out.2.2.1 h,
        ⟨times_other H5.out.2.2.1 (fun b o h => by have h1 := (H5.out.2.2.2.1 b o h).1; have h2 := H4.out.2.1.inside; omega) s1 s2, ups_other H5.out.2.2.2.2 (H4.out.2.2.2.2.2.2.1.mono hs3) s1 s2⟩,
        ⟨⟨hfn, Nat.le_refl _, by show f.length ≤ maxLen; unfold maxLen; omega⟩, ⟨H4.out.2.2.2.2.2.2.2, H4.out.2.2.2.2.2.1⟩⟩, ⟨fun b o h => Nat.le_trans H4.out.1.size (H5.out.2.2.2.1 b o h).1, H4.out.2.2.2.2.2.2.1.mono H3.out.1.size⟩, HB.out⟩)
end Go.Proofs.YtllpfngmnccejaaGreat
namespace Go.Proofs.YtllpfngmnccejaaGreat
open Go Go.RowKit

def beyB (l : List Tm) (t : Tm) : Bool := l.any fun u => u.le t
set_option maxRecDepth 100000 in
set_option maxHeartbeats 3200000 in
theorem rbeyond_any (A : Option Addr) (c : Nat) (l : List Tm) (t : Tm) (w : World) (hl : Times w w.heap.size A l) (hn : l.length ≤ maxLen) :
    Calls Tryz.prog 90 #[.slice A l.length c, .agg #[.int .u64 (t.e : Int), .int .u64 (t.a : Int), .int .u64 (t.b : Int)]] w fun e w' => e = .returned (.bool (beyB l t)) ∧ Below w.heap.size w w' := by
  obtain ⟨V, hV, hvb, hvs, hvo⟩ := tm_box w t
  have z1 := fun (s : Tm) W => Lib.hid (refAhead_any s t W)
  unfold Tm.val at z1
  unfold maxLen at hn
  have HV := Lib.hid (And.intro hvb hvo)
  have HL := Lib.hid (hl.past hvb (Nat.le_refl _) |>.wide hvb.size)
  clear hl hvb hvo hvs
  go_enter Tryz.func90, Tryz.ntmps90
  go_upto_region 1 with fail
  rw [← hV]
  clear hV
  go_wp2_with fail
  go_loopw [9] (fun v9 wr => ∃ k : Nat, v9 = .int .i64 (k : Int) ∧ k ≤ l.length ∧ beyB (l.take k) t = false ∧ Below V.heap.size V wr) (fun v9 _ => l.length - (intOf v9).toNat)
  case atStart => exact ⟨0, rfl, by omega, rfl, Below.refl _ _⟩
  case round =>
    obtain ⟨k, rfl, hk, hno, hb⟩ := hrel
    obtain ⟨wi, hwi⟩ : ∃ wi, wi = wr := ⟨_, rfl⟩
    subst hwi
    by_cases hlt : k < l.length
    · have hx : l[k]? = some l[k] := List.getElem?_eq_getElem hlt
      generalize l[k] = u at *
      obtain ⟨b, o, rfl, hB, hcell⟩ := HL.out (by omega)
      obtain ⟨c0, c1, c2⟩ := (hcell k u hx).past hb hB
      obtain ⟨W, hW, hWb, hWs, hWo⟩ := tm_box wi u
      have ho3 := (HV.out.2.past hb HV.out.2.inside).past hWb (HV.out.2.past hb HV.out.2.inside).inside
      have z2 := fun W => z1 u W
      obtain ⟨B, hB'⟩ : ∃ B, u.le t = B := ⟨_, rfl⟩
      rw [hB'] at z2
      have hstep : beyB (l.take (k + 1)) t = B := by unfold beyB at *; rw [List.take_add_one, hx, List.any_append, hno, ← hB']; simp
      have hyes : B = true → beyB l t = true := fun h => by unfold beyB; rw [List.any_eq_true]; exact ⟨u, List.mem_of_getElem? hx, hB'.trans h⟩
      have HO := Lib.hid (And.intro (hb.trans (hWb.mono hb.size)) (And.intro hWo (And.intro ho3 (And.intro hstep hyes))))
      have q0 : (0 : Int) ≤ (k : Int) := by omega
      have q1 : (k : Int) < (l.length : Int) := by omega
      have q2 : decide ((k : Int) < (l.length : Int)) = true := decide_eq_true q1
      clear hno hb hx hcell hWb hWs hWo ho3 hB' hstep hyes
      go_upto_region 4 with fail
      rw [← hW]
      clear hW c0 c1 c2
      obtain ⟨e0, e1, e2⟩ := own3 HO.out.2.1
      obtain ⟨d0, d1, d2⟩ := own3 HO.out.2.2.1
      go_wp2_with fail
      refine (z2 _).out.mono ?_
      rintro _ w3 ⟨rfl, b3⟩
      have H3 := Lib.hid (HO.out.1.trans (b3.mono HO.out.1.size))
      clear b3 z2 e0 e1 e2 d0 d1 d2
      cases B with
      | false =>
        go_wp2_with fail
        go_roundw
        case rel => exact ⟨k + 1, by go_num, by omega, HO.out.2.2.2.1, H3.out⟩
        case measure => simp [intOf]; omega
      | true =>
        go_wp2_with fail
        go_ret
        exact ⟨ret_bool (HO.out.2.2.2.2 (by first | trivial | rfl)).symm, HV.out.1.trans (H3.out.mono HV.out.1.size)⟩
    · have hk2 : k = l.length := by omega
      subst hk2
      rw [List.take_length] at hno
      have HO := Lib.hid (And.intro hno hb)
      have q2 : decide ((l.length : Int) < (l.length : Int)) = false := decide_eq_false (by omega)
      clear hno hb
      go_wp2_with fail
      go_ret
      exact ⟨ret_bool HO.out.1.symm, HV.out.1.trans (HO.out.2.mono HV.out.1.size)⟩
end Go.Proofs.YtllpfngmnccejaaGreat
namespace Go.Proofs.YtllpfngmnccejaaGreat
open Go Go.RowKit

theorem beyB_is (f : List Tm) (t : Tm) : beyB f t = beyond f t := rfl
set_option maxRecDepth 100000 in
set_option maxHeartbeats 3200000 in
theorem rlater_any (A : Option Addr) (c : Nat) (g : List Tm) (A' : Option Addr) (c' : Nat) (f : List Tm) (w : World) (hg : Times w w.heap.size A g) (hgn : g.length ≤ maxLen) (hf : Times w w.heap.size A' f) (hfn : f.length ≤ maxLen) :
    Calls Tryz.prog 42 #[.slice A g.length c, .slice A' f.length c'] w (Tells (LaterF g f) w) := by
  have z1 := fun (t : Tm) W (h : Below w.heap.size w W) => Lib.hid (rbeyond_any A' c' f t W ((hf.past h (Nat.le_refl _)).wide h.size) hfn)
  have HL := Lib.hid hg
  unfold maxLen at hgn hfn
  have hd : LaterF g f ↔ f.length = 0 ∨ 0 < g.length ∧ ∀ x ∈ g, beyB f x = true := by
    unfold LaterF
    rw [List.length_eq_zero_iff, List.length_pos_iff]
    exact Iff.rfl
  have HD := Lib.hid hd
  clear hg hf hd
  go_enter Tryz.func42, Tryz.ntmps42
  by_cases hf0 : f.length = 0
  · have t0 : ((f.length : Int) == 0) = true := by rw [beq_iff_eq]; omega
    have HF := Lib.hid hf0
    clear hf0
    go_wp2_with fail
    go_ret
    exact ⟨true, rfl, ⟨fun _ => HD.out.2 (.inl HF.out), fun _ => rfl⟩, Below.refl _ _⟩
  · have t0 : ((f.length : Int) == 0) = false := by rw [beq_eq_false_iff_ne]; omega
    have HF := Lib.hid hf0
    clear hf0
    go_wp2_with fail
    go_loopw [12] (fun v9 wr => ∃ k : Nat, v9 = .int .i64 (k : Int) ∧ k ≤ g.length ∧ (∀ x ∈ g.take k, beyB f x = true) ∧ Below w.heap.size w wr) (fun v9 _ => g.length - (intOf v9).toNat)
    case atStart => exact ⟨0, rfl, by omega, fun x hx => (by cases hx), Below.refl _ _⟩
    case round =>
      obtain ⟨k, rfl, hk, hno, hb⟩ := hrel
      obtain ⟨wi, hwi⟩ : ∃ wi, wi = wr := ⟨_, rfl⟩
      subst hwi
      by_cases hlt : k < g.length
      · have hx : g[k]? = some g[k] := List.getElem?_eq_getElem hlt
        generalize g[k] = u at *
        obtain ⟨b, o, rfl, hB, hcell⟩ := HL.out (by omega)
        obtain ⟨c0, c1, c2⟩ := (hcell k u hx).past hb hB
        obtain ⟨W, hW, hWb, hWs, hWo⟩ := tm_box wi u
        have z2 := z1 u W (hb.trans (hWb.mono hb.size))
        obtain ⟨B, hB'⟩ : ∃ B, beyB f u = B := ⟨_, rfl⟩
        rw [hB'] at z2
        have hstep : B = true → ∀ x ∈ g.take (k + 1), beyB f x = true := fun h x hx' => by
          rw [List.take_add_one, hx] at hx'
          rcases List.mem_append.1 hx' with hx' | hx'
          · exact hno x hx'
          · obtain rfl : x = u := by simpa using hx'
            exact hB'.trans h
        have hbad : B = false → ¬ ∀ x ∈ g, beyB f x = true := fun h h' => by have := h' u (List.mem_of_getElem? hx); rw [hB', h] at this; cases this
        have HO := Lib.hid (And.intro (hb.trans (hWb.mono hb.size)) (And.intro hWo (And.intro hstep hbad)))
        have q0 : (0 : Int) ≤ (k : Int) := by omega
        have q1 : (k : Int) < (g.length : Int) := by omega
        have q2 : decide ((k : Int) < (g.length : Int)) = true := decide_eq_true q1
        clear hno hb hx hcell hWb hWs hWo hB' hstep hbad
        go_upto_region 6 with fail
        rw [← hW]
        clear hW c0 c1 c2
        obtain ⟨e0, e1, e2⟩ := own3 HO.out.2.1
        go_wp2_with fail
        refine z2.out.mono ?_
        rintro _ w3 ⟨rfl, b3⟩
        have H3 := Lib.hid (HO.out.1.trans (b3.mono HO.out.1.size))
        clear b3 z2 e0 e1 e2
        cases B with
        | true =>
          go_wp2_with fail
          go_roundw
          case rel => exact ⟨k + 1, by go_num, by omega, HO.out.2.2.1 (by first | trivial | rfl), H3.out⟩
          case measure => simp [intOf]; omega
        | false =>
          go_wp2_with fail
          go_ret
          exact ⟨false, rfl, ⟨fun h => (by cases h), fun h => by rcases HD.out.1 h with h | h; exact absurd h HF.out; exact absurd h.2 (HO.out.2.2.2 (by first | trivial | rfl))⟩, H3.out⟩
      · have hk2 : k = g.length := by omega
        subst hk2
        rw [List.take_length] at hno
        have HO := Lib.hid (And.intro hno hb)
        have q2 : decide ((g.length : Int) < (g.length : Int)) = false := decide_eq_false (by omega)
        clear hno hb
        by_cases hg0 : 0 < g.length
        · have t1 : decide (0 < (g.length : Int)) = true := decide_eq_true (by omega)
          have t2 : decide (0 < g.length) = true := decide_eq_true hg0
          have HG := Lib.hid hg0
          clear hg0
          go_wp2_with fail
          go_ret
          exact ⟨_, rfl, ⟨fun _ => HD.out.2 (.inr ⟨HG.out, HO.out.1⟩), fun _ => rfl⟩, HO.out.2⟩
        · have t1 : decide (0 < (g.length : Int)) = false := decide_eq_false (by omega)
          have t2 : decide (0 < g.length) = false := decide_eq_false hg0
          have HG := Lib.hid hg0
          clear hg0
          go_wp2_with fail
          go_ret
          exact ⟨_, rfl, ⟨fun h => (by cases h), fun h => by rcases HD.out.1 h with h | h; exact absurd h HF.out; exact absurd h.1 HG.out⟩, HO.out.2⟩
end Go.Proofs.YtllpfngmnccejaaGreat
namespace Go.Proofs.YtllpfngmnccejaaGreat
open Go Go.RowKit

theorem chkUs_appR : ∀ (a b : List Up), chkUs (a ++ b) = if chkUs a = 0 then chkUs b else chkUs a
  | [], b => by rw [List.nil_append]; unfold chkUs; rw [if_pos rfl]
  | u :: a, b => by
    have ih := chkUs_appR a b
    show (if chkU u = 0 then chkUs (a ++ b) else chkU u) = if (if chkU u = 0 then chkUs a else chkU u) = 0 then chkUs b else (if chkU u = 0 then chkUs a else chkU u)
    by_cases h : chkU u = 0
    · simp only [if_pos h]; exact ih
    · simp only [if_neg h]
theorem chkUs_flatten : ∀ (L : List (List Up)), chkUs L.flatten = chkLs L
  | [] => rfl
  | l :: L => by
    rw [List.flatten_cons, chkUs_appR, chkUs_flatten L]
    rfl
/-- what Build makes -/
def BuiltR (f : List Tm) (l : List Up) (w : World) (x : Ending) (w' : World) : Prop :=
  ∃ b : Bt, x = .returned (.tuple #[b.val, .int .i64 (bldE f l)]) ∧ (bldE f l = 0 → FrontOk f ∧ b.f = f ∧ b.l.map Up.p = consL [advL f l]) ∧ (bldE f l ≠ 0 → b = Bt.nil) ∧ BtIn w' w'.heap.size b ∧ BtOk b ∧ Below w.heap.size w w'
end Go.Proofs.YtllpfngmnccejaaGreat
namespace Go.Proofs.YtllpfngmnccejaaGreat
open Go Go.RowKit

/-- the updates of a key, in their order -/
def grpF (l : List Up) (k : List Vl) : List Up := l.filter fun u => decide (cmpRows u.key k = 0)
theorem grpF_len (l : List Up) (k : List Vl) : (grpF l k).length ≤ l.length := List.length_filter_le ..
theorem grpF_next {l : List Up} {k : List Vl} {j : Nat} {u : Up} (h : l[j]? = some u) : grpF (l.take (j + 1)) k = grpF (l.take j) k ++ if (cmpRows u.key k == 0) = true then [u] else [] := by
  unfold grpF
  rw [List.take_add_one, h, List.filter_append]
  congr 1
  by_cases ht : cmpRows u.key k = 0 <;> simp [ht]
def SeekR (b : Bt) (key : List Vl) (w : World) (x : Ending) (w' : World) : Prop :=
  ∃ (n : Nat) (E : Int), x = .returned (.tuple #[.int .i64 (n : Int), .int .i64 E]) ∧ (BatchOk b.f b.l ∧ n = seekB b.l key ∧ E = 0 ∨ ¬ BatchOk b.f b.l ∧ n = 0 ∧ E = 4) ∧ Below w.heap.size w w'
def GroupR (b : Bt) (key : List Vl) (w : World) (x : Ending) (w' : World) : Prop :=
  ∃ (A : Option Addr) (c : Nat) (outL : List Up) (E : Int), x = .returned (.tuple #[.slice A outL.length c, .int .i64 E]) ∧ (BatchOk b.f b.l ∧ outL.map Up.p = (groupB b.l key).map Up.p ∧ E = 0 ∨ ¬ BatchOk b.f b.l ∧ outL = [] ∧ E = 4) ∧ Ups w' w'.heap.size A outL ∧ UsOk outL ∧ Below w.heap.size w w'
end Go.Proofs.YtllpfngmnccejaaGreat
namespace Go.Proofs.YtllpfngmnccejaaGreat
open Go Go.RowKit

set_option maxRecDepth 100000 in
set_option maxHeartbeats 3200000 in
theorem place_any (a b : Up) (w : World) (ha : UIn w w.heap.size a) (hb : UIn w w.heap.size b) (oa : UOk a) (ob : UOk b) :
    Calls Tryz.prog 73 #[.agg #[.slice a.kA a.key.length a.kc, .slice a.rA a.row.length a.rc, .int .u64 (a.t.e : Int), .int .u64 (a.t.a : Int), .int .u64 (a.t.b : Int), .int .i64 a.d], .agg #[.slice b.kA b.key.length b.kc, .slice b.rA b.row.length b.rc, .int .u64 (b.t.e : Int), .int .u64 (b.t.a : Int), .int .u64 (b.t.b : Int), .int .i64 b.d]] w fun e w' => e = .returned (.int .i64 (plc a b)) ∧ Below w.heap.size w w' := by
  have y1 := fun W h1 h2 => Lib.hid (rows_gr a.kA b.kA a.kc b.kc a.key b.key W h1 h2 (maxn oa.kn) (maxn ob.kn))
  have y2 := fun W h1 h2 => Lib.hid (rows_gr a.rA b.rA a.rc b.rc a.row b.row W h1 h2 (maxn oa.rn) (maxn ob.rn))
  have hc := Lib.hid (show plc a b = if cmpRows a.key b.key = 0 then cmpRows a.row b.row else cmpRows a.key b.key from rfl)
  obtain ⟨W, hW, hg, o1, o2⟩ := two_box w a b
  have HB := Lib.hid (And.intro hg (And.intro o1 (And.intro o2 (And.intro (ha.keep hg.below) (hb.keep hg.below)))))
  obtain ⟨a0, a1, a2, a3, a4, a5⟩ := own6 o1
  obtain ⟨b0, b1, b2, b3, b4, b5⟩ := own6 o2
  generalize cmpRows a.key b.key = x at *
  generalize cmpRows a.row b.row = y at *
  generalize plc a b = z at *
  clear ha hb oa ob hg o1 o2
  go_enter Tryz.func73, Tryz.ntmps73
  go_upto_region 1 with fail
  rw [← hW]
  clear hW
  go_wp2_with fail
  refine (y1 _ HB.out.2.2.2.1.key HB.out.2.2.2.2.key).out.mono ?_
  rintro _ w1 ⟨rfl, g1⟩
  have H1 := Lib.hid (And.intro (HB.out.1.trans g1) (And.intro (HB.out.2.1.past g1.below HB.out.2.1.inside) (And.intro (HB.out.2.2.1.past g1.below HB.out.2.2.1.inside) (And.intro (HB.out.2.2.2.1.keep g1.below) (HB.out.2.2.2.2.keep g1.below)))))
  clear g1 a0 a1 a2 a3 a4 a5 b0 b1 b2 b3 b4 b5 y1
  obtain ⟨a0, a1, a2, a3, a4, a5⟩ := own6 H1.out.2.1
  obtain ⟨b0, b1, b2, b3, b4, b5⟩ := own6 H1.out.2.2.1
  by_cases hx : x = 0
  case neg =>
    have t1 : (x == 0) = false := beq_eq_false_iff_ne.2 hx
    have t2 : (x != 0) = true := bne_iff_ne.2 hx
    rw [if_neg hx] at hc
    clear hx
    go_wp2_with fail
    go_ret
    exact ⟨ret_i64 hc.out.symm, H1.out.1.below⟩
  rw [if_pos hx] at hc
  subst hx
  go_wp2_with fail
  refine (y2 _ H1.out.2.2.2.1.row H1.out.2.2.2.2.row).out.mono ?_
  rintro _ w2 ⟨rfl, g2⟩
  have H2 := Lib.hid (H1.out.1.trans g2)
  clear g2 a0 a1 a2 a3 a4 a5 b0 b1 b2 b3 b4 b5 y2
  go_wp2_with fail
  go_ret
  exact ⟨ret_i64 hc.out.symm, H2.out.below⟩
theorem sub_one {n : Nat} (h : 0 < n) : ((n : Int) - 1) = ((n - 1 : Nat) : Int) := by omega
set_option maxRecDepth 100000 in
set_option maxHeartbeats 12800000 in
theorem divided_any (A : Option Addr) (c : Nat) (l : List Up) (i : Int) (A' : Option Addr) (c' : Nat) (o : List Up) (w : World) (hl : Ups w w.heap.size A l) (hlo : UsOk l) (ho : Ups w w.heap.size A' o) (hoo : UsOk o) (hi : -9223372036854775808 ≤ i ∧ i ≤ 9223372036854775807) :
    Calls Tryz.prog 48 #[.slice A l.length c, .int .i64 i, .slice A' o.length c'] w (Tells (DivB l i o) w) := by
  by_cases h0 : i < 0
  · have t1 : decide (i < 0) = true := decide_eq_true h0
    have HD := Lib.hid (show ¬ DivB l i o from fun h => absurd h.lo (by omega))
    clear h0 hl hlo ho hoo
    go_enter Tryz.func48, Tryz.ntmps48
    go_wp2_with fail
    go_ret
    exact ⟨false, rfl, ⟨fun h => (by cases h), fun h => absurd h HD.out⟩, Below.refl _ _⟩
  have t0 : decide (i < 0) = false := decide_eq_false h0
  obtain ⟨k, rfl⟩ : ∃ k : Nat, i = (k : Int) := ⟨i.toNat, by omega⟩
  by_cases h1 : k > l.length
  · have t1 : decide (l.length < k) = true := decide_eq_true h1
    have HD := Lib.hid (show ¬ DivB l k o from fun h => absurd h.hi (by omega))
    clear h0 h1 hl hlo ho hoo
    go_enter Tryz.func48, Tryz.ntmps48
    go_wp2_with fail
    go_ret
    exact ⟨false, rfl, ⟨fun h => (by cases h), fun h => absurd h HD.out⟩, Below.refl _ _⟩
  have t2 : decide (l.length < k) = false := decide_eq_false (by omega)
  by_cases h2 : k = l.length
  · have HD := Lib.hid (show DivB l k o from ⟨by omega, by omega, fun x y _ _ hy => (by rw [Int.toNat_natCast, h2, List.getElem?_eq_none (Nat.le_refl _)] at hy; cases hy), fun z y _ hy => (by rw [Int.toNat_natCast, h2, List.getElem?_eq_none (Nat.le_refl _)] at hy; cases hy)⟩)
    have t3 : ((k : Int) == (l.length : Int)) = true := by simp [h2]
    clear h0 h1 h2 hl hlo ho hoo
    go_enter Tryz.func48, Tryz.ntmps48
    go_wp2_with fail
    go_ret
    exact ⟨true, rfl, ⟨fun _ => HD.out, fun _ => rfl⟩, Below.refl _ _⟩
  have t3 : ((k : Int) == (l.length : Int)) = false := by simp; omega
  have hkl : k < l.length := by omega
  have hy : l[k]? = some l[k] := List.getElem?_eq_getElem hkl
  have hym := List.mem_of_getElem? hy
  generalize l[k] = y at *
  have hyo := hlo.ok y hym
  have hyn := hl.each_ y hym
  obtain ⟨b, f, rfl, hB, hys⟩ := lies_up hl.head (by omega)
  have hY := fun p : Past w => ((hys k y hy).past_ p.h hB).six
  have hyi := fun p : Past w => (hyn.past p.h (Nat.le_refl _)).wide p.h.size
  have hkn := hlo.n
  have hon := hoo.n
  have hdiv : ∀ (h1 : 0 < k → ∀ x, l[k - 1]? = some x → plc x y < 0) (h2 : ∀ z, o[o.length - 1]? = some z → plc z y < 0), DivB l k o := fun h1 h2 => ⟨by omega, by omega, fun x y' hk hx hy' => (by
    rw [Int.toNat_natCast] at hx hy'
    rw [hy] at hy'
    cases hy'
    exact h1 (by omega) x hx), fun z y' hz hy' => (by
    rw [Int.toNat_natCast, hy] at hy'
    cases hy'
    exact h2 z hz)⟩
  have hno1 : ∀ x, 0 < k → l[k - 1]? = some x → ¬ plc x y < 0 → ¬ DivB l k o := fun x hk hx hn h => hn (h.side x y (by omega) (by rw [Int.toNat_natCast]; exact hx) (by rw [Int.toNat_natCast]; exact hy))
  have hno2 : ∀ z, o[o.length - 1]? = some z → ¬ plc z y < 0 → ¬ DivB l k o := fun z hz hn h => hn (h.past z y hz (by rw [Int.toNat_natCast]; exact hy))
  have q0 : (0 : Int) ≤ (k : Int) := by omega
  have q1 : (k : Int) < (l.length : Int) := by omega
  by_cases hk0 : 0 < k
  case neg =>
    have t4 : ((k : Int) == 0) = true := by simp; omega
    by_cases hn0 : 0 < o.length
    case neg =>
      have t5 : ((o.length : Int) == 0) = true := beq_iff_eq.2 (by omega)
      have HD := Lib.hid (hdiv (fun h => absurd h hk0) fun z hz => by rw [List.getElem?_eq_none (by omega)] at hz; cases hz)
      clear hl hlo ho hoo hy hym hyo hyn hys hyi hkl h0 h1 h2 hdiv hno1 hno2 hk0 hn0 hY
      go_enter Tryz.func48, Tryz.ntmps48
      go_upto_region 6 with fail
      refine wp_region_past w (by kernel_rfl) (by kernel_rfl) (Below.refl _ _) ?_
      repeat (first | go_big_quiet_step (fail) | quiet_step (fail))
      refine wpQuiet_nil ?_
      intro wz hw'
      obtain ⟨⟨wy, hbz⟩, hw''⟩ := hw'
      dsimp only at hw''
      subst hw''
      have HZ := Lib.hid hbz
      clear hbz
      go_wp2_with fail
      go_ret
      exact ⟨true, rfl, ⟨fun _ => HD.out, fun _ => rfl⟩, HZ.out⟩
    case pos =>
      have hz : o[o.length - 1]? = some o[o.length - 1] := List.getElem?_eq_getElem (by omega)
      have hzm := List.mem_of_getElem? hz
      generalize o[o.length - 1] = z at *
      have hzo := hoo.ok z hzm
      have hzn := ho.each_ z hzm
      obtain ⟨b', f', rfl, hB', hzs⟩ := lies_up ho.head hn0
      have hZ := fun p : Past w => ((hzs (o.length - 1) z hz).past_ p.h hB').six
      have hzi := fun p : Past w => (hzn.past p.h (Nat.le_refl _)).wide p.h.size
      have u2 := fun p : Past w => calls_past (place_any z y p.w (hzi p) (hyi p) hzo hyo)
      have hn1 := sub_one hn0
      have r0 : (0 : Int) ≤ ((o.length - 1 : Nat) : Int) := by omega
      have r1 : ((o.length - 1 : Nat) : Int) < (o.length : Int) := by omega
      have r2 : IntKind.i64.wrap ((o.length : Int) - 1) = ((o.length - 1 : Nat) : Int) := by rw [IntWalk.i64_in _ (by omega)]; exact hn1
      have t5 : ((o.length : Int) == 0) = false := beq_eq_false_iff_ne.2 (by omega)
      by_cases hp : plc z y < 0
      · have HD := Lib.hid (hdiv (fun h => absurd h hk0) fun z' hz' => by rw [hz] at hz'; cases hz'; exact hp)
        generalize plc z y = pz at *
        have t6 : decide (pz < 0) = true := decide_eq_true hp
        clear hl hlo ho hoo hy hym hyo hyn hys hyi hkl h0 h1 h2 hdiv hno1 hno2 hk0 hn0 hp hz hzm hzo hzn hzs hzi hn1
        go_enter Tryz.func48, Tryz.ntmps48
        go_upto_region 6 with fail
        refine wp_region_past w (by kernel_rfl) (by kernel_rfl) (Below.refl _ _) ?_
        repeat (first | go_big_quiet_step (fail) | quiet_step (fail))
        quiet_step ((go_at_call 73; exact u2 _))
        repeat (first | go_big_quiet_step (fail) | quiet_step (fail))
        refine wpQuiet_nil ?_
        intro wz hw'
        obtain ⟨⟨wy, hbz⟩, hw''⟩ := hw'
        dsimp only at hw''
        subst hw''
        have HZ := Lib.hid hbz
        clear hbz
        go_wp2_with fail
        go_ret
        exact ⟨true, rfl, ⟨fun _ => HD.out, fun _ => rfl⟩, HZ.out⟩
      · have HD := Lib.hid (hno2 z hz hp)
        generalize plc z y = pz at *
        have t6 : decide (pz < 0) = false := decide_eq_false hp
        clear hl hlo ho hoo hy hym hyo hyn hys hyi hkl h0 h1 h2 hdiv hno1 hno2 hk0 hn0 hp hz hzm hzo hzn hzs hzi hn1
        go_enter Tryz.func48, Tryz.ntmps48
        go_upto_region 6 with fail
        refine wp_region_past w (by kernel_rfl) (by kernel_rfl) (Below.refl _ _) ?_
        repeat (first | go_big_quiet_step (fail) | quiet_step (fail))
        quiet_step ((go_at_call 73; exact u2 _))
        repeat (first | go_big_quiet_step (fail) | quiet_step (fail))
        refine wpQuiet_nil ?_
        intro wz hw'
        obtain ⟨⟨wy, hbz⟩, hw''⟩ := hw'
        dsimp only at hw''
        subst hw''
        have HZ := Lib.hid hbz
        clear hbz
        go_wp2_with fail
        go_ret
        exact ⟨false, rfl, ⟨fun h => (by cases h), fun h => absurd h HD.out⟩, HZ.out⟩
  case pos =>
    have hkp : k - 1 < l.length := by omega
    have hx : l[k - 1]? = some l[k - 1] := List.getElem?_eq_getElem hkp
    have hxm := List.mem_of_getElem? hx
    generalize l[k - 1] = x at *
    have hxo := hlo.ok x hxm
    have hxn := hl.each_ x hxm
    have hX := fun p : Past w => ((hys (k - 1) x hx).past_ p.h hB).six
    have hxi := fun p : Past w => (hxn.past p.h (Nat.le_refl _)).wide p.h.size
    have u1 := fun p : Past w => calls_past (place_any x y p.w (hxi p) (hyi p) hxo hyo)
    have hk1 := sub_one hk0
    have s0 : (0 : Int) ≤ ((k - 1 : Nat) : Int) := by omega
    have s1 : ((k - 1 : Nat) : Int) < (l.length : Int) := by omega
    have s2 : IntKind.i64.wrap ((k : Int) - 1) = ((k - 1 : Nat) : Int) := by rw [IntWalk.i64_in _ (by omega)]; exact hk1
    have t4 : ((k : Int) == 0) = false := by simp; omega
    by_cases hp1 : plc x y < 0
    case neg =>
      have HD := Lib.hid (hno1 x hk0 hx hp1)
      generalize plc x y = px at *
      have t7 : decide (px < 0) = false := decide_eq_false hp1
      clear hl hlo ho hoo hy hym hyo hyn hys hyi hkl h0 h1 h2 hdiv hno1 hno2 hk0 hp1 hx hxm hxo hxn hxi hk1 hkp
      go_enter Tryz.func48, Tryz.ntmps48
      go_upto_region 6 with fail
      refine wp_region_past w (by kernel_rfl) (by kernel_rfl) (Below.refl _ _) ?_
      repeat (first | go_big_quiet_step (fail) | quiet_step (fail))
      quiet_step ((go_at_call 73; exact u1 _))
      repeat (first | go_big_quiet_step (fail) | quiet_step (fail))
      refine wpQuiet_nil ?_
      intro wz hw'
      obtain ⟨⟨wy, hbz⟩, hw''⟩ := hw'
      dsimp only at hw''
      subst hw''
      have HZ := Lib.hid hbz
      clear hbz
      go_wp2_with fail
      go_ret
      exact ⟨false, rfl, ⟨fun h => (by cases h), fun h => absurd h HD.out⟩, HZ.out⟩
    case pos =>
      by_cases hn0 : 0 < o.length
      case neg =>
        have t5 : ((o.length : Int) == 0) = true := beq_iff_eq.2 (by omega)
        have HD := Lib.hid (hdiv (fun _ x' hx' => by rw [hx] at hx'; cases hx'; exact hp1) fun z hz => by rw [List.getElem?_eq_none (by omega)] at hz; cases hz)
        generalize plc x y = px at *
        have t7 : decide (px < 0) = true := decide_eq_true hp1
        clear hl hlo ho hoo hy hym hyo hyn hys hyi hkl h0 h1 h2 hdiv hno1 hno2 hk0 hn0 hp1 hx hxm hxo hxn hxi hk1 hkp
        go_enter Tryz.func48, Tryz.ntmps48
        go_upto_region 6 with fail
        refine wp_region_past w (by kernel_rfl) (by kernel_rfl) (Below.refl _ _) ?_
        repeat (first | go_big_quiet_step (fail) | quiet_step (fail))
        quiet_step ((go_at_call 73; exact u1 _))
        repeat (first | go_big_quiet_step (fail) | quiet_step (fail))
        refine wpQuiet_nil ?_
        intro wz hw'
        obtain ⟨⟨wy, hbz⟩, hw''⟩ := hw'
        dsimp only at hw''
        subst hw''
        have HZ := Lib.hid hbz
        clear hbz
        go_wp2_with fail
        go_ret
        exact ⟨true, rfl, ⟨fun _ => HD.out, fun _ => rfl⟩, HZ.out⟩
      case pos =>
        have hz : o[o.length - 1]? = some o[o.length - 1] := List.getElem?_eq_getElem (by omega)
        have hzm := List.mem_of_getElem? hz
        generalize o[o.length - 1] = z at *
        have hzo := hoo.ok z hzm
        have hzn := ho.each_ z hzm
        obtain ⟨b', f', rfl, hB', hzs⟩ := lies_up ho.head hn0
        have hZ := fun p : Past w => ((hzs (o.length - 1) z hz).past_ p.h hB').six
        have hzi := fun p : Past w => (hzn.past p.h (Nat.le_refl _)).wide p.h.size
        have u2 := fun p : Past w => calls_past (place_any z y p.w (hzi p) (hyi p) hzo hyo)
        have hn1 := sub_one hn0
        have r0 : (0 : Int) ≤ ((o.length - 1 : Nat) : Int) := by omega
        have r1 : ((o.length - 1 : Nat) : Int) < (o.length : Int) := by omega
        have r2 : IntKind.i64.wrap ((o.length : Int) - 1) = ((o.length - 1 : Nat) : Int) := by rw [IntWalk.i64_in _ (by omega)]; exact hn1
        have t5 : ((o.length : Int) == 0) = false := beq_eq_false_iff_ne.2 (by omega)
        by_cases hp : plc z y < 0
        · have HD := Lib.hid (hdiv (fun _ x' hx' => by rw [hx] at hx'; cases hx'; exact hp1) fun z' hz' => by rw [hz] at hz'; cases hz'; exact hp)
          generalize plc z y = pz at *
          generalize plc x y = px at *
          have t6 : decide (pz < 0) = true := decide_eq_true hp
          have t7 : decide (px < 0) = true := decide_eq_true hp1
          clear hl hlo ho hoo hy hym hyo hyn hys hyi hkl h0 h1 h2 hdiv hno1 hno2 hk0 hn0 hp hp1 hx hxm hxo hxn hxi hk1 hkp hz hzm hzo hzn hzs hzi hn1
          go_enter Tryz.func48, Tryz.ntmps48
          go_upto_region 6 with fail
          refine wp_region_past w (by kernel_rfl) (by kernel_rfl) (Below.refl _ _) ?_
          repeat (first | go_big_quiet_step (fail) | quiet_step (fail))
          quiet_step ((go_at_call 73; exact u1 _))
          repeat (first | go_big_quiet_step (fail) | quiet_step (fail))
          quiet_step ((go_at_call 73; exact u2 _))
          repeat (first | go_big_quiet_step (fail) | quiet_step (fail))
          refine wpQuiet_nil ?_
          intro wz hw'
          obtain ⟨⟨wy, hbz⟩, hw''⟩ := hw'
          dsimp only at hw''
          subst hw''
          have HZ := Lib.hid hbz
          clear hbz
          go_wp2_with fail
          go_ret
          exact ⟨true, rfl, ⟨fun _ => HD.out, fun _ => rfl⟩, HZ.out⟩
        · have HD := Lib.hid (hno2 z hz hp)
          generalize plc z y = pz at *
          generalize plc x y = px at *
          have t6 : decide (pz < 0) = false := decide_eq_false hp
          have t7 : decide (px < 0) = true := decide_eq_true hp1
          clear hl hlo ho hoo hy hym hyo hyn hys hyi hkl h0 h1 h2 hdiv hno1 hno2 hk0 hn0 hp hp1 hx hxm hxo hxn hxi hk1 hkp hz hzm hzo hzn hzs hzi hn1
          go_enter Tryz.func48, Tryz.ntmps48
          go_upto_region 6 with fail
          refine wp_region_past w (by kernel_rfl) (by kernel_rfl) (Below.refl _ _) ?_
          repeat (first | go_big_quiet_step (fail) | quiet_step (fail))
          quiet_step ((go_at_call 73; exact u1 _))
          repeat (first | go_big_quiet_step (fail) | quiet_step (fail))
          quiet_step ((go_at_call 73; exact u2 _))
          repeat (first | go_big_quiet_step (fail) | quiet_step (fail))
          refine wpQuiet_nil ?_
          intro wz hw'
          obtain ⟨⟨wy, hbz⟩, hw''⟩ := hw'
          dsimp only at hw''
          subst hw''
          have HZ := Lib.hid hbz
          clear hbz
          go_wp2_with fail
          go_ret
          exact ⟨false, rfl, ⟨fun h => (by cases h), fun h => absurd h HD.out⟩, HZ.out⟩
end Go.Proofs.YtllpfngmnccejaaGreat
