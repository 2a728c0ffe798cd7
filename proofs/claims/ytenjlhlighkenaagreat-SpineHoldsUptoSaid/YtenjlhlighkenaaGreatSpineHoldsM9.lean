/- Part 9 of the texts on which SpineHolds rests: facts and contracts. -/
import Derived.Test.YtenjlhlighkenaaGreatSpineHoldsM8
import Derived.Test.YtenjlhlighkenaaGreatShelf
namespace Go.Proofs.YtenjlhlighkenaaGreat
open Go Go.RowKit

structure LvIn (w : World) (B : Nat) (l : Lv) : Prop where
  b : BtIn w B l.b
  m : MgIn w B l.m
theorem LvIn.past {w w' : World} {B B' : Nat} {l : Lv} (h : LvIn w B l) (hb : Below B' w w') (hB : B ≤ B') : LvIn w' B l := ⟨h.b.past hb hB, h.m.past hb hB⟩
theorem LvIn.wide {w : World} {B B' : Nat} {l : Lv} (h : LvIn w B l) (hB : B ≤ B') : LvIn w B' l := ⟨h.b.wide hB, h.m.wide hB⟩
theorem LvIn.keep {w w' : World} {l : Lv} (h : LvIn w w.heap.size l) (hb : Below w.heap.size w w') : LvIn w' w'.heap.size l := ⟨h.b.keep hb, h.m.keep hb⟩
structure McOk (m : Mg) : Prop where
  a : m.a.length ≤ m.ac
  an : m.ac ≤ maxLen
  b : m.b.length ≤ m.bc
  bn : m.bc ≤ maxLen
theorem mc_nil : McOk Mg.nil := ⟨Nat.le_refl _, Nat.zero_le _, Nat.le_refl _, Nat.zero_le _⟩
theorem mc_of {m : Mg} (ok : MgOk m) (h : m.ac = m.a.length ∧ m.bc = m.b.length) : McOk m := by
  have h1 := ok.a.n
  have h2 := ok.b.n
  exact ⟨by omega, by unfold maxLen; omega, by omega, by unfold maxLen; omega⟩
structure LvOk (l : Lv) : Prop where
  c : -9223372036854775808 ≤ l.cls ∧ l.cls ≤ 9223372036854775807
  b : BtOk l.b
  m : MgOk l.m
  cap : McOk l.m
structure LvLo (B : Nat) (l : Lv) : Prop where
  b : BtLo B l.b
  m : MgLo B l.m
theorem LvLo.mono {B B' : Nat} {l : Lv} (h : LvLo B l) (hB : B' ≤ B) : LvLo B' l := ⟨h.b.mono hB, h.m.mono hB⟩
structure Lvs (w : World) (B : Nat) (A : Option Addr) (L : List Lv) : Prop where
  head : Lies 10 Lv.cells w B A L
  each_ : ∀ l ∈ L, LvIn w B l
theorem Lvs.past {w w' : World} {B B' : Nat} {A : Option Addr} {L : List Lv} (h : Lvs w B A L) (hb : Below B' w w') (hB : B ≤ B') : Lvs w' B A L := ⟨h.head.past hb hB, fun l hl => (h.each_ l hl).past hb hB⟩
theorem Lvs.wide {w : World} {B B' : Nat} {A : Option Addr} {L : List Lv} (h : Lvs w B A L) (hB : B ≤ B') : Lvs w B' A L := ⟨h.head.wide hB, fun l hl => (h.each_ l hl).wide hB⟩
theorem Lvs.keep {w w' : World} {A : Option Addr} {L : List Lv} (h : Lvs w w.heap.size A L) (hb : Below w.heap.size w w') : Lvs w' w'.heap.size A L := (h.past hb (Nat.le_refl _)).wide hb.size
structure Sp where
  sA : Option Addr
  sc : Nat
  f : List Tm
  lA : Option Addr
  lc : Nat
  L : List Lv
namespace Sp
def cells (s : Sp) : List Value := [.slice s.sA s.f.length s.sc, .slice s.lA s.L.length s.lc]
def val (s : Sp) : Value := .agg #[.slice s.sA s.f.length s.sc, .slice s.lA s.L.length s.lc]
def nil : Sp := ⟨none, 0, [], none, 0, []⟩
end Sp
structure SpIn (w : World) (B : Nat) (s : Sp) : Prop where
  since : Times w B s.sA s.f
  lev : Lvs w B s.lA s.L
theorem SpIn.past {w w' : World} {B B' : Nat} {s : Sp} (h : SpIn w B s) (hb : Below B' w w') (hB : B ≤ B') : SpIn w' B s := ⟨h.since.past hb hB, h.lev.past hb hB⟩
theorem SpIn.wide {w : World} {B B' : Nat} {s : Sp} (h : SpIn w B s) (hB : B ≤ B') : SpIn w B' s := ⟨h.since.wide hB, h.lev.wide hB⟩
theorem SpIn.keep {w w' : World} {s : Sp} (h : SpIn w w.heap.size s) (hb : Below w.heap.size w w') : SpIn w' w'.heap.size s := (h.past hb (Nat.le_refl _)).wide hb.size
structure SpOk (s : Sp) : Prop where
  f : TsOk s.f s.sc
  n : s.L.length ≤ 1048576
  le : s.L.length ≤ s.lc
  c_ : s.lc ≤ maxLen
  each_ : ∀ l ∈ s.L, LvOk l
structure SpLo (B : Nat) (s : Sp) : Prop where
  f : LoT B s.sA
  l : LoT B s.lA
  each_ : ∀ l ∈ s.L, LvLo B l
theorem sp_nil_in (w : World) (B : Nat) : SpIn w B Sp.nil := ⟨Times.nil_, ⟨Lies.nil_, fun l hl => by cases hl⟩⟩
theorem sp_nil_ok : SpOk Sp.nil := ⟨ts_nil, by decide, Nat.le_refl _, Nat.zero_le _, fun l hl => by cases hl⟩
theorem sp_nil_lo (B : Nat) : SpLo B Sp.nil := ⟨lot_nil B, lot_nil B, fun l hl => by cases hl⟩
def OfT (S : Nat → Prop) (A : Option Addr) (n : Nat) : Prop := 0 < n → ∀ b o, A = some (⟨b, o, none⟩ : Addr) → ¬ S b
def OfU (S : Nat → Prop) (A : Option Addr) (l : List Up) : Prop := OfT S A l.length ∧ ∀ u ∈ l, OfT S u.kA u.key.length ∧ OfT S u.rA u.row.length
structure OfB (S : Nat → Prop) (b : Bt) : Prop where
  f : OfT S b.sA b.f.length
  l : OfU S b.uA b.l
structure OfM (S : Nat → Prop) (m : Mg) : Prop where
  a : OfU S m.aA m.a
  b : OfU S m.bA m.b
  f : OfT S m.sA m.f.length
  o : OfU S m.oA m.o
structure OfL (S : Nat → Prop) (l : Lv) : Prop where
  b : OfB S l.b
  m : OfM S l.m
section
variable {S T : Nat → Prop} {B : Nat}
theorem LoT.of {A : Option Addr} {n : Nat} (h : LoT B A) (hS : ∀ k, S k → k < B) : OfT S A n := fun _ b o e hs => by have := h b o e; have := hS b hs; omega
theorem Lo.of {A : Option Addr} {l : List Up} (h : Lo B A l) (hS : ∀ k, S k → k < B) : OfU S A l :=
  ⟨fun _ b o e hs => by have := h.1 b o e; have := hS b hs; omega, fun u hu => ⟨fun _ b o e hs => by have := h.2 u hu b o (.inl e); have := hS b hs; omega, fun _ b o e hs => by have := h.2 u hu b o (.inr e); have := hS b hs; omega⟩⟩
theorem BtLo.of {b : Bt} (h : BtLo B b) (hS : ∀ k, S k → k < B) : OfB S b := ⟨h.f.of hS, h.l.of hS⟩
theorem MgLo.of {m : Mg} (h : MgLo B m) (hS : ∀ k, S k → k < B) : OfM S m := ⟨h.a.of hS, h.b.of hS, h.f.of hS, h.o.of hS⟩
theorem LvLo.of {l : Lv} (h : LvLo B l) (hS : ∀ k, S k → k < B) : OfL S l := ⟨h.b.of hS, h.m.of hS⟩
theorem OfT.less {A : Option Addr} {n : Nat} (h : OfT S A n) (hT : ∀ k, T k → S k) : OfT T A n := fun hp b o e ht => h hp b o e (hT b ht)
theorem OfU.less {A : Option Addr} {l : List Up} (h : OfU S A l) (hT : ∀ k, T k → S k) : OfU T A l := ⟨h.1.less hT, fun u hu => ⟨(h.2 u hu).1.less hT, (h.2 u hu).2.less hT⟩⟩
theorem OfB.less {b : Bt} (h : OfB S b) (hT : ∀ k, T k → S k) : OfB T b := ⟨h.f.less hT, h.l.less hT⟩
theorem OfM.less {m : Mg} (h : OfM S m) (hT : ∀ k, T k → S k) : OfM T m := ⟨h.a.less hT, h.b.less hT, h.f.less hT, h.o.less hT⟩
theorem OfL.less {l : Lv} (h : OfL S l) (hT : ∀ k, T k → S k) : OfL T l := ⟨h.b.less hT, h.m.less hT⟩
theorem OfT.or {A : Option Addr} {n : Nat} (h : OfT S A n) (k : OfT T A n) : OfT (fun b => S b ∨ T b) A n := fun hp b o e hx => hx.elim (h hp b o e) (k hp b o e)
theorem OfU.or {A : Option Addr} {l : List Up} (h : OfU S A l) (k : OfU T A l) : OfU (fun b => S b ∨ T b) A l := ⟨h.1.or k.1, fun u hu => ⟨(h.2 u hu).1.or (k.2 u hu).1, (h.2 u hu).2.or (k.2 u hu).2⟩⟩
theorem OfB.or {b : Bt} (h : OfB S b) (k : OfB T b) : OfB (fun x => S x ∨ T x) b := ⟨h.f.or k.f, h.l.or k.l⟩
theorem OfM.or {m : Mg} (h : OfM S m) (k : OfM T m) : OfM (fun x => S x ∨ T x) m := ⟨h.a.or k.a, h.b.or k.b, h.f.or k.f, h.o.or k.o⟩
theorem OfL.or {l : Lv} (h : OfL S l) (k : OfL T l) : OfL (fun x => S x ∨ T x) l := ⟨h.b.or k.b, h.m.or k.m⟩
theorem at_block {b b' o o' : Nat} {A : Option Addr} (e : A = some (⟨b, o, none⟩ : Addr)) (e' : A = some ⟨b', o', none⟩) : b = b' := by
  rw [e] at e'
  simp only [Option.some.injEq, Addr.mk.injEq, and_true] at e'
  exact e'.1
theorem times_in {w : World} {A : Option Addr} {l : List Tm} (h : Times w B A l) : OfT (fun k => B ≤ k) A l.length := fun hp b o e hs => by
  obtain ⟨b', o', e', hb, _⟩ := h hp
  have := at_block e e'; omega
theorem vals_in {w : World} {A : Option Addr} {l : List Vl} (h : Vals w B A l) : OfT (fun k => B ≤ k) A l.length := fun hp b o e hs => by
  obtain ⟨b', o', e', hb, _⟩ := h hp
  have := at_block e e'; omega
theorem ups_in {w : World} {A : Option Addr} {l : List Up} (h : Ups w B A l) : OfU (fun k => B ≤ k) A l :=
  ⟨fun hp b o e hs => by
    obtain ⟨b', o', e', hb, _⟩ := h.head hp
    have := at_block e e'; omega, fun u hu => ⟨vals_in (h.each_ u hu).key, vals_in (h.each_ u hu).row⟩⟩
theorem bt_in {w : World} {b : Bt} (h : BtIn w B b) : OfB (fun k => B ≤ k) b := ⟨times_in h.since, ups_in h.ups⟩
theorem mg_in {w : World} {m : Mg} (h : MgIn w B m) : OfM (fun k => B ≤ k) m := ⟨ups_in h.a, ups_in h.b, times_in h.f, ups_in h.o⟩
theorem lv_in {w : World} {l : Lv} (h : LvIn w B l) : OfL (fun k => B ≤ k) l := ⟨bt_in h.b, mg_in h.m⟩
end
theorem times_kept {w w' : World} {S : Nat → Prop} {A : Option Addr} {l : List Tm} (h : Times w w.heap.size A l) (ho : OfT S A l.length) (k : KeptK w w' S) : Times w' w'.heap.size A l := fun hp => by
  obtain ⟨b, o, e, hb, hc⟩ := h hp
  have hk : ∀ j, w'.cell? ⟨b, j, none⟩ = w.cell? ⟨b, j, none⟩ := fun j => by unfold World.cell?; rw [k.block b hb (ho hp b o e)]
  refine ⟨b, o, e, Nat.lt_of_lt_of_le hb k.size, fun i v hi => ?_⟩
  obtain ⟨a0, a1, a2⟩ := hc i v hi
  exact ⟨(hk _).trans a0, (hk _).trans a1, (hk _).trans a2⟩
theorem vals_kept {w w' : World} {S : Nat → Prop} {A : Option Addr} {l : List Vl} (h : Vals w w.heap.size A l) (ho : OfT S A l.length) (k : KeptK w w' S) : Vals w' w'.heap.size A l := fun hp => by
  obtain ⟨b, o, e, hb, hc⟩ := h hp
  have hk : ∀ j, w'.cell? ⟨b, j, none⟩ = w.cell? ⟨b, j, none⟩ := fun j => by unfold World.cell?; rw [k.block b hb (ho hp b o e)]
  refine ⟨b, o, e, Nat.lt_of_lt_of_le hb k.size, fun i v hi => ?_⟩
  obtain ⟨a0, a1, a2⟩ := hc i v hi
  exact ⟨(hk _).trans a0, (hk _).trans a1, (hk _).trans a2⟩
theorem lies_kept {α : Type} {size : Nat} {cells : α → List Value} {w w' : World} {S : Nat → Prop} {A : Option Addr} {l : List α} (h : Lies size cells w w.heap.size A l) (ho : OfT S A l.length) (k : KeptK w w' S) : Lies size cells w' w'.heap.size A l := fun hp => by
  obtain ⟨b, o, e, hb, hc⟩ := h hp
  refine ⟨b, o, e, Nat.lt_of_lt_of_le hb k.size, fun i x hi j u hj => ?_⟩
  rw [← hc i x hi j u hj]
  unfold World.cell?
  rw [k.block b hb (ho hp b o e)]
theorem ups_kept {w w' : World} {S : Nat → Prop} {A : Option Addr} {l : List Up} (h : Ups w w.heap.size A l) (ho : OfU S A l) (k : KeptK w w' S) : Ups w' w'.heap.size A l :=
  ⟨lies_kept h.head ho.1 k, fun u hu => ⟨vals_kept (h.each_ u hu).key (ho.2 u hu).1 k, vals_kept (h.each_ u hu).row (ho.2 u hu).2 k⟩⟩
theorem bt_kept {w w' : World} {S : Nat → Prop} {b : Bt} (h : BtIn w w.heap.size b) (ho : OfB S b) (k : KeptK w w' S) : BtIn w' w'.heap.size b := ⟨times_kept h.since ho.f k, ups_kept h.ups ho.l k⟩
theorem mg_kept {w w' : World} {S : Nat → Prop} {m : Mg} (h : MgIn w w.heap.size m) (ho : OfM S m) (k : KeptK w w' S) : MgIn w' w'.heap.size m := ⟨ups_kept h.a ho.a k, ups_kept h.b ho.b k, times_kept h.f ho.f k, ups_kept h.o ho.o k⟩
theorem lv_kept {w w' : World} {S : Nat → Prop} {l : Lv} (h : LvIn w w.heap.size l) (ho : OfL S l) (k : KeptK w w' S) : LvIn w' w'.heap.size l := ⟨bt_kept h.b ho.b k, mg_kept h.m ho.m k⟩
def blkS (A : Option Addr) : Option Nat := A.map (·.block)
theorem blkS_own (A : Option Addr) (n c : Nat) : (Value.slice A n c).ownBlock = blkS A := by cases A <;> rfl
def SpS (g : Nat) (A : Option Addr) (k : Nat) : Prop := k = g ∨ blkS A = some k
structure Wk (W : World) (base g : Nat) (s : Sp) : Prop where
  own : Own W g 71 s.cells
  row : W.ownsRow base 65 10 (.slice s.lA s.L.length s.lc) s.L.length (s.L.flatMap Lv.cells)
  out : blkS s.lA ≠ some g
  since : Times W W.heap.size s.sA s.f
  soff : OfT (SpS g s.lA) s.sA s.f.length
  lev : ∀ l ∈ s.L, LvIn W W.heap.size l
  loff : ∀ l ∈ s.L, OfL (SpS g s.lA) l
  ok : SpOk s
  slo : LoT base s.sA
  lo : ∀ l ∈ s.L, LvLo base l
  low : base ≤ g
  base_ : base ≤ W.heap.size
theorem Wk.lt {W : World} {base g : Nat} {s : Sp} (h : Wk W base g s) : ∀ k, SpS g s.lA k → base ≤ k ∧ k < W.heap.size := by
  rintro k (rfl | hk)
  · exact ⟨h.low, h.own.inside⟩
  · exact h.row.lt k (by rw [blkS_own]; exact hk)
theorem Wk.past {W W' : World} {base g : Nat} {s : Sp} (h : Wk W base g s) (hb : Below W.heap.size W W') : Wk W' base g s :=
  ⟨h.own.past hb h.own.inside, own_below h.row hb, h.out, (h.since.past hb (Nat.le_refl _)).wide hb.size, h.soff, fun l hl => (h.lev l hl).keep hb, h.loff, h.ok, h.slo, h.lo, h.low, Nat.le_trans h.base_ hb.size⟩
theorem level_rows {l : List Lv} (k : Nat) : (l.flatMap Lv.cells).take (k * 10) = (l.take k).flatMap Lv.cells := by
  induction l generalizing k with
  | nil => simp
  | cons x l ih =>
    cases k with
    | zero => simp
    | succ k =>
      rw [List.flatMap_cons, List.take_succ_cons, List.flatMap_cons, ← ih k, show (k + 1) * 10 = x.cells.length + k * 10 by show _ = 10 + _; omega, List.take_length_add_append]
theorem level_rowsD {l : List Lv} (k : Nat) : (l.flatMap Lv.cells).drop (k * 10) = (l.drop k).flatMap Lv.cells := by
  induction l generalizing k with
  | nil => simp
  | cons x l ih =>
    cases k with
    | zero => simp
    | succ k =>
      rw [List.flatMap_cons, List.drop_succ_cons, ← ih k, show (k + 1) * 10 = x.cells.length + k * 10 by show _ = 10 + _; omega, List.drop_length_add_append]
theorem lflat_len (l : List Lv) : (l.flatMap Lv.cells).length = l.length * 10 := flat_size (size := 10) (cells := Lv.cells) (fun _ => rfl) l
theorem Wk.lies {W : World} {base g : Nat} {s : Sp} (h : Wk W base g s) : Lvs W W.heap.size s.lA s.L := by
  refine ⟨fun hp => ?_, h.lev⟩
  rcases row_ownK h.row with ⟨_, h0, _⟩ | ⟨G, cur, hA, hb, hg, hn, hm, hl, ht⟩
  · omega
  · refine ⟨G, 0, hA, hg.inside, fun i x hi j u hj => ?_⟩
    have hlt := (List.getElem?_eq_some_iff.1 hi).1
    have hj10 : j < 10 := (List.getElem?_eq_some_iff.1 hj).1
    rw [show 0 + i * 10 + j = i * 10 + j by omega, hg.at_]
    have h1 : (s.L.flatMap Lv.cells)[i * 10 + j]? = some u := by
      have e := level_rowsD (l := s.L) i
      have h2 : ((s.L.flatMap Lv.cells).drop (i * 10))[j]? = some u := by
        rw [e, List.drop_eq_getElem_cons hlt, List.flatMap_cons]
        have : s.L[i] = x := by rw [List.getElem?_eq_getElem hlt] at hi; injection hi
        rw [this, List.getElem?_append_left (by exact hj10)]
        exact hj
      rwa [List.getElem?_drop] at h2
    rw [← ht, List.getElem?_take] at h1
    split at h1
    · exact h1
    · cases h1
end Go.Proofs.YtenjlhlighkenaaGreat
namespace Go.Proofs.YtenjlhlighkenaaGreat
open Go Go.RowKit

theorem Wk.of_row {W X : World} {base g : Nat} {s s' : Sp} (h : Wk W base g s) (k : KeptK W X (SpS g s.lA)) (h1 : s'.sA = s.sA) (h2 : s'.sc = s.sc) (h3 : s'.f = s.f) (own : Own X g 71 s'.cells)
    (row : X.ownsRow base 65 10 (.slice s'.lA s'.L.length s'.lc) s'.L.length (s'.L.flatMap Lv.cells)) (out : blkS s'.lA ≠ some g) (hA : blkS s'.lA = blkS s.lA ∨ ∃ q, blkS s'.lA = some q ∧ W.heap.size ≤ q)
    (lev : ∀ l ∈ s'.L, l ∈ s.L ∨ (LvIn W W.heap.size l ∧ OfL (SpS g s.lA) l ∧ LvLo base l)) (ok : SpOk s') : Wk X base g s' := by
  have hS : ∀ b, SpS g s'.lA b → SpS g s.lA b ∨ W.heap.size ≤ b := fun b hb => by
    rcases hb with hb | hb
    · exact .inl (.inl hb)
    · rcases hA with hA | ⟨q, hq, hle⟩
      · exact .inl (.inr (by rw [← hA]; exact hb))
      · rw [hq] at hb
        injection hb with hb
        exact .inr (by omega)
  refine ⟨own, row, out, ?_, ?_, fun l hl => ?_, fun l hl => ?_, ok, by rw [h1]; exact h.slo, fun l hl => (lev l hl).elim (h.lo l) (fun h9 => h9.2.2), h.low, Nat.le_trans h.base_ k.size⟩
  · rw [h1, h3]; exact times_kept h.since h.soff k
  · rw [h1, h3]; exact (h.soff.or (times_in h.since)).less hS
  · rcases lev l hl with h9 | ⟨h8, h9, _⟩
    · exact lv_kept (h.lev l h9) (h.loff l h9) k
    · exact lv_kept h8 h9 k
  · rcases lev l hl with h9 | ⟨h8, h9, _⟩
    · exact ((h.loff l h9).or (lv_in (h.lev l h9))).less hS
    · exact (h9.or (lv_in h8)).less hS
theorem Wk.again {w W X : World} {base g P : Nat} {s s' : Sp} (h : Wk w base g s) (h3 : Wk W base g s') (k3 : KeptK w W (SpS g s.lA)) (kX : KeptK W X (fun b => b = P)) (hP : w.heap.size ≤ P) (h1 : s'.sA = s.sA) (h2 : s'.sc = s.sc) (h4 : s'.f = s.f) (h5 : s'.lA = s.lA) (hsub : ∀ l ∈ s'.L, l ∈ s.L) :
    Wk X base g s' ∧ KeptK w X (SpS g s.lA) := by
  have hlt : ∀ k, SpS g s.lA k → k < w.heap.size := fun k hk => (h.lt k hk).2
  have hk : KeptK w X (SpS g s.lA) := k3.trans kX (fun b hb e => by omega)
  refine ⟨h.of_row hk h1 h2 h4 (kX.own h3.own (fun e => by have := hlt g (.inl rfl); omega)) (kX.row h3.row (fun k e e2 => ?_)) (by rw [h5]; exact h.out) (.inl (by rw [h5])) (fun l hl => .inl (hsub l hl)) h3.ok, hk⟩
  rw [blkS_own, h5] at e
  have := hlt k (.inr e)
  omega
theorem row_le {w : World} {base c n size : Nat} {e : TypeId} {A : Option Addr} {xs : List Value} (h : w.ownsRow base e size (.slice A n c) n xs) : n ≤ c ∧ c ≤ maxLen := by
  rcases row_ownK h with ⟨_, h0, h1, _⟩ | ⟨_, _, _, _, _, h1, h2, _⟩
  · subst h0; subst h1; exact ⟨Nat.le_refl _, Nat.zero_le _⟩
  · exact ⟨h1, h2⟩
theorem Wk.insert {W V W2 : World} {base g i c' : Nat} {s : Sp} {l : Lv} {A' : Option Addr} (h : Wk W base g s) (hl : LvIn W W.heap.size l) (ol : OfL (SpS g s.lA) l) (okl : LvOk l) (lol : LvLo base l) (hn : s.L.length + 1 ≤ 1048576) (hi : i ≤ s.L.length) (hV : Below W.heap.size W V)
    (hr : W2.ownsRow base 65 10 (.slice A' (s.L.length + 1) c') (s.L.length + 1) ((s.L.flatMap Lv.cells).take (i * 10) ++ l.cells ++ (s.L.flatMap Lv.cells).drop (i * 10))) (hg : V.grownBy W2 (Value.slice s.lA s.L.length s.lc).ownBlock)
    (hA : (Value.slice A' (s.L.length + 1) c').ownBlock = (Value.slice s.lA s.L.length s.lc).ownBlock ∨ (Value.slice A' (s.L.length + 1) c').ownBlock = some V.heap.size) :
    Wk (W2.setCell ⟨g, 1, none⟩ (.slice A' (s.L.length + 1) c')) base g ⟨s.sA, s.sc, s.f, A', c', s.L.take i ++ l :: s.L.drop i⟩ ∧ KeptK W (W2.setCell ⟨g, 1, none⟩ (.slice A' (s.L.length + 1) c')) (SpS g s.lA) ∧
      (blkS A' = blkS s.lA ∨ ∃ q, blkS A' = some q ∧ W.heap.size ≤ q) := by
  rw [blkS_own] at hg hA
  rw [blkS_own] at hA
  have hgi := h.own.inside
  have k1 : KeptK W W2 (fun k => blkS s.lA = some k) := (KeptK.of_below hV (Nat.le_refl _) _).trans (KeptK.of_grown (S := fun k => blkS s.lA = some k) hg (fun _ e => e)) (fun _ _ e => e)
  have o2 : Own W2 g 71 s.cells := k1.own h.own h.out
  have hA' : blkS A' = blkS s.lA ∨ ∃ q, blkS A' = some q ∧ W.heap.size ≤ q := by
    rcases hA with e | e
    · exact .inl e
    · exact .inr ⟨_, e, hV.size⟩
  have hout : blkS A' ≠ some g := by
    rcases hA' with e | ⟨q, e, hq⟩
    · rw [e]; exact h.out
    · rw [e]; intro e2; injection e2 with e2; omega
  have hk : KeptK W (W2.setCell ⟨g, 1, none⟩ (.slice A' (s.L.length + 1) c')) (SpS g s.lA) := (k1.more (fun _ e => .inr e)).set_ (.inl (.inl rfl)) _
  have hlen : (s.L.take i ++ l :: s.L.drop i).length = s.L.length + 1 := by simp; omega
  have hfl : (s.L.flatMap Lv.cells).take (i * 10) ++ l.cells ++ (s.L.flatMap Lv.cells).drop (i * 10) = (s.L.take i ++ l :: s.L.drop i).flatMap Lv.cells := by
    rw [level_rows, level_rowsD, List.flatMap_append, List.flatMap_cons, List.append_assoc]
  have hle := row_le hr
  have okS : SpOk ⟨s.sA, s.sc, s.f, A', c', s.L.take i ++ l :: s.L.drop i⟩ := by
    refine ⟨h.ok.f, by show (s.L.take i ++ l :: s.L.drop i).length ≤ _; omega, by show (s.L.take i ++ l :: s.L.drop i).length ≤ c'; omega, hle.2, fun x hx => ?_⟩
    rcases List.mem_append.1 hx with hx | hx
    · exact h.ok.each_ x (List.mem_of_mem_take hx)
    · rcases List.mem_cons.1 hx with rfl | hx
      · exact okl
      · exact h.ok.each_ x (List.mem_of_mem_drop hx)
  refine ⟨h.of_row hk rfl rfl rfl ?_ ?_ hout hA' (fun x hx => ?_) okS, hk, hA'⟩
  · have := o2.set_ 1 (.slice A' (s.L.length + 1) c')
    show Own _ g _ [.slice s.sA s.f.length s.sc, .slice A' (s.L.take i ++ l :: s.L.drop i).length c']
    rw [hlen]
    exact this
  · show World.ownsRow _ base _ 10 (.slice A' (s.L.take i ++ l :: s.L.drop i).length c') (s.L.take i ++ l :: s.L.drop i).length _
    rw [hlen, ← hfl]
    exact (KeptK.refl W2 (fun k => k = g)).set_ (.inl rfl) _ |>.row hr (fun k e e2 => hout (by rw [← blkS_own A' (s.L.length + 1) c', e, e2]))
  · rcases List.mem_append.1 hx with hx | hx
    · exact .inl (List.mem_of_mem_take hx)
    · rcases List.mem_cons.1 hx with rfl | hx
      · exact .inr ⟨hl, ol, lol⟩
      · exact .inl (List.mem_of_mem_drop hx)
theorem Wk.erase {W V W2 : World} {base g i : Nat} {s : Sp} (h : Wk W base g s) (hi : i < s.L.length) (hV : Below W.heap.size W V)
    (hr : W2.ownsRow base 65 10 (.slice s.lA (s.L.length - 1) s.lc) (s.L.length - 1) ((s.L.flatMap Lv.cells).take (i * 10) ++ (s.L.flatMap Lv.cells).drop ((i + 1) * 10))) (hg : V.grownBy W2 (Value.slice s.lA s.L.length s.lc).ownBlock) :
    Wk (W2.setCell ⟨g, 1, none⟩ (.slice s.lA (s.L.length - 1) s.lc)) base g ⟨s.sA, s.sc, s.f, s.lA, s.lc, s.L.eraseIdx i⟩ ∧ KeptK W (W2.setCell ⟨g, 1, none⟩ (.slice s.lA (s.L.length - 1) s.lc)) (SpS g s.lA) := by
  rw [blkS_own] at hg
  have k1 : KeptK W W2 (fun k => blkS s.lA = some k) := (KeptK.of_below hV (Nat.le_refl _) _).trans (KeptK.of_grown (S := fun k => blkS s.lA = some k) hg (fun _ e => e)) (fun _ _ e => e)
  have o2 : Own W2 g 71 s.cells := k1.own h.own h.out
  have hk : KeptK W (W2.setCell ⟨g, 1, none⟩ (.slice s.lA (s.L.length - 1) s.lc)) (SpS g s.lA) := (k1.more (fun _ e => .inr e)).set_ (.inl (.inl rfl)) _
  have her : s.L.eraseIdx i = s.L.take i ++ s.L.drop (i + 1) := List.eraseIdx_eq_take_drop_succ ..
  have hlen : (s.L.eraseIdx i).length = s.L.length - 1 := by rw [List.length_eraseIdx, if_pos hi]
  have hfl : (s.L.flatMap Lv.cells).take (i * 10) ++ (s.L.flatMap Lv.cells).drop ((i + 1) * 10) = (s.L.eraseIdx i).flatMap Lv.cells := by
    rw [level_rows, level_rowsD, her, List.flatMap_append]
  have hle := row_le hr
  have okS : SpOk ⟨s.sA, s.sc, s.f, s.lA, s.lc, s.L.eraseIdx i⟩ := by
    refine ⟨h.ok.f, ?_, ?_, hle.2, fun x hx => h.ok.each_ x (List.mem_of_mem_eraseIdx hx)⟩
    · show (s.L.eraseIdx i).length ≤ _; have := h.ok.n; omega
    · show (s.L.eraseIdx i).length ≤ s.lc; omega
  refine ⟨h.of_row hk rfl rfl rfl ?_ ?_ h.out (.inl rfl) (fun x hx => .inl (List.mem_of_mem_eraseIdx hx)) okS, hk⟩
  · have := o2.set_ 1 (.slice s.lA (s.L.length - 1) s.lc)
    show Own _ g _ [.slice s.sA s.f.length s.sc, .slice s.lA (s.L.eraseIdx i).length s.lc]
    rw [hlen]
    exact this
  · show World.ownsRow _ base _ 10 (.slice s.lA (s.L.eraseIdx i).length s.lc) (s.L.eraseIdx i).length _
    rw [hlen, ← hfl]
    exact (KeptK.refl W2 (fun k => k = g)).set_ (.inl rfl) _ |>.row hr (fun k e e2 => h.out (by rw [← blkS_own s.lA (s.L.length - 1) s.lc, e, e2]))
def setsAt (w : World) (G o : Nat) : List Value → World
  | [] => w
  | v :: vs => setsAt (w.setCell ⟨G, o, none⟩ v) G (o + 1) vs
theorem setsAt_own {G : Nat} {t : TypeId} : ∀ (vs : List Value) (w : World) (o : Nat) (cur : List Value), Own w G t cur → o + vs.length ≤ cur.length → Own (setsAt w G o vs) G t (cur.take o ++ vs ++ cur.drop (o + vs.length))
  | [], w, o, cur, h, _ => by
    rw [List.append_nil, List.length_nil, Nat.add_zero, List.take_append_drop]
    exact h
  | v :: vs, w, o, cur, h, hl => by
    rw [List.length_cons] at hl
    have := setsAt_own vs (w.setCell ⟨G, o, none⟩ v) (o + 1) (cur.set o v) (h.set_ o v) (by rw [List.length_set]; omega)
    have e1 : (cur.set o v).take (o + 1) = cur.take o ++ [v] := by
      rw [List.set_eq_take_append_cons_drop, if_pos (by omega)]
      have h1 : (cur.take o).length = o := by rw [List.length_take]; omega
      rw [show o + 1 = (cur.take o).length + 1 by omega, List.take_length_add_append]
      simp
    have e2 : (cur.set o v).drop (o + 1 + vs.length) = cur.drop (o + (vs.length + 1)) := by
      rw [List.drop_set_of_lt (by omega)]
      congr 1
      omega
    rw [e1, e2] at this
    rw [List.length_cons]
    have e3 : cur.take o ++ [v] ++ vs = cur.take o ++ v :: vs := by simp
    rw [e3] at this
    exact this
theorem setsAt_kept {S : Nat → Prop} {G : Nat} {w : World} (hS : S G ∨ w.heap.size ≤ G) : ∀ (vs : List Value) (W : World) (o : Nat), KeptK w W S → KeptK w (setsAt W G o vs) S
  | [], _, _, h => h
  | v :: vs, W, o, h => setsAt_kept hS vs (W.setCell ⟨G, o, none⟩ v) (o + 1) (h.set_ hS v)
theorem splice_level {cur cs : List Value} {i n : Nat} (hc : cs.length = 10) (hi : i < n) (hl : n * 10 ≤ cur.length) :
    (cur.take (i * 10) ++ cs ++ cur.drop (i * 10 + 10)).take (n * 10) = (cur.take (n * 10)).take (i * 10) ++ cs ++ (cur.take (n * 10)).drop ((i + 1) * 10) := by
  have h2 : (cur.take (i * 10) ++ cs).length = i * 10 + 10 := by rw [List.length_append, List.length_take, hc]; omega
  rw [List.take_append, List.take_of_length_le (by omega), h2, List.take_take, Nat.min_eq_left (by omega), List.drop_take, show (i + 1) * 10 = i * 10 + 10 by omega]
theorem Wk.level {W : World} {base g G i : Nat} {s : Sp} {l : Lv} (h : Wk W base g s) (hl : LvIn W W.heap.size l) (ol : OfL (SpS g s.lA) l) (okl : LvOk l) (lol : LvLo base l) (hi : i < s.L.length) (hA : s.lA = some ⟨G, 0, none⟩) :
    Wk (setsAt W G (i * 10) l.cells) base g ⟨s.sA, s.sc, s.f, s.lA, s.lc, s.L.set i l⟩ ∧ KeptK W (setsAt W G (i * 10) l.cells) (SpS g s.lA) := by
  have hblk : blkS s.lA = some G := by rw [hA]; rfl
  have hk : KeptK W (setsAt W G (i * 10) l.cells) (SpS g s.lA) := setsAt_kept (.inl (.inr hblk)) _ _ _ (KeptK.refl _ _)
  have hk1 : KeptK W (setsAt W G (i * 10) l.cells) (fun k => k = G) := setsAt_kept (S := fun k => k = G) (.inl rfl) _ _ _ (KeptK.refl _ _)
  have hlen : (s.L.set i l).length = s.L.length := List.length_set ..
  have okS : SpOk ⟨s.sA, s.sc, s.f, s.lA, s.lc, s.L.set i l⟩ := ⟨h.ok.f, by show (s.L.set i l).length ≤ _; rw [hlen]; exact h.ok.n, by show (s.L.set i l).length ≤ _; rw [hlen]; exact h.ok.le, h.ok.c_, fun x hx => by
    rcases List.mem_or_eq_of_mem_set hx with hx | rfl
    · exact h.ok.each_ x hx
    · exact okl⟩
  refine ⟨h.of_row hk rfl rfl rfl ?_ ?_ h.out (.inl rfl) (fun x hx => ?_) okS, hk⟩
  · show Own _ g _ [.slice s.sA s.f.length s.sc, .slice s.lA (s.L.set i l).length s.lc]
    rw [hlen]
    exact hk1.own h.own (fun e => h.out (by rw [hblk, e]))
  · show World.ownsRow _ base _ 10 (.slice s.lA (s.L.set i l).length s.lc) (s.L.set i l).length _
    rw [hlen]
    rcases row_ownK h.row with ⟨h0, _⟩ | ⟨G', cur, e, hb, hg, hn, hm, hc, ht⟩
    · rw [hA] at h0; cases h0
    · rw [hA] at e
      obtain rfl : G = G' := by simpa using e
      have hle : i * 10 + 10 ≤ s.lc * 10 := by omega
      have hc10 : l.cells.length = 10 := rfl
      have o2 := setsAt_own l.cells W (i * 10) cur hg (by rw [hc10, hc]; exact hle)
      have hnew : (cur.take (i * 10) ++ l.cells ++ cur.drop (i * 10 + l.cells.length)).take (s.L.length * 10) = (s.L.set i l).flatMap Lv.cells := by
        have e1 : s.L.set i l = s.L.take i ++ l :: s.L.drop (i + 1) := (List.set_eq_take_append_cons_drop ..).trans (if_pos hi)
        rw [hc10, splice_level hc10 hi (by omega), ht, level_rows, level_rowsD, e1, List.flatMap_append, List.flatMap_cons, List.append_assoc]
      rw [hA, ← hnew]
      exact own_to_row o2 hb hn hm (by rw [List.length_append, List.length_append, List.length_take, List.length_drop, hc10, hc]; omega)
  · rcases List.mem_or_eq_of_mem_set hx with hx | rfl
    · exact .inl hx
    · exact .inr ⟨hl, ol, lol⟩
end Go.Proofs.YtenjlhlighkenaaGreat
namespace Go.Proofs.YtenjlhlighkenaaGreat
open Go Go.RowKit

def posC : List Lv → Int → Nat
  | [], _ => 0
  | l :: L, c => if l.cls ≤ c then 0 else posC L c + 1
theorem posC_le : ∀ (L : List Lv) (c : Int), posC L c ≤ L.length
  | [], _ => Nat.le_refl _
  | l :: L, c => by
    unfold posC
    have := posC_le L c
    rw [List.length_cons]
    split <;> omega
theorem posC_before : ∀ (L : List Lv) (c : Int), ∀ l ∈ L.take (posC L c), c < l.cls
  | [], _, l, h => by simp at h
  | x :: L, c, l, h => by
    unfold posC at h
    split at h
    · simp at h
    · rename_i hx
      rw [List.take_succ_cons] at h
      rcases List.mem_cons.1 h with rfl | h
      · omega
      · exact posC_before L c l h
theorem posC_at : ∀ (L : List Lv) (c : Int) (l : Lv), L[posC L c]? = some l → l.cls ≤ c
  | [], _, l, h => by simp at h
  | x :: L, c, l, h => by
    unfold posC at h
    split at h
    · rename_i hx
      obtain rfl : x = l := by simpa using h
      exact hx
    · rw [List.getElem?_cons_succ] at h
      exact posC_at L c l h
theorem posC_is {L : List Lv} {c : Int} {k : Nat} {l : Lv} (hb : ∀ x ∈ L.take k, c < x.cls) (hk : L[k]? = some l) (hl : l.cls ≤ c) : posC L c = k := by
  induction L generalizing k with
  | nil => simp at hk
  | cons x L ih =>
    unfold posC
    cases k with
    | zero =>
      obtain rfl : x = l := by simpa using hk
      rw [if_pos hl]
    | succ k =>
      rw [List.take_succ_cons] at hb
      rw [if_neg (by have := hb x List.mem_cons_self; omega), ih (fun y hy => hb y (List.mem_cons_of_mem _ hy)) (by simpa using hk)]
theorem posC_none {L : List Lv} {c : Int} (hb : ∀ x ∈ L, c < x.cls) : posC L c = L.length := by
  induction L with
  | nil => rfl
  | cons x L ih =>
    unfold posC
    rw [if_neg (by have := hb x List.mem_cons_self; omega), ih fun y hy => hb y (List.mem_cons_of_mem _ hy)]
    rfl
theorem fall_after {L : List Lv} {i : Nat} {l : Lv} (h : L.Pairwise fun x y => y.cls < x.cls) (hi : L[i]? = some l) : ∀ x ∈ L.drop (i + 1), x.cls < l.cls := by
  have e := split_at' hi
  rw [e] at h
  have := (List.pairwise_cons.1 (List.pairwise_append.1 h).2.1).1
  exact this
theorem posC_after {L : List Lv} {c : Int} (h : L.Pairwise fun x y => y.cls < x.cls) (hne : ∀ l, L[posC L c]? = some l → l.cls ≠ c) : ∀ l ∈ L.drop (posC L c), l.cls < c := by
  intro l hl
  cases hx : L[posC L c]? with
  | none =>
    have : L.length ≤ posC L c := by simpa using hx
    rw [List.drop_eq_nil_of_le this] at hl
    simp at hl
  | some x =>
    have h1 := posC_at L c x hx
    have h2 := hne x hx
    have hd : L.drop (posC L c) = x :: L.drop (posC L c + 1) := by
      have := List.getElem?_eq_some_iff.1 hx
      rw [← this.2, ← List.drop_eq_getElem_cons this.1]
    rw [hd] at hl
    rcases List.mem_cons.1 hl with rfl | hl
    · omega
    · have := fall_after h hx l hl; omega
structure Pl where
  cls : Int
  busy : Bool
  bf : List Tm
  bl : List (Uk × Int)
  a : List (Uk × Int)
  b : List (Uk × Int)
  i : Int
  j : Int
  f : List Tm
  o : List (Uk × Int)
def Lv.pl (l : Lv) : Pl := ⟨l.cls, l.busy, l.b.f, l.b.l.map Up.p, l.m.a.map Up.p, l.m.b.map Up.p, l.m.i, l.m.j, l.m.f, l.m.o.map Up.p⟩
theorem nil_p {l m : List Up} (h : l.map Up.p = m.map Up.p) (hl : l = []) : m = [] := by subst hl; cases m with | nil => rfl | cons x m => simp at h
structure LvEq (l k : Lv) : Prop where
  cls : l.cls = k.cls
  busy : l.busy = k.busy
  bf : l.b.f = k.b.f
  bl : l.b.l.map Up.p = k.b.l.map Up.p
  a : l.m.a.map Up.p = k.m.a.map Up.p
  b : l.m.b.map Up.p = k.m.b.map Up.p
  i : l.m.i = k.m.i
  j : l.m.j = k.m.j
  f : l.m.f = k.m.f
  o : l.m.o.map Up.p = k.m.o.map Up.p
theorem LvEq.of {l k : Lv} (h : l.pl = k.pl) : LvEq l k := by
  unfold Lv.pl at h
  injection h with h1 h2 h3 h4 h5 h6 h7 h8 h9 h10
  exact ⟨h1, h2, h3, h4, h5, h6, h7, h8, h9, h10⟩
theorem LvEq.to {l k : Lv} (h : LvEq l k) : l.pl = k.pl := by
  unfold Lv.pl
  rw [h.cls, h.busy, h.bf, h.bl, h.a, h.b, h.i, h.j, h.f, h.o]
theorem partsM_p {m n : Mg} (a : m.a.map Up.p = n.a.map Up.p) (b : m.b.map Up.p = n.b.map Up.p) (i : m.i = n.i) (j : m.j = n.j) (o : m.o.map Up.p = n.o.map Up.p) : (partsM m).map Up.p = (partsM n).map Up.p := by
  unfold partsM
  rw [i, j]
  exact app_p (drop_p a _) (app_p (drop_p b _) o)
theorem LvEq.parts {l k : Lv} (h : LvEq l k) : (partsL l).map Up.p = (partsL k).map Up.p := by
  unfold partsL
  rw [h.busy]
  split
  · exact partsM_p h.a h.b h.i h.j h.o
  · exact h.bl
theorem LvEq.good {f : List Tm} {l k : Lv} (h : LvEq l k) (g : LvGood f l) : LvGood f k := by
  constructor
  · intro hb
    obtain ⟨b1, b2, b3, b4, b5, b6, b7⟩ := g.busy (h.busy.trans hb)
    refine ⟨by rw [← h.bf]; exact b1, nil_p h.bl b2, ?_, by rw [← len_p h.a, ← h.cls]; exact b4, by rw [← len_p h.b, ← h.cls]; exact b5, by rw [← h.f]; exact b6, ?_⟩
    · unfold MOk at b3 ⊢
      rw [← h.f, ← h.i, ← h.j]
      refine ⟨⟨even_p h.a b3.even.1, even_p h.b b3.even.2.1, even_p h.o b3.even.2.2⟩, b3.front, advd_p h.o b3.advd, ?_, ?_⟩
      · exact div_po h.a h.o b3.da
      · exact div_po h.b h.o b3.db
    · unfold leftM at b7 ⊢
      rw [← len_p h.a, ← len_p h.b, ← h.i, ← h.j]
      exact b7
  · intro hb
    obtain ⟨⟨b1, b2, b3, b4, b5, b6⟩, b7, b8, b9⟩ := g.idle (h.busy.trans hb)
    exact ⟨⟨nil_p h.a b1, nil_p h.b b2, by rw [← h.i]; exact b3, by rw [← h.j]; exact b4, by rw [← h.f]; exact b5, nil_p h.o b6⟩, ⟨by rw [← h.bf]; exact b7.1, even_p h.bl b7.2.1, by rw [← h.bf]; exact advd_p h.bl b7.2.2⟩, by rw [← len_p h.bl, ← h.cls]; exact b8, by rw [← h.bf]; exact b9⟩
theorem LvEq.cnt {l k : Lv} (h : LvEq l k) : cntL l = cntL k := by unfold cntL; rw [h.busy]
theorem LvEq.wt {l k : Lv} (h : LvEq l k) : wtL l = wtL k := by
  unfold wtL
  rw [h.busy, len_p h.a, len_p h.b, len_p h.bl, len_p (partsM_p h.a h.b h.i h.j h.o)]
theorem pl_parts : ∀ {L K : List Lv}, L.map Lv.pl = K.map Lv.pl → (partsS L).map Up.p = (partsS K).map Up.p ∧ cntS L = cntS K ∧ wtS L = wtS K ∧ busyN L = busyN K
  | [], [], _ => ⟨rfl, rfl, rfl, rfl⟩
  | [], _ :: _, h => by simp at h
  | _ :: _, [], h => by simp at h
  | l :: L, k :: K, h => by
    rw [List.map_cons, List.map_cons, List.cons.injEq] at h
    have e := LvEq.of h.1
    obtain ⟨i1, i2, i3, i4⟩ := pl_parts h.2
    exact ⟨by rw [partsS_cons, partsS_cons]; exact app_p e.parts i1, by rw [cntS_cons, cntS_cons, e.cnt, i2], by rw [wtS_cons, wtS_cons, e.wt, i3], by rw [busyN_cons, busyN_cons, e.busy, i4]⟩
theorem pl_mem {L K : List Lv} (h : L.map Lv.pl = K.map Lv.pl) {k : Lv} (hk : k ∈ K) : ∃ l ∈ L, LvEq l k := by
  have : k.pl ∈ L.map Lv.pl := by rw [h]; exact List.mem_map_of_mem hk
  obtain ⟨l, hl, e⟩ := List.mem_map.1 this
  exact ⟨l, hl, LvEq.of e⟩
theorem pl_good {f : List Tm} {L K : List Lv} (h : L.map Lv.pl = K.map Lv.pl) (g : SpGood f L) : SpGood f K := by
  refine ⟨g.front, fun k hk => ?_, ?_, fun k hk => ?_⟩
  · obtain ⟨l, hl, e⟩ := pl_mem h hk
    rw [← e.cls]; exact g.pos l hl
  · have h1 : (L.map Lv.pl).Pairwise fun x y => y.cls < x.cls := List.pairwise_map.2 g.fall
    rw [h] at h1
    exact List.pairwise_map.1 h1
  · obtain ⟨l, hl, e⟩ := pl_mem h hk
    exact e.good (g.each l hl)
end Go.Proofs.YtenjlhlighkenaaGreat
namespace Go.Proofs.YtenjlhlighkenaaGreat
open Go Go.RowKit

structure Kpt (w : World) (bx : Nat) (A : Option Addr) (n c : Nat) : Prop where
  cell : w.cell? ⟨bx, 0, none⟩ = some (.slice A n c)
  inside : bx < w.heap.size
theorem Kpt.past {w w' : World} {bx n c : Nat} {A : Option Addr} (h : Kpt w bx A n c) (hb : Below w.heap.size w w') : Kpt w' bx A n c :=
  ⟨(hb.cell (p := ⟨bx, 0, none⟩) h.inside).trans h.cell, Nat.lt_of_lt_of_le h.inside hb.size⟩
set_option maxRecDepth 100000 in
set_option maxHeartbeats 3200000 in
theorem early_any (t : Tm) (bx : Nat) (A : Option Addr) (c : Nat) (l : List Tm) (w : World) (hk : Kpt w bx A l.length c) (hl : Times w w.heap.size A l) (hn : l.length ≤ maxLen) :
    Calls Tryz.prog 58 #[t.val, .pointer (some ⟨bx, 0, none⟩)] w fun e w' => e = .returned (.bool (!beyond l t)) ∧ Below w.heap.size w w' := by
  obtain ⟨V, hV, hvb, hvs, hvo⟩ := tm_box w t
  have k0 := (hk.past hvb).cell
  have y1 := Lib.hid (beyond_any A c l t V ((hl.past hvb (Nat.le_refl _)).wide hvb.size) hn)
  obtain ⟨d0, d1, d2⟩ := own3 hvo
  have HB := Lib.hid hvb
  rw [show t.val = .agg #[.int .u64 (t.e : Int), .int .u64 (t.a : Int), .int .u64 (t.b : Int)] from rfl] at y1 ⊢
  generalize beyond l t = B at *
  clear hk hl hn hvb hvs hvo
  go_enter Tryz.func58, Tryz.ntmps58
  go_upto_region 1 with fail
  rw [← hV]
  clear hV
  go_wp2_with fail
  refine y1.out.mono ?_
  rintro _ w2 ⟨rfl, b2⟩
  have H2 := Lib.hid (HB.out.trans (b2.mono HB.out.size))
  clear b2 d0 d1 d2 k0
  go_wp2_with fail
  go_ret
  exact ⟨rfl, H2.out⟩
def someEarly (l f : List Tm) : Bool := l.any fun t => !beyond f t
theorem early_next {l f : List Tm} {k : Nat} {t : Tm} (h : l[k]? = some t) : someEarly (l.take (k + 1)) f = (someEarly (l.take k) f || !beyond f t) := by
  unfold someEarly
  rw [List.take_add_one, h]; simp
theorem early_hit {l f : List Tm} {k : Nat} {t : Tm} (h : l[k]? = some t) (hb : (!beyond f t) = true) : someEarly l f = true := List.any_eq_true.2 ⟨t, List.mem_of_getElem? h, hb⟩
set_option maxRecDepth 100000 in
set_option maxHeartbeats 3200000 in
theorem indexT_any (A : Option Addr) (c : Nat) (l : List Tm) (bx : Nat) (A' : Option Addr) (c' : Nat) (f : List Tm) (w : World) (hl : Times w w.heap.size A l) (hn : l.length ≤ maxLen) (hk : Kpt w bx A' f.length c') (hf : Times w w.heap.size A' f) (hfn : f.length ≤ maxLen) :
    Calls Tryz.prog 91 #[.slice A l.length c, .func (.func 58) #[] #[.pointer (some ⟨bx, 0, none⟩)]] w fun x w' => ∃ r : Int, x = .returned (.int .i64 r) ∧ decide (0 ≤ r) = someEarly l f ∧ Below w.heap.size w w' := by
  unfold maxLen at hn
  have Hl := Lib.hid (And.intro hl (And.intro hk hf))
  have hu := fun t W h1 h2 => Lib.hid (early_any t bx A' c' f W h1 h2 hfn)
  unfold Tm.val at hu
  clear hl hk hf
  go_enter Tryz.func91, Tryz.ntmps91
  go_wp2_with fail
  go_loopw [8] (fun i wr => ∃ k : Nat, i = .int .i64 (k : Int) ∧ k ≤ l.length ∧ Below w.heap.size w wr ∧ someEarly (l.take k) f = false)
    (fun i _ => l.length - (intOf i).toNat)
  case atStart => exact ⟨0, rfl, by omega, Below.refl _ _, rfl⟩
  case round =>
    obtain ⟨k, rfl, hk, hb, he⟩ := hrel
    by_cases hlt : k < l.length
    · have hx : l[k]? = some l[k] := List.getElem?_eq_getElem hlt
      obtain ⟨b, o, rfl, hB, hc⟩ := Hl.out.1 (by omega)
      obtain ⟨c0, c1, c2⟩ := (hc k _ hx).past hb hB
      have hnx := early_next (f := f) hx
      have hit := early_hit (f := f) hx
      generalize l[k] = t at *
      have hut := hu t wr (Hl.out.2.1.past hb) ((Hl.out.2.2.past hb (Nat.le_refl _)).wide hb.size)
      have HH := Lib.hid (And.intro hb (And.intro he (And.intro hnx hit)))
      have q0 : (0 : Int) ≤ (k : Int) := by omega
      have q1 : (k : Int) < (l.length : Int) := by omega
      clear hb he hx hc hnx hit hu
      obtain ⟨B, hB'⟩ : ∃ B, (!beyond f t) = B := ⟨_, rfl⟩
      rw [hB'] at hut
      have HT := Lib.hid hB'
      clear hB'
      cases B with
      | true =>
        go_wp2_with fail
        refine hut.out.mono ?_
        rintro _ w2 ⟨rfl, b2⟩
        have H2 := Lib.hid (HH.out.1.trans (b2.mono HH.out.1.size))
        clear b2 c0 c1 c2
        go_wp2_with fail
        go_ret
        exact ⟨_, rfl, by rw [HH.out.2.2.2 HT.out]; simp, H2.out⟩
      | false =>
        go_wp2_with fail
        refine hut.out.mono ?_
        rintro _ w2 ⟨rfl, b2⟩
        have H2 := Lib.hid (HH.out.1.trans (b2.mono HH.out.1.size))
        clear b2 c0 c1 c2
        go_wp2_with fail
        go_roundw
        case rel => exact ⟨k + 1, by go_num, by omega, H2.out, by rw [HH.out.2.2.1, HH.out.2.1, HT.out]; rfl⟩
        case measure => simp [intOf]; omega
    · have hk2 : k = l.length := by omega
      subst hk2
      rw [List.take_length] at he
      have HH := Lib.hid (And.intro hb he)
      clear hb he
      go_wp2_with fail
      go_ret
      exact ⟨_, rfl, by rw [HH.out.2]; decide, HH.out.1⟩
set_option maxRecDepth 100000 in
set_option maxHeartbeats 1600000 in
theorem containsT_any (A : Option Addr) (c : Nat) (l : List Tm) (bx : Nat) (A' : Option Addr) (c' : Nat) (f : List Tm) (w : World) (hl : Times w w.heap.size A l) (hn : l.length ≤ maxLen) (hk : Kpt w bx A' f.length c') (hf : Times w w.heap.size A' f) (hfn : f.length ≤ maxLen) :
    Calls Tryz.prog 59 #[.slice A l.length c, .func (.func 58) #[] #[.pointer (some ⟨bx, 0, none⟩)]] w fun x w' => x = .returned (.bool (someEarly l f)) ∧ Below w.heap.size w w' := by
  have hi := Lib.hid (indexT_any A c l bx A' c' f w hl hn hk hf hfn)
  clear hl hn hk hf
  generalize someEarly l f = B at *
  go_enter Tryz.func59, Tryz.ntmps59
  go_wp2_with fail
  refine hi.out.mono ?_
  rintro _ w2 ⟨r, rfl, hr, b2⟩
  have H2 := Lib.hid b2
  clear b2
  go_wp2_with fail
  go_ret
  exact ⟨rfl, H2.out⟩
theorem later_iff {g f : List Tm} (hf : f ≠ []) : LaterF g f ↔ g ≠ [] ∧ someEarly g f = false := by
  unfold LaterF someEarly
  constructor
  · rintro (h | ⟨h1, h2⟩)
    · exact absurd h hf
    · refine ⟨h1, ?_⟩
      rw [List.any_eq_false]
      intro x hx
      rw [h2 x hx]
      simp
  · rintro ⟨h1, h2⟩
    refine .inr ⟨h1, fun x hx => ?_⟩
    rw [List.any_eq_false] at h2
    simpa using h2 x hx
set_option maxRecDepth 100000 in
set_option maxHeartbeats 3200000 in
theorem later_any (A : Option Addr) (c : Nat) (g : List Tm) (A' : Option Addr) (c' : Nat) (f : List Tm) (w : World) (hg : Times w w.heap.size A g) (hgn : g.length ≤ maxLen) (hf : Times w w.heap.size A' f) (hfn : f.length ≤ maxLen) :
    Calls Tryz.prog 25 #[.slice A g.length c, .slice A' f.length c'] w (Tells (LaterF g f) w) := by
  obtain ⟨V, hV, hvs, hvb, hvo⟩ := boxd w [.slice A' f.length c'] 28
  have d0 := hvo.at_ 0
  simp only [List.getElem?_cons_zero] at d0
  by_cases h0 : f = []
  · subst h0
    simp only [List.length_nil] at hV d0
    have HL := Lib.hid (show LaterF g [] from .inl rfl)
    have HB := Lib.hid hvb
    clear hg hf hgn hfn hvs hvb hvo
    go_enter Tryz.func25, Tryz.ntmps25
    go_upto_region 1 with fail
    rw [← hV]
    clear hV
    go_wp2_with fail
    go_ret
    exact ⟨true, rfl, ⟨fun _ => HL.out, fun _ => rfl⟩, HB.out⟩
  have hfp : 0 < f.length := List.length_pos_iff.2 h0
  have t0 : ((f.length : Int) == 0) = false := beq_eq_false_iff_ne.2 (by omega)
  have hit := later_iff (g := g) h0
  by_cases h1 : g = []
  · have HL := Lib.hid (show ¬ LaterF g f from fun h => (hit.1 h).1 h1)
    subst h1
    have HB := Lib.hid hvb
    clear hg hf hgn hfn hvs hvb hvo hit h0
    go_enter Tryz.func25, Tryz.ntmps25
    go_upto_region 1 with fail
    rw [← hV]
    clear hV
    go_wp2_with fail
    go_ret
    exact ⟨false, rfl, ⟨fun h => (by cases h), fun h => absurd h HL.out⟩, HB.out⟩
  have hgp : 0 < g.length := List.length_pos_iff.2 h1
  have t1 : decide (0 < g.length) = true := decide_eq_true hgp
  have t2 : decide ((0 : Int) < (g.length : Int)) = true := decide_eq_true (by omega)
  have y1 := Lib.hid (containsT_any A c g w.heap.size A' c' f V ((hg.past hvb (Nat.le_refl _)).wide hvb.size) hgn ⟨d0, hvo.inside⟩ ((hf.past hvb (Nat.le_refl _)).wide hvb.size) hfn)
  have HIT := Lib.hid (And.intro hit h1)
  have HB := Lib.hid hvb
  obtain ⟨B, hB⟩ : ∃ B, someEarly g f = B := ⟨_, rfl⟩
  rw [hB] at y1
  have HBB := Lib.hid hB
  clear hg hf hgn hfn hvs hvb hvo hit h0 h1 hB hfp hgp
  go_enter Tryz.func25, Tryz.ntmps25
  go_upto_region 1 with fail
  rw [← hV]
  clear hV
  go_wp2_with fail
  refine y1.out.mono ?_
  rintro _ w2 ⟨rfl, b2⟩
  have H2 := Lib.hid (HB.out.trans (b2.mono HB.out.size))
  clear b2 d0 y1
  cases B with
  | true =>
    go_wp2_with fail
    go_ret
    exact ⟨false, rfl, ⟨fun h => (by cases h), fun h => (by have := (HIT.out.1.1 h).2; rw [HBB.out] at this; cases this)⟩, H2.out⟩
  | false =>
    go_wp2_with fail
    go_ret
    exact ⟨true, rfl, ⟨fun _ => HIT.out.1.2 ⟨HIT.out.2, HBB.out⟩, fun _ => rfl⟩, H2.out⟩
end Go.Proofs.YtenjlhlighkenaaGreat
namespace Go.Proofs.YtenjlhlighkenaaGreat
open Go Go.RowKit

theorem bitLen_cls (x : Nat) (h : x < 2 ^ 64) : Lib.bitLen x = clsN x := by
  induction x using Nat.strongRecOn with
  | _ x ih =>
    by_cases h0 : x = 0
    · subst h0; rfl
    · rw [Lib.bitLen_half x h0 h, ih (x / 2) (by omega) (by omega)]
      unfold clsN
      rw [if_neg h0, Nat.log2_def x]
      by_cases h2 : 2 ≤ x
      · rw [if_pos h2, if_neg (by omega)]; omega
      · obtain rfl : x = 1 := by omega
        simp
set_option maxRecDepth 100000 in
set_option maxHeartbeats 1600000 in
theorem class_any (A : Option Addr) (c n : Nat) (w : World) (hn : n ≤ 1099511627776) : Calls Tryz.prog 48 #[.slice A n c] w fun x w' => x = .returned (.int .i64 (clsN n : Int)) ∧ Below w.heap.size w w' := by
  have y1 := Lib.hid (Tryz.bits_Len (n : Int) w (by omega) (by omega))
  have hw : IntKind.u64.wrap (n : Int) = (n : Int) := by rw [IntKind.wrap_u64]; omega
  have HE := Lib.hid (show (Lib.bitLen ((n : Int).toNat) : Int) = (clsN n : Int) by rw [Int.toNat_natCast, bitLen_cls n (by omega)])
  clear hn
  go_enter Tryz.func48, Tryz.ntmps48
  go_wp2_with fail
  refine y1.out.mono ?_
  rintro _ _ ⟨rfl, rfl⟩
  go_wp2_with fail
  go_ret
  exact ⟨ret_i64 HE.out, Below.refl _ _⟩
theorem lvbox (w : World) (l : Lv) : ∃ W, W = w.alloc (.cells #[.int .i64 l.cls, .bool l.busy, .slice l.b.sA l.b.f.length l.b.sc, .slice l.b.uA l.b.l.length l.b.uc, .slice l.m.aA l.m.a.length l.m.ac, .slice l.m.bA l.m.b.length l.m.bc, .int .i64 l.m.i, .int .i64 l.m.j, .slice l.m.sA l.m.f.length l.m.sc, .slice l.m.oA l.m.o.length l.m.oc] 65) ∧ Below w.heap.size w W ∧ W.heap.size = w.heap.size + 1 ∧ Own W w.heap.size 65 l.cells :=
  ⟨_, rfl, (Below.refl _ _).alloc (Nat.le_refl _) _, by simp, Own.made w 65 l.cells⟩
theorem own10 {w : World} {P : Nat} {t : TypeId} {a0 a1 a2 a3 a4 a5 a6 a7 a8 a9 : Value} (h : Own w P t [a0, a1, a2, a3, a4, a5, a6, a7, a8, a9]) :
    w.cell? ⟨P, 0, none⟩ = some a0 ∧ w.cell? ⟨P, 1, none⟩ = some a1 ∧ w.cell? ⟨P, 2, none⟩ = some a2 ∧ w.cell? ⟨P, 3, none⟩ = some a3 ∧ w.cell? ⟨P, 4, none⟩ = some a4 ∧ w.cell? ⟨P, 5, none⟩ = some a5 ∧ w.cell? ⟨P, 6, none⟩ = some a6 ∧ w.cell? ⟨P, 7, none⟩ = some a7 ∧ w.cell? ⟨P, 8, none⟩ = some a8 ∧ w.cell? ⟨P, 9, none⟩ = some a9 :=
  ⟨h.at_ 0, h.at_ 1, h.at_ 2, h.at_ 3, h.at_ 4, h.at_ 5, h.at_ 6, h.at_ 7, h.at_ 8, h.at_ 9⟩
set_option maxRecDepth 100000 in
set_option maxHeartbeats 1600000 in
theorem left_anyS (m : Mg) (w : World) : Calls Tryz.prog 56 #[m.val] w (Tells (m.i < (m.a.length : Int) ∨ m.j < (m.b.length : Int)) w) := by
  obtain ⟨V, hV, hvb, hvs, hvo⟩ := mgbox w m
  obtain ⟨a0, a1, a2, a3, a4, a5⟩ := own6 hvo
  have HB := Lib.hid hvb
  rw [show m.val = .agg #[.slice m.aA m.a.length m.ac, .slice m.bA m.b.length m.bc, .int .i64 m.i, .int .i64 m.j, .slice m.sA m.f.length m.sc, .slice m.oA m.o.length m.oc] from rfl]
  clear hvb hvs hvo
  by_cases h1 : m.i < (m.a.length : Int)
  · have t1 : decide (m.i < (m.a.length : Int)) = true := decide_eq_true h1
    have HH := Lib.hid h1
    clear h1
    go_enter Tryz.func56, Tryz.ntmps56
    go_upto_region 1 with fail
    rw [← hV]
    clear hV
    go_wp2_with fail
    go_ret
    exact ⟨true, rfl, ⟨fun _ => .inl HH.out, fun _ => rfl⟩, HB.out⟩
  · have t1 : decide (m.i < (m.a.length : Int)) = false := decide_eq_false h1
    have HH := Lib.hid h1
    clear h1
    obtain ⟨b, hb⟩ : ∃ b : Bool, decide (m.j < (m.b.length : Int)) = b := ⟨_, rfl⟩
    have HK := Lib.hid hb
    cases b
    all_goals
      go_enter Tryz.func56, Tryz.ntmps56
      go_upto_region 1 with fail
      rw [← hV]
      clear hV
      go_wp2_with fail
      go_ret
    · refine ⟨false, rfl, ⟨fun h => (by cases h), fun h => ?_⟩, HB.out⟩
      exfalso
      have h1 := HH.out
      have h2 := of_decide_eq_false HK.out
      omega
    · exact ⟨true, rfl, ⟨fun _ => .inr (of_decide_eq_true HK.out), fun _ => rfl⟩, HB.out⟩
theorem none_ok {f : List Tm} : BatchOk f [] ↔ FrontOk f := ⟨fun h => h.1, fun h => ⟨h, ⟨fun u hu => (by cases hu), List.Pairwise.nil, rfl⟩, fun u hu => (by cases hu)⟩⟩
set_option maxRecDepth 100000 in
set_option maxHeartbeats 1600000 in
theorem frontier_anyS (A : Option Addr) (c : Nat) (f : List Tm) (w : World) (hf : Times w w.heap.size A f) (hfo : TsOk f c) : Calls Tryz.prog 24 #[.slice A f.length c] w (Tells (FrontOk f) w) := by
  have y1 := Lib.hid (bcheck_any ⟨A, c, f, none, 0, []⟩ w ⟨hf, ⟨Lies.nil_, fun u hu => by cases hu⟩⟩ ⟨hfo, us_nil⟩)
  have HN := Lib.hid (none_ok (f := f))
  unfold Bt.val at y1
  dsimp only [List.length_nil] at y1
  clear hf hfo
  go_enter Tryz.func24, Tryz.ntmps24
  go_wp2_with fail
  refine y1.out.mono ?_
  rintro _ w1 ⟨n, rfl, hn, b1⟩
  have HX := Lib.hid (And.intro hn b1)
  obtain ⟨b, hb⟩ : ∃ b : Bool, (n == 0) = b := ⟨_, rfl⟩
  have HK := Lib.hid hb
  clear hn b1 hb y1
  have hb := HK.out
  go_wp2_with fail
  go_ret
  refine ⟨b, rfl, ?_, HX.out.2⟩
  rw [← HN.out, ← HK.out]
  rcases HX.out.1 with ⟨h1, h2⟩ | ⟨h1, h2⟩
  · rw [h2]; exact ⟨fun _ => h1, fun _ => rfl⟩
  · rw [h2]; exact ⟨fun h => (by cases h), fun h => absurd h h1⟩
theorem two_alloc (V : World) (t1 t2 : TypeId) (l1 l2 : List Value) : Own ((V.alloc (.cells l1.toArray t1)).alloc (.cells l2.toArray t2)).drew V.heap.size t1 l1 ∧ Own ((V.alloc (.cells l1.toArray t1)).alloc (.cells l2.toArray t2)).drew (V.heap.size + 1) t2 l2 ∧ Below V.heap.size V ((V.alloc (.cells l1.toArray t1)).alloc (.cells l2.toArray t2)).drew := by
  refine ⟨own_drewKS ((Own.made V t1 l1).more _), ?_, Below.drew (((Below.refl _ _).alloc (Nat.le_refl _) _).alloc (by simp) _)⟩
  have := Own.made (V.alloc (.cells l1.toArray t1)) t2 l2
  simp only [World.size_alloc] at this
  exact own_drewKS this
end Go.Proofs.YtenjlhlighkenaaGreat
namespace Go.Proofs.YtenjlhlighkenaaGreat
open Go Go.RowKit

def posI (L : List Lv) (c : Int) : Int := if posC L c = L.length then -1 else (posC L c : Int)
structure Kin (w : World) (bx : Nat) (c : Int) : Prop where
  cell : w.cell? ⟨bx, 0, none⟩ = some (.int .i64 c)
  inside : bx < w.heap.size
theorem Kin.past {w w' : World} {bx : Nat} {c : Int} (h : Kin w bx c) (hb : Below w.heap.size w w') : Kin w' bx c :=
  ⟨(hb.cell (p := ⟨bx, 0, none⟩) h.inside).trans h.cell, Nat.lt_of_lt_of_le h.inside hb.size⟩
theorem lies_lv {w : World} {B : Nat} {A : Option Addr} {L : List Lv} (h : Lies 10 Lv.cells w B A L) (hp : 0 < L.length) :
    ∃ b o, A = some ⟨b, o, none⟩ ∧ b < B ∧ ∀ (i : Nat) (l : Lv), L[i]? = some l → ∀ (j : Nat) (u : Value), l.cells[j]? = some u → w.cell? ⟨b, o + i * 10 + j, none⟩ = some u := h hp
theorem lv_ten {w : World} {b o : Nat} {l : Lv} (h : ∀ (j : Nat) (u : Value), l.cells[j]? = some u → w.cell? ⟨b, o + j, none⟩ = some u) :
    w.cell? ⟨b, o, none⟩ = some (.int .i64 l.cls) ∧ w.cell? ⟨b, o + 1, none⟩ = some (.bool l.busy) ∧ w.cell? ⟨b, o + 2, none⟩ = some (.slice l.b.sA l.b.f.length l.b.sc) ∧ w.cell? ⟨b, o + 3, none⟩ = some (.slice l.b.uA l.b.l.length l.b.uc) ∧
      w.cell? ⟨b, o + 4, none⟩ = some (.slice l.m.aA l.m.a.length l.m.ac) ∧ w.cell? ⟨b, o + 5, none⟩ = some (.slice l.m.bA l.m.b.length l.m.bc) ∧ w.cell? ⟨b, o + 6, none⟩ = some (.int .i64 l.m.i) ∧ w.cell? ⟨b, o + 7, none⟩ = some (.int .i64 l.m.j) ∧
      w.cell? ⟨b, o + 8, none⟩ = some (.slice l.m.sA l.m.f.length l.m.sc) ∧ w.cell? ⟨b, o + 9, none⟩ = some (.slice l.m.oA l.m.o.length l.m.oc) :=
  ⟨h 0 _ rfl, h 1 _ rfl, h 2 _ rfl, h 3 _ rfl, h 4 _ rfl, h 5 _ rfl, h 6 _ rfl, h 7 _ rfl, h 8 _ rfl, h 9 _ rfl⟩
set_option maxRecDepth 100000 in
set_option maxHeartbeats 3200000 in
theorem putf_any (l : Lv) (bx : Nat) (c : Int) (w : World) (hk : Kin w bx c) :
    Calls Tryz.prog 50 #[l.val, .pointer (some ⟨bx, 0, none⟩)] w fun e w' => e = .returned (.bool (decide (l.cls ≤ c))) ∧ Below w.heap.size w w' := by
  obtain ⟨V, hV, hvb, hvs, hvo⟩ := lvbox w l
  have k0 := (hk.past hvb).cell
  obtain ⟨d0, d1, d2, d3, d4, d5, d6, d7, d8, d9⟩ := own10 hvo
  have HB := Lib.hid hvb
  rw [show l.val = .agg #[.int .i64 l.cls, .bool l.busy, .slice l.b.sA l.b.f.length l.b.sc, .slice l.b.uA l.b.l.length l.b.uc, .slice l.m.aA l.m.a.length l.m.ac, .slice l.m.bA l.m.b.length l.m.bc, .int .i64 l.m.i, .int .i64 l.m.j, .slice l.m.sA l.m.f.length l.m.sc, .slice l.m.oA l.m.o.length l.m.oc] from rfl]
  clear hk hvb hvs hvo d1 d2 d3 d4 d5 d6 d7 d8 d9
  go_enter Tryz.func50, Tryz.ntmps50
  go_upto_region 1 with fail
  rw [← hV]
  clear hV
  go_wp2_with fail
  go_ret
  exact ⟨rfl, HB.out⟩
set_option maxRecDepth 100000 in
set_option maxHeartbeats 3200000 in
theorem indexS_any (A : Option Addr) (c : Nat) (L : List Lv) (bx : Nat) (k0 : Int) (w : World) (hl : Lies 10 Lv.cells w w.heap.size A L) (hn : L.length ≤ 1048576) (hk : Kin w bx k0) :
    Calls Tryz.prog 49 #[.slice A L.length c, .func (.func 50) #[] #[.pointer (some ⟨bx, 0, none⟩)]] w fun x w' => x = .returned (.int .i64 (posI L k0)) ∧ Below w.heap.size w w' := by
  have Hl := Lib.hid (And.intro hl hk)
  have hu := fun l W h => Lib.hid (putf_any l bx k0 W h)
  unfold Lv.val at hu
  clear hl hk
  go_enter Tryz.func49, Tryz.ntmps49
  go_wp2_with fail
  go_loopw [8] (fun i wr => ∃ k : Nat, i = .int .i64 (k : Int) ∧ k ≤ L.length ∧ Below w.heap.size w wr ∧ ∀ x ∈ L.take k, k0 < x.cls)
    (fun i _ => L.length - (intOf i).toNat)
  case atStart => exact ⟨0, rfl, by omega, Below.refl _ _, fun x hx => by simp at hx⟩
  case round =>
    obtain ⟨k, rfl, hk, hb, he⟩ := hrel
    by_cases hlt : k < L.length
    · have hx : L[k]? = some L[k] := List.getElem?_eq_getElem hlt
      obtain ⟨b, o, rfl, hB, hc⟩ := lies_lv Hl.out.1 (by omega)
      obtain ⟨c0, c1, c2, c3, c4, c5, c6, c7, c8, c9⟩ := lv_ten fun j u hj => (hb.cell (p := ⟨b, o + k * 10 + j, none⟩) hB).trans (hc k _ hx j u hj)
      obtain ⟨l, hl⟩ : ∃ l, l = L[k] := ⟨_, rfl⟩
      rw [← hl] at hx c0 c1 c2 c3 c4 c5 c6 c7 c8 c9
      have hut := hu l wr (Hl.out.2.past hb)
      have hnx : ¬ l.cls ≤ k0 → ∀ x ∈ L.take (k + 1), k0 < x.cls := fun h x hm => by
        rw [List.take_add_one, hx] at hm
        rcases List.mem_append.1 hm with hm | hm
        · exact he x hm
        · obtain rfl : x = l := by simpa using hm
          omega
      have hit : l.cls ≤ k0 → posC L k0 = k := fun h => posC_is he hx h
      have HH := Lib.hid (And.intro hb (And.intro hnx hit))
      have q0 : (0 : Int) ≤ (k : Int) := by omega
      have q1 : (k : Int) < (L.length : Int) := by omega
      clear hb he hx hc hnx hit hu hl
      by_cases hle : l.cls ≤ k0
      · rw [decide_eq_true hle] at hut
        have HT := Lib.hid hle
        clear hle
        go_wp2_with fail
        refine hut.out.mono ?_
        rintro _ w2 ⟨rfl, b2⟩
        have H2 := Lib.hid (HH.out.1.trans (b2.mono HH.out.1.size))
        clear b2 c0 c1 c2 c3 c4 c5 c6 c7 c8 c9
        go_wp2_with fail
        go_ret
        exact ⟨ret_i64 (by unfold posI; rw [HH.out.2.2 HT.out, if_neg (by omega)]), H2.out⟩
      · rw [decide_eq_false hle] at hut
        have HT := Lib.hid hle
        clear hle
        go_wp2_with fail
        refine hut.out.mono ?_
        rintro _ w2 ⟨rfl, b2⟩
        have H2 := Lib.hid (HH.out.1.trans (b2.mono HH.out.1.size))
        clear b2 c0 c1 c2 c3 c4 c5 c6 c7 c8 c9
        go_wp2_with fail
        go_roundw
        case rel => exact ⟨k + 1, by go_num, by omega, H2.out, HH.out.2.1 HT.out⟩
        case measure => simp [intOf]; omega
    · have hk2 : k = L.length := by omega
      subst hk2
      rw [List.take_length] at he
      have HH := Lib.hid (And.intro hb he)
      clear hb he
      go_wp2_with fail
      go_ret
      exact ⟨ret_i64 (by unfold posI; rw [posC_none HH.out.2, if_pos rfl]), HH.out.1⟩
end Go.Proofs.YtenjlhlighkenaaGreat
namespace Go.Proofs.YtenjlhlighkenaaGreat
open Go Go.RowKit

def Hp (P : Nat) (V w : World) : Prop := w.heap[P]? = V.heap[P]?
theorem Hp.refl (P : Nat) (V : World) : Hp P V V := rfl
theorem Hp.set {P R : Nat} {V w : World} (h : Hp P V w) (hR : R ≠ P) (i : Nat) (v : Value) : Hp P V (w.setCell ⟨R, i, none⟩ v) := (Below.heap_setCell w ⟨R, i, none⟩ v P (Ne.symm hR)).trans h
theorem Hp.drew {P : Nat} {V w : World} (h : Hp P V w) : Hp P V w.drew := h
theorem Hp.cell {P i : Nat} {V w : World} {v : Value} (h : Hp P V w) (hc : V.cell? ⟨P, i, none⟩ = some v) : w.cell? ⟨P, i, none⟩ = some v := by
  rw [← hc]
  unfold World.cell?
  rw [show w.heap[P]? = V.heap[P]? from h]
theorem mok_sm {m : Mg} (h : MOk m) (na : m.a.length ≤ 274877906944) (nb : m.b.length ≤ 274877906944) (no : m.o.length ≤ 274877906944) : MgSm m := ⟨h.even.1.2.2, h.even.2.1.2.2, h.even.2.2.2.2, na, nb, no⟩
theorem out_fine {base P R i j k oc : Nat} {m : Mg} {oA : Option Addr} {o : List Up} {w X : World} (h : WSt base P m i j k (.slice oA o.length oc) o w) (hlo : MgLo base m) (hR : R < base) (hs : X.heap.size = w.heap.size) (hX : ∀ b, b ≠ R → X.heap[b]? = w.heap[b]?) : MgIn X X.heap.size (outM m i j oA oc o) ∧ MgLo base (outM m i j oA oc o) := by
  have hl : Lies 6 Up.cells w w.heap.size oA o := by
    obtain ⟨A, c, e, _, _, hh⟩ := lies_of_own (size := 6) (cells := Up.cells) (by decide) ucells_len rfl h.row
    simp only [Value.slice.injEq] at e
    rw [e.1]; exact hh
  have hob : ∀ b o', oA = some (⟨b, o', none⟩ : Addr) → base ≤ b := fun b o' e => by
    subst e
    exact (h.row.lt b rfl).1
  have hlo2 : Lo base oA o := ⟨hob, h.lo⟩
  exact ⟨⟨ups_other h.a (hlo.a.mono (by omega)) hs hX, ups_other h.b (hlo.b.mono (by omega)) hs hX, times_other h.f (hlo.f.mono (by omega)) hs hX, ups_other ⟨hl, h.o_⟩ (hlo2.mono (by omega)) hs hX⟩, ⟨hlo.a, hlo.b, hlo.f, hlo2⟩⟩
theorem wk_box (w : World) (m : Mg) : ∃ V, V = (w.alloc (.cells #[.slice m.aA m.a.length m.ac, .slice m.bA m.b.length m.bc, .int .i64 m.i, .int .i64 m.j, .slice m.sA m.f.length m.sc, .slice m.oA m.o.length m.oc] 63)).alloc (.cells #[.slice none 0 0, .slice none 0 0, .int .i64 0, .int .i64 0, .slice none 0 0, .slice none 0 0] 63) ∧ Below w.heap.size w V ∧ Own V w.heap.size 63 m.cells ∧ Own V (w.heap.size + 1) 63 Mg.nil.cells := mg_box2 w m
set_option maxRecDepth 100000 in
set_option maxHeartbeats 12800000 in
theorem work_any (m : Mg) (fuel : Int) (w : World) (hm : MgIn w w.heap.size m) (hok : MgOk m) (na : m.a.length ≤ 274877906944) (nb : m.b.length ≤ 274877906944) (no : m.o.length ≤ 274877906944) :
    Calls Tryz.prog 53 #[m.val, .int .i64 fuel] w (Worked m fuel w) := by
  obtain ⟨V, hV, hvb, hvo, hvz⟩ := wk_box w m
  have hin := hm.keep hvb
  have y1 := Lib.hid (checkM_any m V hin hok)
  have HB := Lib.hid (And.intro hvb (And.intro hvo hvz))
  have HK := Lib.hid (And.intro hin (And.intro hok (And.intro na (And.intro nb no))))
  have hmv : m.val = .agg #[.slice m.aA m.a.length m.ac, .slice m.bA m.b.length m.bc, .int .i64 m.i, .int .i64 m.j, .slice m.sA m.f.length m.sc, .slice m.oA m.o.length m.oc] := rfl
  rw [hmv] at y1 ⊢
  obtain ⟨d0, d1, d2, d3, d4, d5⟩ := own6 hvo
  clear hm hok hvb hvo hvz hin hmv na nb no
  go_enter Tryz.func53, Tryz.ntmps53
  go_upto_region 1 with fail
  rw [← hV]
  clear hV
  go_wp2_with fail
  refine y1.out.mono ?_
  rintro _ w1 ⟨n, rfl, hn, b1⟩
  have H1 := Lib.hid (And.intro hn (And.intro (HB.out.1.trans (b1.mono HB.out.1.size)) (And.intro (HB.out.2.1.past b1 HB.out.2.1.inside) (And.intro (HB.out.2.2.past b1 HB.out.2.2.inside) (HK.out.1.keep b1)))))
  clear d0 d1 d2 d3 d4 d5 b1 y1 hn
  by_cases h0 : n = 0
  case neg =>
    have t1 : (n != 0) = true := bne_iff_ne.2 h0
    obtain ⟨f0, f1, f2, f3, f4, f5⟩ := own_frozen6 H1.out.2.2.2.1
    obtain ⟨z0, z1, z2, z3, z4, z5⟩ := own6 H1.out.2.2.2.1
    obtain ⟨X, hX', hXo, hXb, hXs, hXh⟩ := own_six H1.out.2.2.2.1 (.slice none 0 0) (.slice none 0 0) (.int .i64 0) (.int .i64 0) (.slice none 0 0) (.slice none 0 0)
    have HX := Lib.hid (And.intro (hXb w.heap.size w H1.out.2.1 (by omega)) hXo)
    have HR := Lib.hid hX'
    have H0 := Lib.hid h0
    clear hXo hXb hXs hXh hX' h0
    go_wp2_with fail
    rw [← HR.out]
    obtain ⟨x0, x1, x2, x3, x4, x5⟩ := own6 HX.out.2
    exact bodyPost_ret (v := .tuple #[.agg #[.slice none 0 0, .slice none 0 0, .int .i64 0, .int .i64 0, .slice none 0 0, .slice none 0 0], .int .i64 0, .int .i64 n]) (by simp [results, Tryz.results53, go_sem, x0, x1, x2, x3, x4, x5]) rfl ⟨Mg.nil, 0, n, rfl, .inl (by
      rcases H1.out.1 with ⟨_, e⟩ | ⟨e, e2⟩
      · exact absurd e H0.out
      · exact ⟨e, rfl, rfl, e2⟩), mg_nil_in _ _, mg_nil_ok, mg_nil_lo _, HX.out.1⟩
  subst h0
  have hmok : MOk m := by
    rcases H1.out.1 with ⟨e, _⟩ | ⟨_, e⟩
    · exact e
    · omega
  have y2 := Lib.hid (copyM_any m w1 H1.out.2.2.2.2 HK.out.2.1 (mok_sm hmok HK.out.2.2.1 HK.out.2.2.2.1 HK.out.2.2.2.2))
  obtain ⟨d0, d1, d2, d3, d4, d5⟩ := own6 H1.out.2.2.1
  have HM := Lib.hid hmok
  rw [show m.val = .agg #[.slice m.aA m.a.length m.ac, .slice m.bA m.b.length m.bc, .int .i64 m.i, .int .i64 m.j, .slice m.sA m.f.length m.sc, .slice m.oA m.o.length m.oc] from rfl] at y2
  clear hmok
  go_wp2_with fail
  refine y2.out.mono ?_
  rintro _ w2 ⟨m1, rfl, hs1, hi1, ho1, hl1, b2, ha1⟩
  clear d0 d1 d2 d3 d4 d5 y2
  -- loop
  unfold Mg.val
  obtain ⟨i1, hi1'⟩ : ∃ i : Nat, m1.i = (i : Int) := ⟨m1.i.toNat, by have := HM.out.da.lo; rw [hs1.i]; omega⟩
  obtain ⟨j1, hj1'⟩ : ∃ j : Nat, m1.j = (j : Int) := ⟨m1.j.toNat, by have := HM.out.db.lo; rw [hs1.j]; omega⟩
  have hi1l : i1 ≤ m1.a.length := by have := HM.out.da.hi; have h3 := hs1.i; rw [len_p hs1.a]; omega
  have hj1l : j1 ≤ m1.b.length := by have := HM.out.db.hi; have h3 := hs1.j; rw [len_p hs1.b]; omega
  rw [hi1', hj1']
  obtain ⟨V2, hV2⟩ : ∃ V2, V2 = w2.alloc (.cells #[.slice m1.aA m1.a.length m1.ac, .slice m1.bA m1.b.length m1.bc, .int .i64 (i1 : Int), .int .i64 (j1 : Int), .slice m1.sA m1.f.length m1.sc, .slice m1.oA m1.o.length m1.oc, .int .i64 0] 154) := ⟨_, rfl⟩
  have hst0 := wst_start hi1 ho1 ha1 hi1' hj1' b2.size hl1 hV2
  have hbV2 : Below w1.heap.size w2 V2 := by rw [hV2]; exact (Below.refl _ _).alloc b2.size _
  have hla := len_p hs1.a
  have hlb := len_p hs1.b
  have hlo := len_p hs1.o
  have hnA : m1.a.length ≤ 274877906944 := by rw [hla]; exact HK.out.2.2.1
  have hnB : m1.b.length ≤ 274877906944 := by rw [hlb]; exact HK.out.2.2.2.1
  have hnO : m1.o.length ≤ 274877906944 := by rw [hlo]; exact HK.out.2.2.2.2
  have hRz := (H1.out.2.2.2.1.past b2 H1.out.2.2.2.1.inside).past hbV2 H1.out.2.2.2.1.inside
  have hNl : (m.a.length - m.i.toNat) + (m.b.length - m.j.toNat) = (m1.a.length - i1) + (m1.b.length - j1) := by have h3 := hs1.i; have h4 := hs1.j; rw [hla, hlb]; omega
  have hii : m.i.toNat = i1 := by have h3 := hs1.i; omega
  have hjj : m.j.toNat = j1 := by have h3 := hs1.j; omega
  have H2 := Lib.hid (And.intro (And.intro H1.out.2.1.size H1.out.2.2.2.1.inside) (And.intro (show Below w.heap.size w V2 from (H1.out.2.1.trans (b2.mono H1.out.2.1.size)).trans (hbV2.mono H1.out.2.1.size)) (And.intro hRz (And.intro ho1 (And.intro hs1 (And.intro hl1 (And.intro ha1 (And.intro (And.intro hNl (And.intro hii hjj)) hst0))))))))
  have hP2 : w2.heap.size < V2.heap.size := hst0.own.inside
  obtain ⟨P, hP⟩ : ∃ P, P = w2.heap.size := ⟨_, rfl⟩
  have HST := Lib.hid (show WSt w1.heap.size P m1 i1 j1 0 (.slice m1.oA m1.o.length m1.oc) m1.o V2 from hP ▸ hst0)
  clear hs1 hi1 ho1 hl1 b2 ha1 hi1' hj1' hst0 hbV2 hla hlb hlo hRz hNl hii hjj hP2
  go_wp2_with fail
  rw [← hV2, ← hP]
  clear hV2 hP
  go_loopw [9] (fun _ wr => ∃ (i j k : Nat) (v : Value) (o : List Up) (n : Nat), WSt w1.heap.size P m1 i j k v o wr ∧ Below w1.heap.size V2 wr ∧ i ≤ m1.a.length ∧ j ≤ m1.b.length ∧ k ≤ i + j ∧ o.length + (m1.a.length - i) + (m1.b.length - j) ≤ 824633720832 ∧
      workM m1.f fuel ((m1.a.length - i1) + (m1.b.length - j1)) (curM m1 i1 j1 0 m1.o) = workM m1.f fuel n (curM m1 i j k o) ∧ (m1.a.length - i) + (m1.b.length - j) ≤ n)
    (fun _ wr => m1.a.length + m1.b.length - ((intOf ((wr.cell? ⟨P, 2, none⟩).getD undef)).toNat + (intOf ((wr.cell? ⟨P, 3, none⟩).getD undef)).toNat))
  case atStart => exact ⟨i1, j1, 0, _, m1.o, _, HST.out, Below.refl _ _, hi1l, hj1l, by omega, by omega, rfl, Nat.le_refl _⟩
  case round =>
    obtain ⟨i, j, k, v, o, n, hws, hbv, hi, hj, hk, hsz, hw, hn⟩ := hrel
    obtain ⟨oA, oc, hv, _, _, _⟩ := lies_of_own (size := 6) (cells := Up.cells) (by decide) ucells_len rfl hws.row
    subst hv
    obtain ⟨wi, hwi⟩ : ∃ wi, wi = wr := ⟨_, rfl⟩
    subst hwi
    have y1 := Lib.hid (left_any P m1 i j k _ wi hws.own (by omega) (by omega) (by omega) (by omega))
    have HN := Lib.hid (And.intro hi (And.intro hj (And.intro hk (And.intro hsz (And.intro hw hn)))))
    have HW := Lib.hid (And.intro hws hbv)
    clear hws hbv hw
    have HC := Lib.hid (show WSt w1.heap.size P m1 i j k (.slice oA o.length oc) o wi ∧ Below w1.heap.size V2 wi from HW.out)
    obtain ⟨c0, c1, c2, c3, c4, c5, c6⟩ := own7 HC.out.1.own
    by_cases hlf : i < m1.a.length ∨ j < m1.b.length
    case neg =>
      have hD : decide (i < m1.a.length ∨ j < m1.b.length) = false := decide_eq_false hlf
      rw [hD] at y1
      have HE := Lib.hid (show workM m1.f fuel n (curM m1 i j k o) = { curM m1 i j k o with E := 0 } from work_none (cur_none (by omega) (by omega)) n)
      clear hD hlf c0 c1 c2 c3 c4 c5 c6
      go_wp2_with fail
      refine y1.out.mono ?_
      rintro _ wl ⟨rfl, q, hq⟩
      have h9 : WSt w1.heap.size P m1 i j k (.slice oA o.length oc) o wl := hq ▸ HC.out.1.past (below_draws (Below.refl _ _) q)
      have b9 : Below w1.heap.size V2 wl := hq ▸ below_draws HC.out.2 q
      have HQ := Lib.hid (And.intro h9 b9)
      have hC := fun p : Past wl => own7 ((h9.past p.h).own)
      clear hq h9 b9 y1
      have hwt := hC ⟨wl, Below.refl _ _⟩
      obtain ⟨c0, c1, c2, c3, c4, c5, c6⟩ := hwt
      dsimp only at c0 c1 c2 c3 c4 c5 c6
      have HS := Lib.hid (fun W (h : Hp P wl W) => (⟨h.cell c0, h.cell c1, h.cell c2, h.cell c3, h.cell c4, h.cell c5, h.cell c6⟩ : W.cell? ⟨P, 0, none⟩ = some (.slice m1.aA m1.a.length m1.ac) ∧ W.cell? ⟨P, 1, none⟩ = some (.slice m1.bA m1.b.length m1.bc) ∧ W.cell? ⟨P, 2, none⟩ = some (.int .i64 (i : Int)) ∧ W.cell? ⟨P, 3, none⟩ = some (.int .i64 (j : Int)) ∧ W.cell? ⟨P, 4, none⟩ = some (.slice m1.sA m1.f.length m1.sc) ∧ W.cell? ⟨P, 5, none⟩ = some (.slice oA o.length oc) ∧ W.cell? ⟨P, 6, none⟩ = some (.int .i64 (k : Int))))
      have hself := Hp.refl P wl
      have hRP : w.heap.size + 1 ≠ P := by have h1 := H2.out.1.2; have h2 := HST.out.base_; omega
      have hwz := (H2.out.2.2.1.past HQ.out.2 (by have := H2.out.1.2; omega))
      obtain ⟨f0, f1, f2, f3, f4, f5⟩ := own_frozen6 hwz
      obtain ⟨z0, z1, z2, z3, z4, z5⟩ := own6 hwz
      clear hwz
      go_upto_region 9 with fail
      have HDR := Lib.hid (Below.drew (Below.refl wl.heap.size wl))
      go_region_held3 (fun w' => Hp P wl w' ∧ (w'.cell? ⟨P, 0, none⟩ = some (.slice m1.aA m1.a.length m1.ac) ∧ w'.cell? ⟨P, 1, none⟩ = some (.slice m1.bA m1.b.length m1.bc) ∧ w'.cell? ⟨P, 2, none⟩ = some (.int .i64 (i : Int)) ∧ w'.cell? ⟨P, 3, none⟩ = some (.int .i64 (j : Int)) ∧ w'.cell? ⟨P, 4, none⟩ = some (.slice m1.sA m1.f.length m1.sc) ∧ w'.cell? ⟨P, 5, none⟩ = some (.slice oA o.length oc) ∧ w'.cell? ⟨P, 6, none⟩ = some (.int .i64 (k : Int))))
        ((refine (fun h => And.intro h (HS.out _ h)) ?_; repeat (first | with_reducible exact hself | with_reducible refine Hp.set ?_ hRP _ _ | with_reducible refine Hp.drew ?_)))
        (fail)
      clear c0 c1 c2 c3 c4 c5 c6 f0 f1 f2 f3 f4 f5 z0 z1 z2 z3 z4 z5 hself
      have hz := (H2.out.2.2.1.past HQ.out.2 (by have := H2.out.1.2; omega))
      have hst := HQ.out.1
      have hbb := HQ.out.2
      obtain ⟨X, hX', hXo, hXb, hXs, hXh⟩ := own_six hz (.slice m1.aA m1.a.length m1.ac) (.slice m1.bA m1.b.length m1.bc) (.int .i64 (i : Int)) (.int .i64 (j : Int)) (.slice m1.sA m1.f.length m1.sc) (.slice oA o.length oc)
      obtain ⟨r1, r2⟩ := out_fine (R := w.heap.size + 1) hst H2.out.2.2.2.2.2.1 H2.out.1.2 hXs hXh
      have HX := Lib.hid (And.intro (Below.drew (hXb w.heap.size w (H2.out.2.1.trans (hbb.mono H2.out.1.1)) (by omega))) (And.intro (own_drew' hXo) (And.intro (show MgIn X.drew X.drew.heap.size (outM m1 i j oA oc o) from r1.keep (Below.drew (Below.refl _ _))) (r2.mono H2.out.1.1))))
      have HR := Lib.hid hX'
      clear hst hbb hz hXo hXb hXs hXh hX' hC r1 r2 HS HDR
      go_wp2_with fail
      rw [← HR.out]
      obtain ⟨x0, x1, x2, x3, x4, x5⟩ := own6 HX.out.2.1
      exact bodyPost_ret (v := .tuple #[.agg #[.slice m1.aA m1.a.length m1.ac, .slice m1.bA m1.b.length m1.bc, .int .i64 (i : Int), .int .i64 (j : Int), .slice m1.sA m1.f.length m1.sc, .slice oA o.length oc], .int .i64 (k : Int), .int .i64 0]) (by simp [results, Tryz.results53, go_sem, x0, x1, x2, x3, x4, x5]) rfl ⟨outM m1 i j oA oc o, k, 0, rfl, .inr ⟨HM.out, ⟨H2.out.2.2.2.2.1.a, H2.out.2.2.2.2.1.b, H2.out.2.2.2.2.1.f, work_fin H2.out.2.2.2.2.1 HN.out.2.2.2.2.1 HN.out.1 HN.out.2.1 H2.out.2.2.2.2.2.2.2.1 HE.out⟩⟩, HX.out.2.2.1, ⟨H2.out.2.2.2.1.a, H2.out.2.2.2.1.b, H2.out.2.2.2.1.f, ⟨by have := HN.out.2.2.2.1; show o.length ≤ _; omega, HQ.out.1.ok⟩, ⟨by show -9223372036854775808 ≤ (i : Int); omega, by show (i : Int) ≤ 9223372036854775807; omega⟩, ⟨by show -9223372036854775808 ≤ (j : Int); omega, by show (j : Int) ≤ 9223372036854775807; omega⟩⟩, HX.out.2.2.2, HX.out.1⟩
    have hD : decide (i < m1.a.length ∨ j < m1.b.length) = true := decide_eq_true hlf
    rw [hD] at y1
    by_cases hf : (k : Int) < fuel
    case neg =>
      have t1 : decide ((k : Int) < fuel) = false := decide_eq_false hf
      have HE := Lib.hid (show workM m1.f fuel n (curM m1 i j k o) = { curM m1 i j k o with E := 0 } from work_full hf n)
      clear hD hlf hf c0 c1 c2 c3 c4 c5 c6
      go_wp2_with fail
      refine y1.out.mono ?_
      rintro _ wl ⟨rfl, q, hq⟩
      have h9 : WSt w1.heap.size P m1 i j k (.slice oA o.length oc) o wl := hq ▸ HC.out.1.past (below_draws (Below.refl _ _) q)
      have b9 : Below w1.heap.size V2 wl := hq ▸ below_draws HC.out.2 q
      have HQ := Lib.hid (And.intro h9 b9)
      have hC := fun p : Past wl => own7 ((h9.past p.h).own)
      obtain ⟨c0, c1, c2, c3, c4, c5, c6⟩ := own7 h9.own
      clear hq h9 b9 y1
      have hwt := hC ⟨wl, Below.refl _ _⟩
      obtain ⟨c0, c1, c2, c3, c4, c5, c6⟩ := hwt
      dsimp only at c0 c1 c2 c3 c4 c5 c6
      have HS := Lib.hid (fun W (h : Hp P wl W) => (⟨h.cell c0, h.cell c1, h.cell c2, h.cell c3, h.cell c4, h.cell c5, h.cell c6⟩ : W.cell? ⟨P, 0, none⟩ = some (.slice m1.aA m1.a.length m1.ac) ∧ W.cell? ⟨P, 1, none⟩ = some (.slice m1.bA m1.b.length m1.bc) ∧ W.cell? ⟨P, 2, none⟩ = some (.int .i64 (i : Int)) ∧ W.cell? ⟨P, 3, none⟩ = some (.int .i64 (j : Int)) ∧ W.cell? ⟨P, 4, none⟩ = some (.slice m1.sA m1.f.length m1.sc) ∧ W.cell? ⟨P, 5, none⟩ = some (.slice oA o.length oc) ∧ W.cell? ⟨P, 6, none⟩ = some (.int .i64 (k : Int))))
      have hself := Hp.refl P wl
      have hRP : w.heap.size + 1 ≠ P := by have h1 := H2.out.1.2; have h2 := HST.out.base_; omega
      have hwz := (H2.out.2.2.1.past HQ.out.2 (by have := H2.out.1.2; omega))
      obtain ⟨f0, f1, f2, f3, f4, f5⟩ := own_frozen6 hwz
      obtain ⟨z0, z1, z2, z3, z4, z5⟩ := own6 hwz
      clear hwz
      go_upto_region 9 with fail
      have HDR := Lib.hid (Below.drew (Below.refl wl.heap.size wl))
      go_region_held3 (fun w' => Hp P wl w' ∧ (w'.cell? ⟨P, 0, none⟩ = some (.slice m1.aA m1.a.length m1.ac) ∧ w'.cell? ⟨P, 1, none⟩ = some (.slice m1.bA m1.b.length m1.bc) ∧ w'.cell? ⟨P, 2, none⟩ = some (.int .i64 (i : Int)) ∧ w'.cell? ⟨P, 3, none⟩ = some (.int .i64 (j : Int)) ∧ w'.cell? ⟨P, 4, none⟩ = some (.slice m1.sA m1.f.length m1.sc) ∧ w'.cell? ⟨P, 5, none⟩ = some (.slice oA o.length oc) ∧ w'.cell? ⟨P, 6, none⟩ = some (.int .i64 (k : Int))))
        ((refine (fun h => And.intro h (HS.out _ h)) ?_; repeat (first | with_reducible exact hself | with_reducible refine Hp.set ?_ hRP _ _ | with_reducible refine Hp.drew ?_)))
        (fail)
      clear c0 c1 c2 c3 c4 c5 c6 f0 f1 f2 f3 f4 f5 z0 z1 z2 z3 z4 z5 hself
      have hz := (H2.out.2.2.1.past HQ.out.2 (by have := H2.out.1.2; omega))
      have hst := HQ.out.1
      have hbb := HQ.out.2
      obtain ⟨X, hX', hXo, hXb, hXs, hXh⟩ := own_six hz (.slice m1.aA m1.a.length m1.ac) (.slice m1.bA m1.b.length m1.bc) (.int .i64 (i : Int)) (.int .i64 (j : Int)) (.slice m1.sA m1.f.length m1.sc) (.slice oA o.length oc)
      obtain ⟨r1, r2⟩ := out_fine (R := w.heap.size + 1) hst H2.out.2.2.2.2.2.1 H2.out.1.2 hXs hXh
      have HX := Lib.hid (And.intro (Below.drew (hXb w.heap.size w (H2.out.2.1.trans (hbb.mono H2.out.1.1)) (by omega))) (And.intro (own_drew' hXo) (And.intro (show MgIn X.drew X.drew.heap.size (outM m1 i j oA oc o) from r1.keep (Below.drew (Below.refl _ _))) (r2.mono H2.out.1.1))))
      have HR := Lib.hid hX'
      clear hst hbb hz hXo hXb hXs hXh hX' hC r1 r2 HS HDR
      go_wp2_with fail
      rw [← HR.out]
      obtain ⟨x0, x1, x2, x3, x4, x5⟩ := own6 HX.out.2.1
      exact bodyPost_ret (v := .tuple #[.agg #[.slice m1.aA m1.a.length m1.ac, .slice m1.bA m1.b.length m1.bc, .int .i64 (i : Int), .int .i64 (j : Int), .slice m1.sA m1.f.length m1.sc, .slice oA o.length oc], .int .i64 (k : Int), .int .i64 0]) (by simp [results, Tryz.results53, go_sem, x0, x1, x2, x3, x4, x5]) rfl ⟨outM m1 i j oA oc o, k, 0, rfl, .inr ⟨HM.out, ⟨H2.out.2.2.2.2.1.a, H2.out.2.2.2.2.1.b, H2.out.2.2.2.2.1.f, work_fin H2.out.2.2.2.2.1 HN.out.2.2.2.2.1 HN.out.1 HN.out.2.1 H2.out.2.2.2.2.2.2.2.1 HE.out⟩⟩, HX.out.2.2.1, ⟨H2.out.2.2.2.1.a, H2.out.2.2.2.1.b, H2.out.2.2.2.1.f, ⟨by have := HN.out.2.2.2.1; show o.length ≤ _; omega, HQ.out.1.ok⟩, ⟨by show -9223372036854775808 ≤ (i : Int); omega, by show (i : Int) ≤ 9223372036854775807; omega⟩, ⟨by show -9223372036854775808 ≤ (j : Int); omega, by show (j : Int) ≤ 9223372036854775807; omega⟩⟩, HX.out.2.2.2, HX.out.1⟩
    have t1 : decide ((k : Int) < fuel) = true := decide_eq_true hf
    have hA9 := H2.out.2.2.2.2.2.2.1
    have HT := Lib.hid (And.intro hf hlf)
    clear hD hf c0 c1 c2 c3 c4 c5 c6
    go_wp2_with fail
    refine y1.out.mono ?_
    rintro _ wl ⟨rfl, q, hq⟩
    have h9 : WSt w1.heap.size P m1 i j k (.slice oA o.length oc) o wl := hq ▸ HC.out.1.past (below_draws (Below.refl _ _) q)
    have b9 : Below w1.heap.size V2 wl := hq ▸ below_draws HC.out.2 q
    have y3 := Lib.hid (step_anyB w1.heap.size P m1 i j k (.slice oA o.length oc) o wl h9 hA9.na hA9.nb H2.out.2.2.2.1.a H2.out.2.2.2.1.b H2.out.2.2.2.1.f hA9.ac hA9.bc HN.out.1 HN.out.2.1 HT.out.2 (by omega) HN.out.2.2.2.1)
    obtain ⟨c0, c1, c2, c3, c4, c5, c6⟩ := own7 h9.own
    have HZ := Lib.hid b9
    clear hq h9 b9 y1 hA9 hlf
    go_wp2_with fail
    refine y3.out.mono ?_
    rintro _ w5 ⟨u, E, hnx, hE, rfl, b5, hor⟩
    clear c0 c1 c2 c3 c4 c5 c6 y3
    by_cases h0 : E = 0
    case neg =>
      have t2 : (E != 0) = true := bne_iff_ne.2 h0
      have h5 : WSt w1.heap.size P m1 i j k (.slice oA o.length oc) o w5 := by
        rcases hor with ⟨_, h⟩ | ⟨e, _⟩
        · exact h
        · exact absurd e h0
      have hn0 : 0 < n := by have := HT.out.2; omega
      have HE := Lib.hid (show workM m1.f fuel n (curM m1 i j k o) = { curM m1 i j k o with E := E } from by
        obtain ⟨n', rfl⟩ : ∃ n', n = n' + 1 := ⟨n - 1, by omega⟩
        have hc : consE [advL m1.f (grp u (curM m1 i j k o).ra ++ grp u (curM m1 i j k o).rb)] ≠ 0 := fun h => h0 (hE.trans h)
        rw [work_err HT.out.1 hnx hc, hE]
        rfl)
      have HQ := Lib.hid (And.intro h5 (HZ.out.trans b5))
      have hC := fun p : Past w5 => own7 ((h5.past p.h).own)
      clear hor h0 hE hnx b5 h5 hn0
      have hwt := hC ⟨w5, Below.refl _ _⟩
      obtain ⟨c0, c1, c2, c3, c4, c5, c6⟩ := hwt
      dsimp only at c0 c1 c2 c3 c4 c5 c6
      have HS := Lib.hid (fun W (h : Hp P w5 W) => (⟨h.cell c0, h.cell c1, h.cell c2, h.cell c3, h.cell c4, h.cell c5, h.cell c6⟩ : W.cell? ⟨P, 0, none⟩ = some (.slice m1.aA m1.a.length m1.ac) ∧ W.cell? ⟨P, 1, none⟩ = some (.slice m1.bA m1.b.length m1.bc) ∧ W.cell? ⟨P, 2, none⟩ = some (.int .i64 (i : Int)) ∧ W.cell? ⟨P, 3, none⟩ = some (.int .i64 (j : Int)) ∧ W.cell? ⟨P, 4, none⟩ = some (.slice m1.sA m1.f.length m1.sc) ∧ W.cell? ⟨P, 5, none⟩ = some (.slice oA o.length oc) ∧ W.cell? ⟨P, 6, none⟩ = some (.int .i64 (k : Int))))
      have hself := Hp.refl P w5
      have hRP : w.heap.size + 1 ≠ P := by have h1 := H2.out.1.2; have h2 := HST.out.base_; omega
      have hwz := (H2.out.2.2.1.past HQ.out.2 (by have := H2.out.1.2; omega))
      obtain ⟨f0, f1, f2, f3, f4, f5⟩ := own_frozen6 hwz
      obtain ⟨z0, z1, z2, z3, z4, z5⟩ := own6 hwz
      clear hwz
      go_upto_region 8 with fail
      have HDR := Lib.hid (Below.drew (Below.refl w5.heap.size w5))
      go_region_held3 (fun w' => Hp P w5 w' ∧ (w'.cell? ⟨P, 0, none⟩ = some (.slice m1.aA m1.a.length m1.ac) ∧ w'.cell? ⟨P, 1, none⟩ = some (.slice m1.bA m1.b.length m1.bc) ∧ w'.cell? ⟨P, 2, none⟩ = some (.int .i64 (i : Int)) ∧ w'.cell? ⟨P, 3, none⟩ = some (.int .i64 (j : Int)) ∧ w'.cell? ⟨P, 4, none⟩ = some (.slice m1.sA m1.f.length m1.sc) ∧ w'.cell? ⟨P, 5, none⟩ = some (.slice oA o.length oc) ∧ w'.cell? ⟨P, 6, none⟩ = some (.int .i64 (k : Int))))
        ((refine (fun h => And.intro h (HS.out _ h)) ?_; repeat (first | with_reducible exact hself | with_reducible refine Hp.set ?_ hRP _ _ | with_reducible refine Hp.drew ?_)))
        (fail)
      clear c0 c1 c2 c3 c4 c5 c6 f0 f1 f2 f3 f4 f5 z0 z1 z2 z3 z4 z5 hself
      have hz := (H2.out.2.2.1.past HQ.out.2 (by have := H2.out.1.2; omega))
      have hst := HQ.out.1
      have hbb := HQ.out.2
      obtain ⟨X, hX', hXo, hXb, hXs, hXh⟩ := own_six hz (.slice m1.aA m1.a.length m1.ac) (.slice m1.bA m1.b.length m1.bc) (.int .i64 (i : Int)) (.int .i64 (j : Int)) (.slice m1.sA m1.f.length m1.sc) (.slice oA o.length oc)
      obtain ⟨r1, r2⟩ := out_fine (R := w.heap.size + 1) hst H2.out.2.2.2.2.2.1 H2.out.1.2 hXs hXh
      have HX := Lib.hid (And.intro (Below.drew (hXb w.heap.size w (H2.out.2.1.trans (hbb.mono H2.out.1.1)) (by omega))) (And.intro (own_drew' hXo) (And.intro (show MgIn X.drew X.drew.heap.size (outM m1 i j oA oc o) from r1.keep (Below.drew (Below.refl _ _))) (r2.mono H2.out.1.1))))
      have HR := Lib.hid hX'
      clear hst hbb hz hXo hXb hXs hXh hX' hC r1 r2 HS HDR
      go_wp2_with fail
      rw [← HR.out]
      obtain ⟨x0, x1, x2, x3, x4, x5⟩ := own6 HX.out.2.1
      exact bodyPost_ret (v := .tuple #[.agg #[.slice m1.aA m1.a.length m1.ac, .slice m1.bA m1.b.length m1.bc, .int .i64 (i : Int), .int .i64 (j : Int), .slice m1.sA m1.f.length m1.sc, .slice oA o.length oc], .int .i64 (k : Int), .int .i64 E]) (by simp [results, Tryz.results53, go_sem, x0, x1, x2, x3, x4, x5]) rfl ⟨outM m1 i j oA oc o, k, E, rfl, .inr ⟨HM.out, ⟨H2.out.2.2.2.2.1.a, H2.out.2.2.2.2.1.b, H2.out.2.2.2.2.1.f, work_fin H2.out.2.2.2.2.1 HN.out.2.2.2.2.1 HN.out.1 HN.out.2.1 H2.out.2.2.2.2.2.2.2.1 HE.out⟩⟩, HX.out.2.2.1, ⟨H2.out.2.2.2.1.a, H2.out.2.2.2.1.b, H2.out.2.2.2.1.f, ⟨by have := HN.out.2.2.2.1; show o.length ≤ _; omega, HQ.out.1.ok⟩, ⟨by show -9223372036854775808 ≤ (i : Int); omega, by show (i : Int) ≤ 9223372036854775807; omega⟩, ⟨by show -9223372036854775808 ≤ (j : Int); omega, by show (j : Int) ≤ 9223372036854775807; omega⟩⟩, HX.out.2.2.2, HX.out.1⟩
    subst h0
    obtain ⟨v', e, he, h5⟩ : ∃ (v' : Value) (e : List Up), e.map Up.p = consL [advL m1.f (grp u (m1.a.drop i) ++ grp u (m1.b.drop j))] ∧ WSt w1.heap.size P m1 (i + (grp u (m1.a.drop i)).length) (j + (grp u (m1.b.drop j)).length) (k + ((grp u (m1.a.drop i)).length + (grp u (m1.b.drop j)).length)) v' (o ++ e) w5 := by
      rcases hor with ⟨h, _⟩ | ⟨_, h⟩
      · exact absurd rfl h
      · exact h
    have hpos := grp_pos hnx
    have hg1 := grp_lens u m1.a i
    have hg2 := grp_lens u m1.b j
    have hel : e.length ≤ (grp u (m1.a.drop i)).length + (grp u (m1.b.drop j)).length := by
      have := consL_len [advL m1.f (grp u (m1.a.drop i) ++ grp u (m1.b.drop j))]
      rw [← he, List.length_map] at this
      simp only [List.flatten_cons, List.flatten_nil, List.append_nil, advL_len, List.length_append] at this
      exact this
    have hwk : workM m1.f fuel n (curM m1 i j k o) = workM m1.f fuel (n - 1) (curM m1 (i + (grp u (m1.a.drop i)).length) (j + (grp u (m1.b.drop j)).length) (k + ((grp u (m1.a.drop i)).length + (grp u (m1.b.drop j)).length)) (o ++ e)) := by
      obtain ⟨n', rfl⟩ : ∃ n', n = n' + 1 := ⟨n - 1, by have := HT.out.2; omega⟩
      rw [work_more HT.out.1 hnx hE.symm, cur_step m1 i j k o e u he]
      rfl
    have H5 := Lib.hid (And.intro h5 (And.intro (HZ.out.trans b5) (And.intro hpos (And.intro hg1 (And.intro hg2 (And.intro hel hwk))))))
    obtain ⟨c0, c1, c2, c3, c4, c5, c6⟩ := own7 h5.own
    have HM2 := Lib.hid (And.intro c2 c3)
    have HM0 := Lib.hid (own7 HC.out.1.own)
    clear hor hE hnx b5 h5 he hpos hg1 hg2 hel hwk c0 c1 c2 c3 c4 c5 c6
    go_wp2_with fail
    go_roundw
    case rel =>
      have q1 := H5.out.2.2.1
      have q2 := H5.out.2.2.2.1
      have q3 := H5.out.2.2.2.2.1
      have q4 := H5.out.2.2.2.2.2.1
      exact ⟨_, _, _, v', o ++ e, n - 1, H5.out.1, H5.out.2.1, by omega, by omega, by omega, by rw [List.length_append]; omega, HN.out.2.2.2.2.1.trans H5.out.2.2.2.2.2.2, by omega⟩
    case measure =>
      have q1 := H5.out.2.2.1
      have q2 := H5.out.2.2.2.1
      have q3 := H5.out.2.2.2.2.1
      rw [HM2.out.1, HM2.out.2, HM0.out.2.2.1, HM0.out.2.2.2.1]
      simp only [Option.getD_some, intOf]
      omega
end Go.Proofs.YtenjlhlighkenaaGreat
namespace Go.Proofs.YtenjlhlighkenaaGreat
open Go Go.RowKit

def EndOk (m : Mg) : Prop := MOk m ∧ m.i = (m.a.length : Int) ∧ m.j = (m.b.length : Int)
def EndSaysB (m : Mg) (w : World) (x : Ending) (w' : World) : Prop :=
  ∃ (b : Bt) (E : Int), x = .returned (.tuple #[b.val, .int .i64 E]) ∧ (E = 0 ∧ EndOk m ∧ b.f = m.f ∧ b.l.map Up.p = m.o.map Up.p ∨ E = 8 ∧ ¬ EndOk m ∧ b = Bt.nil) ∧ BtIn w' w'.heap.size b ∧ BtOk b ∧ BtLo w.heap.size b ∧ Below w.heap.size w w'
theorem en_box (w : World) (m : Mg) : ∃ V, V = (w.alloc (.cells #[.slice m.aA m.a.length m.ac, .slice m.bA m.b.length m.bc, .int .i64 m.i, .int .i64 m.j, .slice m.sA m.f.length m.sc, .slice m.oA m.o.length m.oc] 63)).alloc (.cells #[.slice none 0 0, .slice none 0 0] 61) ∧ Below w.heap.size w V ∧ Own V w.heap.size 63 m.cells ∧ Own V (w.heap.size + 1) 61 [.slice none 0 0, .slice none 0 0] := by
  refine ⟨_, rfl, ((Below.refl _ _).alloc (Nat.le_refl _) _).alloc (by simp) _, (Own.made w 63 m.cells).more _, ?_⟩
  exact own_next (w := w.alloc (.cells #[.slice m.aA m.a.length m.ac, .slice m.bA m.b.length m.bc, .int .i64 m.i, .int .i64 m.j, .slice m.sA m.f.length m.sc, .slice m.oA m.o.length m.oc] 63)) (l := [.slice none 0 0, .slice none 0 0]) (by simp)
set_option maxRecDepth 100000 in
set_option maxHeartbeats 12800000 in
theorem end_any (m : Mg) (w : World) (hm : MgIn w w.heap.size m) (hok : MgOk m) (no : m.o.length ≤ 274877906944) :
    Calls Tryz.prog 86 #[m.val] w (EndSaysB m w) := by
  obtain ⟨V, hV, hvb, hvo, hvz⟩ := en_box w m
  have hin := hm.keep hvb
  have y1 := Lib.hid (checkM_any m V hin hok)
  have HB := Lib.hid (And.intro hvb (And.intro hvo hvz))
  have HK := Lib.hid (And.intro hin (And.intro hok no))
  have hmv : m.val = .agg #[.slice m.aA m.a.length m.ac, .slice m.bA m.b.length m.bc, .int .i64 m.i, .int .i64 m.j, .slice m.sA m.f.length m.sc, .slice m.oA m.o.length m.oc] := rfl
  rw [hmv] at y1 ⊢
  obtain ⟨d0, d1, d2, d3, d4, d5⟩ := own6 hvo
  clear hm hok hvb hvo hvz hin hmv no
  go_enter Tryz.func86, Tryz.ntmps86
  go_upto_region 1 with fail
  rw [← hV]
  clear hV
  go_wp2_with fail
  refine y1.out.mono ?_
  rintro _ w1 ⟨n, rfl, hn, b1⟩
  have H1 := Lib.hid (And.intro hn (And.intro (HB.out.1.trans (b1.mono HB.out.1.size)) (And.intro (HB.out.2.1.past b1 HB.out.2.1.inside) (And.intro (HB.out.2.2.past b1 HB.out.2.2.inside) (HK.out.1.keep b1)))))
  clear d0 d1 d2 d3 d4 d5 b1 y1 hn
  by_cases h0 : n = 0
  case neg =>
    have t1 : (n != 0) = true := bne_iff_ne.2 h0
    have hz := H1.out.2.2.2.1
    have f0 := hz.open_ 0
    have f1 := hz.open_ 1
    obtain ⟨d0, d1⟩ := own2 hz
    have hX := (hz.set_ 0 (.slice none 0 0)).set_ 1 (.slice none 0 0)
    have HX := Lib.hid (And.intro (H1.out.2.1.setCell (p := ⟨w.heap.size + 1, 0, none⟩) (Nat.le_succ _) (.slice none 0 0) |>.setCell (p := ⟨w.heap.size + 1, 1, none⟩) (Nat.le_succ _) (.slice none 0 0)) hX)
    have H0 := Lib.hid (show n = 8 ∧ ¬ MOk m from by
      rcases H1.out.1 with ⟨_, e⟩ | ⟨e, e2⟩
      · exact absurd e h0
      · exact ⟨e2, e⟩)
    clear h0 hz hX
    go_wp2_with fail
    obtain ⟨x0, x1⟩ := own2 HX.out.2
    exact bodyPost_ret (v := .tuple #[.agg #[.slice none 0 0, .slice none 0 0], .int .i64 n]) (by simp [results, Tryz.results86, go_sem, x0, x1]) rfl ⟨Bt.nil, n, rfl, .inr ⟨H0.out.1, fun h => H0.out.2 h.1, rfl⟩, bt_nil_in _ _, bt_nil_ok, bt_nil_lo _, HX.out.1⟩
  subst h0
  have hmok : MOk m := by
    rcases H1.out.1 with ⟨e, _⟩ | ⟨_, e⟩
    · exact e
    · omega
  obtain ⟨i, hi⟩ : ∃ i : Nat, m.i = (i : Int) := ⟨m.i.toNat, by have := hmok.da.lo; omega⟩
  obtain ⟨j, hj⟩ : ∃ j : Nat, m.j = (j : Int) := ⟨m.j.toNat, by have := hmok.db.lo; omega⟩
  have hil : i ≤ m.a.length := by have := hmok.da.hi; omega
  have hjl : j ≤ m.b.length := by have := hmok.db.hi; omega
  have hna := HK.out.2.1.a.n
  have hnb := HK.out.2.1.b.n
  obtain ⟨d0, d1, d2, d3, d4, d5⟩ := own6 H1.out.2.2.1
  rw [hi] at d2
  rw [hj] at d3
  obtain ⟨V2, hV2⟩ : ∃ V2, V2 = w1.alloc (.cells #[.slice m.aA m.a.length m.ac, .slice m.bA m.b.length m.bc, .int .i64 (i : Int), .int .i64 (j : Int), .slice m.sA m.f.length m.sc, .slice m.oA m.o.length m.oc, .int .i64 0] 154) := ⟨_, rfl⟩
  have hbV : Below w1.heap.size w1 V2 := by rw [hV2]; exact (Below.refl _ _).alloc (Nat.le_refl _) _
  have hP : Own V2 w1.heap.size 154 (mcells m i j (.slice m.oA m.o.length m.oc) 0) := by rw [hV2]; exact Own.made w1 _ (mcells m i j (.slice m.oA m.o.length m.oc) 0)
  have y2 := Lib.hid (left_any w1.heap.size m i j 0 _ V2 hP (by omega) (by omega) hna hnb)
  have H2 := Lib.hid (And.intro (H1.out.2.1.trans (hbV.mono H1.out.2.1.size)) (And.intro (H1.out.2.2.1.past hbV H1.out.2.2.1.inside) (And.intro (H1.out.2.2.2.1.past hbV H1.out.2.2.2.1.inside) (And.intro (H1.out.2.2.2.2.keep hbV) (And.intro hmok (And.intro hi hj))))))
  have HR := Lib.hid hV2
  clear hbV hP hmok hi hj hV2
  by_cases hlf : i < m.a.length ∨ j < m.b.length
  case pos =>
    have hD : decide (i < m.a.length ∨ j < m.b.length) = true := decide_eq_true hlf
    rw [hD] at y2
    have H0 := Lib.hid (show ¬ EndOk m from fun h => by have h1 := h.2.1; have h2 := h.2.2; rw [H2.out.2.2.2.2.2.1] at h1; rw [H2.out.2.2.2.2.2.2] at h2; omega)
    clear hD hlf
    go_wp2_with fail
    rw [← HR.out]
    refine y2.out.mono ?_
    rintro _ wl ⟨rfl, q, hq⟩
    have hz : Own wl (w.heap.size + 1) 61 [.slice none 0 0, .slice none 0 0] := hq ▸ H2.out.2.2.1.draws q
    have hb9 : Below w.heap.size w wl := hq ▸ below_draws H2.out.1 q
    have f0 := hz.open_ 0
    have f1 := hz.open_ 1
    clear d0 d1 d2 d3 d4 d5 hq y2
    obtain ⟨d0, d1⟩ := own2 hz
    have hX := (hz.set_ 0 (.slice none 0 0)).set_ 1 (.slice none 0 0)
    have HX := Lib.hid (And.intro (hb9.setCell (p := ⟨w.heap.size + 1, 0, none⟩) (Nat.le_succ _) (.slice none 0 0) |>.setCell (p := ⟨w.heap.size + 1, 1, none⟩) (Nat.le_succ _) (.slice none 0 0)) hX)
    clear hz hX hb9
    go_wp2_with fail
    obtain ⟨x0, x1⟩ := own2 HX.out.2
    exact bodyPost_ret (v := .tuple #[.agg #[.slice none 0 0, .slice none 0 0], .int .i64 8]) (by simp [results, Tryz.results86, go_sem, x0, x1]) rfl ⟨Bt.nil, 8, rfl, .inr ⟨rfl, H0.out, rfl⟩, bt_nil_in _ _, bt_nil_ok, bt_nil_lo _, HX.out.1⟩
  have hD : decide (i < m.a.length ∨ j < m.b.length) = false := decide_eq_false hlf
  rw [hD] at y2
  have H0 := Lib.hid (show EndOk m from ⟨H2.out.2.2.2.2.1, by rw [H2.out.2.2.2.2.2.1]; omega, by rw [H2.out.2.2.2.2.2.2]; omega⟩)
  clear hD hlf
  go_wp2_with fail
  rw [← HR.out]
  refine y2.out.mono ?_
  rintro _ wl ⟨rfl, q, hq⟩
  have hz : Own wl (w.heap.size + 1) 61 [.slice none 0 0, .slice none 0 0] := hq ▸ H2.out.2.2.1.draws q
  have hm9 : Own wl w.heap.size 63 m.cells := hq ▸ H2.out.2.1.draws q
  have hb9 : Below w.heap.size w wl := hq ▸ below_draws H2.out.1 q
  have hi9 : MgIn wl wl.heap.size m := hq ▸ H2.out.2.2.2.1.keep (below_draws (Below.refl _ _) q)
  clear d0 d1 d2 d3 d4 d5 hq y2
  obtain ⟨d0, d1, d2, d3, d4, d5⟩ := own6 hm9
  have y3 := Lib.hid (copyB_any ⟨m.sA, m.sc, m.f, m.oA, m.oc, m.o⟩ wl ⟨hi9.f, hi9.o⟩ ⟨HK.out.2.1.f, HK.out.2.1.o⟩ H0.out.1.even.2.2.2.2 HK.out.2.2)
  rw [show (Bt.mk m.sA m.sc m.f m.oA m.oc m.o).val = .agg #[.slice m.sA m.f.length m.sc, .slice m.oA m.o.length m.oc] from rfl] at y3
  have H9 := Lib.hid (And.intro hz hb9)
  clear hz hm9 hb9 hi9
  go_wp2_with fail
  refine y3.out.mono ?_
  rintro _ w5 ⟨b, rfl, hs5, hi5, ho5, hl5, b5⟩
  have hz := H9.out.1.past b5 H9.out.1.inside
  have f0 := hz.open_ 0
  have f1 := hz.open_ 1
  clear d0 d1 d2 d3 d4 d5 y3
  obtain ⟨d0, d1⟩ := own2 hz
  have hX := (hz.set_ 0 (.slice b.sA b.f.length b.sc)).set_ 1 (.slice b.uA b.l.length b.uc)
  obtain ⟨s1, s2⟩ := set2_other w5 (w.heap.size + 1) (.slice b.sA b.f.length b.sc) (.slice b.uA b.l.length b.uc)
  have hin9 := H9.out.1.inside
  have hw9 := H9.out.2.size
  have HX := Lib.hid (And.intro ((H9.out.2.trans (b5.mono H9.out.2.size)).setCell (p := ⟨w.heap.size + 1, 0, none⟩) (Nat.le_succ _) (.slice b.sA b.f.length b.sc) |>.setCell (p := ⟨w.heap.size + 1, 1, none⟩) (Nat.le_succ _) (.slice b.uA b.l.length b.uc)) (And.intro hX (And.intro (And.intro (times_other hi5.since (hl5.f.mono (by omega)) s1 s2) (ups_other hi5.ups (hl5.l.mono (by omega)) s1 s2)) (And.intro (hl5.mono (by omega)) (And.intro ho5 hs5)))))
  clear hz hX s1 s2 hin9 hw9 hs5 hi5 ho5 hl5 b5
  unfold Bt.val
  go_wp2_with fail
  obtain ⟨x0, x1⟩ := own2 HX.out.2.1
  exact bodyPost_ret (v := .tuple #[.agg #[.slice b.sA b.f.length b.sc, .slice b.uA b.l.length b.uc], .int .i64 0]) (by simp [results, Tryz.results86, go_sem, x0, x1]) rfl ⟨b, 0, rfl, .inl ⟨rfl, H0.out, HX.out.2.2.2.2.2.f, HX.out.2.2.2.2.2.l⟩, ⟨HX.out.2.2.1.1, HX.out.2.2.1.2⟩, HX.out.2.2.2.2.1, HX.out.2.2.2.1, HX.out.1⟩
end Go.Proofs.YtenjlhlighkenaaGreat
namespace Go.Proofs.YtenjlhlighkenaaGreat
open Go Go.RowKit

def Ended (w : World) (base g i : Nat) (s : Sp) (m : Mg) (x : Ending) (w' : World) : Prop :=
  ∃ b : Bt, x = .returned b.val ∧ Wk w' base g ⟨s.sA, s.sc, s.f, s.lA, s.lc, s.L.eraseIdx i⟩ ∧ KeptK w w' (SpS g s.lA) ∧ b.f = m.f ∧ b.l.map Up.p = m.o.map Up.p ∧ BtIn w' w'.heap.size b ∧ BtOk b ∧ BtLo w.heap.size b
theorem end_box (w : World) (m : Mg) : ∃ V, V = (w.alloc (.cells #[.slice m.aA m.a.length m.ac, .slice m.bA m.b.length m.bc, .int .i64 m.i, .int .i64 m.j, .slice m.sA m.f.length m.sc, .slice m.oA m.o.length m.oc] 63)).alloc (.cells #[.slice none 0 0, .slice none 0 0] 61) ∧ Below w.heap.size w V ∧ Own V w.heap.size 63 m.cells ∧ Own V (w.heap.size + 1) 61 [.slice none 0 0, .slice none 0 0] := en_box w m
set_option maxRecDepth 100000 in
set_option maxHeartbeats 6400000 in
theorem ends_any (base g i : Nat) (s : Sp) (m : Mg) (w : World) (h : Wk w base g s) (hi : i < s.L.length) (hm : MgIn w w.heap.size m) (om : MgOk m) (hmo : OfM (SpS g s.lA) m) (no : m.o.length ≤ 274877906944) (he : EndOk m) :
    Calls Tryz.prog 54 #[.pointer (some ⟨g, 0, none⟩), .int .i64 (i : Int), m.val] w (Ended w base g i s m) := by
  obtain ⟨V, hV, hvb, hvm, hvz⟩ := end_box w m
  have hV1 := h.past hvb
  have hn := h.ok.n
  have y1 := Lib.hid (delete_anyS base s.L.length s.lc i s.lA _ V hV1.row hi (lvs_one s.L))
  have c0 : V.cell? ⟨g, 1, none⟩ = some (.slice s.lA s.L.length s.lc) := hV1.own.at_ 1
  have H := Lib.hid (And.intro h (And.intro hvb (And.intro hvm (And.intro hvz (And.intro hm (And.intro om (And.intro hmo (And.intro no he))))))))
  have hw : IntKind.i64.wrap ((i : Int) + 1) = (i : Int) + 1 := by rw [IntKind.wrap_i64]; omega
  have hgl := h.own.inside
  rw [show m.val = .agg #[.slice m.aA m.a.length m.ac, .slice m.bA m.b.length m.bc, .int .i64 m.i, .int .i64 m.j, .slice m.sA m.f.length m.sc, .slice m.oA m.o.length m.oc] from rfl]
  have HP := Lib.hid (show ∀ x w' (b : Bt), x = .returned b.val → Wk w' base g ⟨s.sA, s.sc, s.f, s.lA, s.lc, s.L.eraseIdx i⟩ → KeptK w w' (SpS g s.lA) → b.f = m.f → b.l.map Up.p = m.o.map Up.p → BtIn w' w'.heap.size b → BtOk b → BtLo w.heap.size b → Ended w base g i s m x w' from fun x w' b h1 h2 h3 h4 h5 h6 h7 h8 => ⟨b, h1, h2, h3, h4, h5, h6, h7, h8⟩)
  have HV := Lib.hid hV1
  clear h hm om hmo no he hvb hvm hvz hV1
  go_enter Tryz.func54, Tryz.ntmps54
  go_upto_region 1 with fail
  rw [← hV]
  clear hV
  go_wp2_with fail
  refine y1.out.mono ?_
  rintro _ w2 ⟨rfl, hr, hg⟩
  have hW2 := HV.out.erase (V := V) (i := i) (by omega) (Below.refl _ _) hr hg
  have kk := hg
  rw [blkS_own] at kk
  have k1 : KeptK V w2 (fun k => blkS s.lA = some k) := KeptK.of_grown kk (fun _ e => e)
  have o2 := k1.own HV.out.own HV.out.out
  have f1 : w2.frozen? ⟨g, 1, none⟩ = false := o2.open_ 1
  have e1 : w2.cell? ⟨g, 1, none⟩ = some (.slice s.lA s.L.length s.lc) := o2.at_ 1
  have HW2 := Lib.hid hW2
  clear hr hg kk k1 o2 hW2 c0 y1
  go_upto_region 2 with fail
  obtain ⟨W3, hW3⟩ : ∃ W3, W3 = w2.setCell ⟨g, 1, none⟩ (.slice s.lA (s.L.length - 1) s.lc) := ⟨_, rfl⟩
  rw [← hW3] at HW2 ⊢
  clear hW3 e1 f1
  have ho : ∀ k, SpS g s.lA k → k < w.heap.size := fun k hk => (H.out.1.lt k hk).2
  have hm3 : MgIn W3 W3.heap.size m := mg_kept (H.out.2.2.2.2.1.keep H.out.2.1) H.out.2.2.2.2.2.2.1 HW2.out.2
  have om3 := HW2.out.2.own H.out.2.2.1 (fun h => by have := ho _ h; omega)
  have oz3 := HW2.out.2.own H.out.2.2.2.1 (fun h => by have := ho _ h; omega)
  have y2 := Lib.hid (end_any m W3 hm3 H.out.2.2.2.2.2.1 H.out.2.2.2.2.2.2.2.1)
  obtain ⟨d0, d1, d2, d3, d4, d5⟩ := own6 om3
  rw [show m.val = .agg #[.slice m.aA m.a.length m.ac, .slice m.bA m.b.length m.bc, .int .i64 m.i, .int .i64 m.j, .slice m.sA m.f.length m.sc, .slice m.oA m.o.length m.oc] from rfl] at y2
  have HZ := Lib.hid oz3
  clear hm3 om3 oz3 ho
  go_wp2_with fail
  refine y2.out.mono ?_
  rintro _ w4 ⟨b, E, rfl, hs, ib, ob, lb, b4⟩
  obtain ⟨V4, hV4, hb4, hs4, ho4⟩ := btbox w4 b
  have oz4 := (HZ.out.past b4 HZ.out.inside).past hb4 (Nat.lt_of_lt_of_le HZ.out.inside b4.size)
  have hne : w.heap.size + 1 < w4.heap.size := Nat.lt_of_lt_of_le HZ.out.inside b4.size
  have HF := Lib.hid (show b.f = m.f ∧ b.l.map Up.p = m.o.map Up.p from by
    rcases hs with ⟨_, _, h1, h2⟩ | ⟨_, h1, _⟩
    · exact ⟨h1, h2⟩
    · exact absurd H.out.2.2.2.2.2.2.2.2 h1)
  have bX : Below W3.heap.size W3 V4 := b4.trans (hb4.mono b4.size)
  have kX : KeptK W3 ((V4.setCell ⟨w.heap.size + 1, 0, none⟩ (.slice b.sA b.f.length b.sc)).setCell ⟨w.heap.size + 1, 1, none⟩ (.slice b.uA b.l.length b.uc)) (fun k => k = w.heap.size + 1) := KeptK.set_ (S := fun k => k = w.heap.size + 1) (KeptK.set_ (S := fun k => k = w.heap.size + 1) (KeptK.of_below bX (Nat.le_refl _) _) (.inl rfl) _) (.inl rfl) _
  have hA := Wk.again H.out.1 HW2.out.1 ((KeptK.of_below H.out.2.1 (Nat.le_refl _) (SpS g s.lA)).trans HW2.out.2 (fun _ _ e => e)) kX (Nat.le_succ _) rfl rfl rfl rfl (fun l hl => List.mem_of_mem_eraseIdx hl)
  have hX := (oz4.set_ 0 (.slice b.sA b.f.length b.sc)).set_ 1 (.slice b.uA b.l.length b.uc)
  obtain ⟨s1, s2⟩ := set2_other V4 (w.heap.size + 1) (.slice b.sA b.f.length b.sc) (.slice b.uA b.l.length b.uc)
  have hlow : BtLo (w.heap.size + 1 + 1) b := lb.mono (show w.heap.size + 1 + 1 ≤ W3.heap.size by have := HZ.out.inside; omega)
  have ib4 := ib.keep hb4
  have hbin : BtIn ((V4.setCell ⟨w.heap.size + 1, 0, none⟩ (.slice b.sA b.f.length b.sc)).setCell ⟨w.heap.size + 1, 1, none⟩ (.slice b.uA b.l.length b.uc)) ((V4.setCell ⟨w.heap.size + 1, 0, none⟩ (.slice b.sA b.f.length b.sc)).setCell ⟨w.heap.size + 1, 1, none⟩ (.slice b.uA b.l.length b.uc)).heap.size b := ⟨times_other ib4.since hlow.f s1 s2, ups_other ib4.ups hlow.l s1 s2⟩
  have HX := Lib.hid (And.intro hA (And.intro hbin (And.intro ob (lb.mono (show w.heap.size ≤ W3.heap.size by have := HZ.out.inside; omega)))))
  have f0 := oz4.open_ 0
  have f1 := oz4.open_ 1
  obtain ⟨e0, e1⟩ := own2 oz4
  obtain ⟨v0, v1⟩ := own2 ho4
  obtain ⟨x0, x1⟩ := own2 hX
  clear hs ib ob lb b4 hb4 hs4 ho4 oz4 bX kX hA hX s1 s2 hlow ib4 hbin d0 d1 d2 d3 d4 d5 y2
  rw [show b.val = .agg #[.slice b.sA b.f.length b.sc, .slice b.uA b.l.length b.uc] from rfl]
  go_upto_region 3 with fail
  rw [← hV4]
  clear hV4
  go_wp2_with fail
  exact bodyPost_ret (v := .agg #[.slice b.sA b.f.length b.sc, .slice b.uA b.l.length b.uc]) (by simp [results, Tryz.results54, go_sem, x0, x1]) rfl (HP.out _ _ b rfl HX.out.1.1 HX.out.1.2 HF.out.1 HF.out.2 HX.out.2.1 HX.out.2.2.1 HX.out.2.2.2)
end Go.Proofs.YtenjlhlighkenaaGreat
