/- Part 9 of the texts on which JoinThere rests: facts and contracts. -/
import Derived.Test.YtjffohpdjicfpaaGreatJoinThereM8
import Derived.Test.YtjffohpdjicfpaaGreatShelf
namespace Go.Proofs.YtjffohpdjicfpaaGreat
open Go Go.RowKit
structure LvIn (w : World) (B : Nat) (l : Lv) : Prop where
  b : BtIn w B l.b
  m : MgIn w B l.m
theorem LvIn.past {w w' : World} {B B' : Nat} {l : Lv} (h : LvIn w B l) (hb : Below B' w w') (hB : B ≤ B') : LvIn w' B l := ⟨h.b.past hb hB, h.m.past hb hB⟩
theorem LvIn.wide {w : World} {B B' : Nat} {l : Lv} (h : LvIn w B l) (hB : B ≤ B') : LvIn w B' l := ⟨h.b.wide hB, h.m.wide hB⟩
theorem LvIn.keep {w w' : World} {l : Lv} (h : LvIn w w.heap.size l) (hb : Below w.heap.size w w') : LvIn w' w'.heap.size l := ⟨h.b.keep hb, h.m.keep hb⟩
structure McOk (m : Mg) : Prop where
  a : m.a.length ≤ m.ac
  an : m.ac ≤ maxLen
  b : m.b.length ≤ m.bc
  bn : m.bc ≤ maxLen
theorem mc_nil : McOk Mg.nil := ⟨Nat.le_refl _, Nat.zero_le _, Nat.le_refl _, Nat.zero_le _⟩
theorem mc_of {m : Mg} (ok : MgOk m) (h : m.ac = m.a.length ∧ m.bc = m.b.length) : McOk m := by
  have h1 := ok.a.n
  have h2 := ok.b.n
  exact ⟨by omega, by unfold maxLen; omega, by omega, by unfold maxLen; omega⟩
structure LvOk (l : Lv) : Prop where
  c : -9223372036854775808 ≤ l.cls ∧ l.cls ≤ 9223372036854775807
  b : BtOk l.b
  m : MgOk l.m
  cap : McOk l.m
structure LvLo (B : Nat) (l : Lv) : Prop where
  b : BtLo B l.b
  m : MgLo B l.m
theorem LvLo.mono {B B' : Nat} {l : Lv} (h : LvLo B l) (hB : B' ≤ B) : LvLo B' l := ⟨h.b.mono hB, h.m.mono hB⟩
structure Lvs (w : World) (B : Nat) (A : Option Addr) (L : List Lv) : Prop where
  head : Lies 10 Lv.cells w B A L
  each_ : ∀ l ∈ L, LvIn w B l
theorem Lvs.past {w w' : World} {B B' : Nat} {A : Option Addr} {L : List Lv} (h : Lvs w B A L) (hb : Below B' w w') (hB : B ≤ B') : Lvs w' B A L := ⟨h.head.past hb hB, fun l hl => (h.each_ l hl).past hb hB⟩
theorem Lvs.wide {w : World} {B B' : Nat} {A : Option Addr} {L : List Lv} (h : Lvs w B A L) (hB : B ≤ B') : Lvs w B' A L := ⟨h.head.wide hB, fun l hl => (h.each_ l hl).wide hB⟩
structure Sp where
  sA : Option Addr
  sc : Nat
  f : List Tm
  lA : Option Addr
  lc : Nat
  L : List Lv
namespace Sp
def cells (s : Sp) : List Value := [.slice s.sA s.f.length s.sc, .slice s.lA s.L.length s.lc]
def val (s : Sp) : Value := .agg #[.slice s.sA s.f.length s.sc, .slice s.lA s.L.length s.lc]
def nil : Sp := ⟨none, 0, [], none, 0, []⟩
end Sp
structure SpIn (w : World) (B : Nat) (s : Sp) : Prop where
  since : Times w B s.sA s.f
  lev : Lvs w B s.lA s.L
theorem SpIn.past {w w' : World} {B B' : Nat} {s : Sp} (h : SpIn w B s) (hb : Below B' w w') (hB : B ≤ B') : SpIn w' B s := ⟨h.since.past hb hB, h.lev.past hb hB⟩
theorem SpIn.wide {w : World} {B B' : Nat} {s : Sp} (h : SpIn w B s) (hB : B ≤ B') : SpIn w B' s := ⟨h.since.wide hB, h.lev.wide hB⟩
theorem SpIn.keep {w w' : World} {s : Sp} (h : SpIn w w.heap.size s) (hb : Below w.heap.size w w') : SpIn w' w'.heap.size s := (h.past hb (Nat.le_refl _)).wide hb.size
structure SpOk (s : Sp) : Prop where
  f : TsOk s.f s.sc
  n : s.L.length ≤ 1048576
  le : s.L.length ≤ s.lc
  c_ : s.lc ≤ maxLen
  each_ : ∀ l ∈ s.L, LvOk l
structure SpLo (B : Nat) (s : Sp) : Prop where
  f : LoT B s.sA
  l : LoT B s.lA
  each_ : ∀ l ∈ s.L, LvLo B l
theorem sp_nil_in (w : World) (B : Nat) : SpIn w B Sp.nil := ⟨Times.nil_, ⟨Lies.nil_, fun l hl => by cases hl⟩⟩
theorem sp_nil_ok : SpOk Sp.nil := ⟨ts_nil, by decide, Nat.le_refl _, Nat.zero_le _, fun l hl => by cases hl⟩
theorem sp_nil_lo (B : Nat) : SpLo B Sp.nil := ⟨lot_nil B, lot_nil B, fun l hl => by cases hl⟩
def OfT (S : Nat → Prop) (A : Option Addr) (n : Nat) : Prop := 0 < n → ∀ b o, A = some (⟨b, o, none⟩ : Addr) → ¬ S b
def OfU (S : Nat → Prop) (A : Option Addr) (l : List Up) : Prop := OfT S A l.length ∧ ∀ u ∈ l, OfT S u.kA u.key.length ∧ OfT S u.rA u.row.length
structure OfB (S : Nat → Prop) (b : Bt) : Prop where
  f : OfT S b.sA b.f.length
  l : OfU S b.uA b.l
structure OfM (S : Nat → Prop) (m : Mg) : Prop where
  a : OfU S m.aA m.a
  b : OfU S m.bA m.b
  f : OfT S m.sA m.f.length
  o : OfU S m.oA m.o
structure OfL (S : Nat → Prop) (l : Lv) : Prop where
  b : OfB S l.b
  m : OfM S l.m
section
variable {S T : Nat → Prop} {B : Nat}
theorem LoT.of {A : Option Addr} {n : Nat} (h : LoT B A) (hS : ∀ k, S k → k < B) : OfT S A n := fun _ b o e hs => by have := h b o e; have := hS b hs; omega
theorem Lo.of {A : Option Addr} {l : List Up} (h : Lo B A l) (hS : ∀ k, S k → k < B) : OfU S A l :=
  ⟨fun _ b o e hs => by have := h.1 b o e; have := hS b hs; omega, fun u hu => ⟨fun _ b o e hs => by have := h.2 u hu b o (.inl e); have := hS b hs; omega, fun _ b o e hs => by have := h.2 u hu b o (.inr e); have := hS b hs; omega⟩⟩
theorem BtLo.of {b : Bt} (h : BtLo B b) (hS : ∀ k, S k → k < B) : OfB S b := ⟨h.f.of hS, h.l.of hS⟩
theorem MgLo.of {m : Mg} (h : MgLo B m) (hS : ∀ k, S k → k < B) : OfM S m := ⟨h.a.of hS, h.b.of hS, h.f.of hS, h.o.of hS⟩
theorem LvLo.of {l : Lv} (h : LvLo B l) (hS : ∀ k, S k → k < B) : OfL S l := ⟨h.b.of hS, h.m.of hS⟩
theorem OfT.less {A : Option Addr} {n : Nat} (h : OfT S A n) (hT : ∀ k, T k → S k) : OfT T A n := fun hp b o e ht => h hp b o e (hT b ht)
theorem OfU.less {A : Option Addr} {l : List Up} (h : OfU S A l) (hT : ∀ k, T k → S k) : OfU T A l := ⟨h.1.less hT, fun u hu => ⟨(h.2 u hu).1.less hT, (h.2 u hu).2.less hT⟩⟩
theorem OfB.less {b : Bt} (h : OfB S b) (hT : ∀ k, T k → S k) : OfB T b := ⟨h.f.less hT, h.l.less hT⟩
theorem OfM.less {m : Mg} (h : OfM S m) (hT : ∀ k, T k → S k) : OfM T m := ⟨h.a.less hT, h.b.less hT, h.f.less hT, h.o.less hT⟩
theorem OfL.less {l : Lv} (h : OfL S l) (hT : ∀ k, T k → S k) : OfL T l := ⟨h.b.less hT, h.m.less hT⟩
theorem OfT.or {A : Option Addr} {n : Nat} (h : OfT S A n) (k : OfT T A n) : OfT (fun b => S b ∨ T b) A n := fun hp b o e hx => hx.elim (h hp b o e) (k hp b o e)
theorem OfU.or {A : Option Addr} {l : List Up} (h : OfU S A l) (k : OfU T A l) : OfU (fun b => S b ∨ T b) A l := ⟨h.1.or k.1, fun u hu => ⟨(h.2 u hu).1.or (k.2 u hu).1, (h.2 u hu).2.or (k.2 u hu).2⟩⟩
theorem OfB.or {b : Bt} (h : OfB S b) (k : OfB T b) : OfB (fun x => S x ∨ T x) b := ⟨h.f.or k.f, h.l.or k.l⟩
theorem OfM.or {m : Mg} (h : OfM S m) (k : OfM T m) : OfM (fun x => S x ∨ T x) m := ⟨h.a.or k.a, h.b.or k.b, h.f.or k.f, h.o.or k.o⟩
theorem OfL.or {l : Lv} (h : OfL S l) (k : OfL T l) : OfL (fun x => S x ∨ T x) l := ⟨h.b.or k.b, h.m.or k.m⟩
theorem at_block {b b' o o' : Nat} {A : Option Addr} (e : A = some (⟨b, o, none⟩ : Addr)) (e' : A = some ⟨b', o', none⟩) : b = b' := by
  rw [e] at e'
  simp only [Option.some.injEq, Addr.mk.injEq, and_true] at e'
  exact e'.1
theorem times_in {w : World} {A : Option Addr} {l : List Tm} (h : Times w B A l) : OfT (fun k => B ≤ k) A l.length := fun hp b o e hs => by
  obtain ⟨b', o', e', hb, _⟩ := h hp
  have := at_block e e'; omega
theorem vals_in {w : World} {A : Option Addr} {l : List Vl} (h : Vals w B A l) : OfT (fun k => B ≤ k) A l.length := fun hp b o e hs => by
  obtain ⟨b', o', e', hb, _⟩ := h hp
  have := at_block e e'; omega
theorem ups_in {w : World} {A : Option Addr} {l : List Up} (h : Ups w B A l) : OfU (fun k => B ≤ k) A l :=
  ⟨fun hp b o e hs => by
    obtain ⟨b', o', e', hb, _⟩ := h.head hp
    have := at_block e e'; omega, fun u hu => ⟨vals_in (h.each_ u hu).key, vals_in (h.each_ u hu).row⟩⟩
theorem bt_in {w : World} {b : Bt} (h : BtIn w B b) : OfB (fun k => B ≤ k) b := ⟨times_in h.since, ups_in h.ups⟩
theorem mg_in {w : World} {m : Mg} (h : MgIn w B m) : OfM (fun k => B ≤ k) m := ⟨ups_in h.a, ups_in h.b, times_in h.f, ups_in h.o⟩
theorem lv_in {w : World} {l : Lv} (h : LvIn w B l) : OfL (fun k => B ≤ k) l := ⟨bt_in h.b, mg_in h.m⟩
end
theorem times_kept {w w' : World} {S : Nat → Prop} {A : Option Addr} {l : List Tm} (h : Times w w.heap.size A l) (ho : OfT S A l.length) (k : KeptK w w' S) : Times w' w'.heap.size A l := fun hp => by
  obtain ⟨b, o, e, hb, hc⟩ := h hp
  have hk : ∀ j, w'.cell? ⟨b, j, none⟩ = w.cell? ⟨b, j, none⟩ := fun j => by unfold World.cell?; rw [k.block b hb (ho hp b o e)]
  refine ⟨b, o, e, Nat.lt_of_lt_of_le hb k.size, fun i v hi => ?_⟩
  obtain ⟨a0, a1, a2⟩ := hc i v hi
  exact ⟨(hk _).trans a0, (hk _).trans a1, (hk _).trans a2⟩
theorem vals_kept {w w' : World} {S : Nat → Prop} {A : Option Addr} {l : List Vl} (h : Vals w w.heap.size A l) (ho : OfT S A l.length) (k : KeptK w w' S) : Vals w' w'.heap.size A l := fun hp => by
  obtain ⟨b, o, e, hb, hc⟩ := h hp
  have hk : ∀ j, w'.cell? ⟨b, j, none⟩ = w.cell? ⟨b, j, none⟩ := fun j => by unfold World.cell?; rw [k.block b hb (ho hp b o e)]
  refine ⟨b, o, e, Nat.lt_of_lt_of_le hb k.size, fun i v hi => ?_⟩
  obtain ⟨a0, a1, a2⟩ := hc i v hi
  exact ⟨(hk _).trans a0, (hk _).trans a1, (hk _).trans a2⟩
theorem lies_kept {α : Type} {size : Nat} {cells : α → List Value} {w w' : World} {S : Nat → Prop} {A : Option Addr} {l : List α} (h : Lies size cells w w.heap.size A l) (ho : OfT S A l.length) (k : KeptK w w' S) : Lies size cells w' w'.heap.size A l := fun hp => by
  obtain ⟨b, o, e, hb, hc⟩ := h hp
  refine ⟨b, o, e, Nat.lt_of_lt_of_le hb k.size, fun i x hi j u hj => ?_⟩
  rw [← hc i x hi j u hj]
  unfold World.cell?
  rw [k.block b hb (ho hp b o e)]
theorem ups_kept {w w' : World} {S : Nat → Prop} {A : Option Addr} {l : List Up} (h : Ups w w.heap.size A l) (ho : OfU S A l) (k : KeptK w w' S) : Ups w' w'.heap.size A l :=
  ⟨lies_kept h.head ho.1 k, fun u hu => ⟨vals_kept (h.each_ u hu).key (ho.2 u hu).1 k, vals_kept (h.each_ u hu).row (ho.2 u hu).2 k⟩⟩
theorem bt_kept {w w' : World} {S : Nat → Prop} {b : Bt} (h : BtIn w w.heap.size b) (ho : OfB S b) (k : KeptK w w' S) : BtIn w' w'.heap.size b := ⟨times_kept h.since ho.f k, ups_kept h.ups ho.l k⟩
theorem mg_kept {w w' : World} {S : Nat → Prop} {m : Mg} (h : MgIn w w.heap.size m) (ho : OfM S m) (k : KeptK w w' S) : MgIn w' w'.heap.size m := ⟨ups_kept h.a ho.a k, ups_kept h.b ho.b k, times_kept h.f ho.f k, ups_kept h.o ho.o k⟩
theorem lv_kept {w w' : World} {S : Nat → Prop} {l : Lv} (h : LvIn w w.heap.size l) (ho : OfL S l) (k : KeptK w w' S) : LvIn w' w'.heap.size l := ⟨bt_kept h.b ho.b k, mg_kept h.m ho.m k⟩
def blkS (A : Option Addr) : Option Nat := A.map (·.block)
theorem blkS_own (A : Option Addr) (n c : Nat) : (Value.slice A n c).ownBlock = blkS A := by cases A <;> rfl
def SpS (g : Nat) (A : Option Addr) (k : Nat) : Prop := k = g ∨ blkS A = some k
structure Wk (W : World) (base g : Nat) (s : Sp) : Prop where
  own : Own W g 137 s.cells
  row : W.ownsRow base 129 10 (.slice s.lA s.L.length s.lc) s.L.length (s.L.flatMap Lv.cells)
  out : blkS s.lA ≠ some g
  since : Times W W.heap.size s.sA s.f
  soff : OfT (SpS g s.lA) s.sA s.f.length
  lev : ∀ l ∈ s.L, LvIn W W.heap.size l
  loff : ∀ l ∈ s.L, OfL (SpS g s.lA) l
  ok : SpOk s
  slo : LoT base s.sA
  lo : ∀ l ∈ s.L, LvLo base l
  low : base ≤ g
  base_ : base ≤ W.heap.size
theorem Wk.lt {W : World} {base g : Nat} {s : Sp} (h : Wk W base g s) : ∀ k, SpS g s.lA k → base ≤ k ∧ k < W.heap.size := by
  rintro k (rfl | hk)
  · exact ⟨h.low, h.own.inside⟩
  · exact h.row.lt k (by rw [blkS_own]; exact hk)
theorem Wk.past {W W' : World} {base g : Nat} {s : Sp} (h : Wk W base g s) (hb : Below W.heap.size W W') : Wk W' base g s :=
  ⟨h.own.past hb h.own.inside, own_below h.row hb, h.out, (h.since.past hb (Nat.le_refl _)).wide hb.size, h.soff, fun l hl => (h.lev l hl).keep hb, h.loff, h.ok, h.slo, h.lo, h.low, Nat.le_trans h.base_ hb.size⟩
theorem level_rows {l : List Lv} (k : Nat) : (l.flatMap Lv.cells).take (k * 10) = (l.take k).flatMap Lv.cells := by
  induction l generalizing k with
  | nil => simp
  | cons x l ih =>
    cases k with
    | zero => simp
    | succ k =>
      rw [List.flatMap_cons, List.take_succ_cons, List.flatMap_cons, ← ih k, show (k + 1) * 10 = x.cells.length + k * 10 by show _ = 10 + _; omega, List.take_length_add_append]
theorem level_rowsD {l : List Lv} (k : Nat) : (l.flatMap Lv.cells).drop (k * 10) = (l.drop k).flatMap Lv.cells := by
  induction l generalizing k with
  | nil => simp
  | cons x l ih =>
    cases k with
    | zero => simp
    | succ k =>
      rw [List.flatMap_cons, List.drop_succ_cons, ← ih k, show (k + 1) * 10 = x.cells.length + k * 10 by show _ = 10 + _; omega, List.drop_length_add_append]
theorem lflat_len (l : List Lv) : (l.flatMap Lv.cells).length = l.length * 10 := flat_size (size := 10) (cells := Lv.cells) (fun _ => rfl) l
theorem Wk.lies {W : World} {base g : Nat} {s : Sp} (h : Wk W base g s) : Lvs W W.heap.size s.lA s.L := by
  refine ⟨fun hp => ?_, h.lev⟩
  rcases row_ownK h.row with ⟨_, h0, _⟩ | ⟨G, cur, hA, hb, hg, hn, hm, hl, ht⟩
  · omega
  · refine ⟨G, 0, hA, hg.inside, fun i x hi j u hj => ?_⟩
    have hlt := (List.getElem?_eq_some_iff.1 hi).1
    have hj10 : j < 10 := (List.getElem?_eq_some_iff.1 hj).1
    rw [show 0 + i * 10 + j = i * 10 + j by omega, hg.at_]
    have h1 : (s.L.flatMap Lv.cells)[i * 10 + j]? = some u := by
      have e := level_rowsD (l := s.L) i
      have h2 : ((s.L.flatMap Lv.cells).drop (i * 10))[j]? = some u := by
        rw [e, List.drop_eq_getElem_cons hlt, List.flatMap_cons]
        have : s.L[i] = x := by rw [List.getElem?_eq_getElem hlt] at hi; injection hi
        rw [this, List.getElem?_append_left (by exact hj10)]
        exact hj
      rwa [List.getElem?_drop] at h2
    rw [← ht, List.getElem?_take] at h1
    split at h1
    · exact h1
    · cases h1
end Go.Proofs.YtjffohpdjicfpaaGreat
namespace Go.Proofs.YtjffohpdjicfpaaGreat
open Go Go.RowKit
structure Kpt (w : World) (bx : Nat) (A : Option Addr) (n c : Nat) : Prop where
  cell : w.cell? ⟨bx, 0, none⟩ = some (.slice A n c)
  inside : bx < w.heap.size
theorem Kpt.past {w w' : World} {bx n c : Nat} {A : Option Addr} (h : Kpt w bx A n c) (hb : Below w.heap.size w w') : Kpt w' bx A n c :=
  ⟨(hb.cell (p := ⟨bx, 0, none⟩) h.inside).trans h.cell, Nat.lt_of_lt_of_le h.inside hb.size⟩
set_option maxRecDepth 100000 in
set_option maxHeartbeats 3200000 in
theorem early_any (t : Tm) (bx : Nat) (A : Option Addr) (c : Nat) (l : List Tm) (w : World) (hk : Kpt w bx A l.length c) (hl : Times w w.heap.size A l) (hn : l.length ≤ maxLen) :
    Calls Tryz.prog 78 #[t.val, .pointer (some ⟨bx, 0, none⟩)] w fun e w' => e = .returned (.bool (!beyond l t)) ∧ Below w.heap.size w w' := by
  obtain ⟨V, hV, hvb, hvs, hvo⟩ := tm_box w t
  have k0 := (hk.past hvb).cell
  have y1 := Lib.hid (beyond_any A c l t V ((hl.past hvb (Nat.le_refl _)).wide hvb.size) hn)
  obtain ⟨d0, d1, d2⟩ := own3 hvo
  have HB := Lib.hid hvb
  rw [show t.val = .agg #[.int .u64 (t.e : Int), .int .u64 (t.a : Int), .int .u64 (t.b : Int)] from rfl] at y1 ⊢
  generalize beyond l t = B at *
  clear hk hl hn hvb hvs hvo
  go_enter Tryz.func78, Tryz.ntmps78
  go_upto_region 1 with fail
  rw [← hV]
  clear hV
  go_wp2_with fail
  refine y1.out.mono ?_
  rintro _ w2 ⟨rfl, b2⟩
  have H2 := Lib.hid (HB.out.trans (b2.mono HB.out.size))
  clear b2 d0 d1 d2 k0
  go_wp2_with fail
  go_ret
  exact ⟨rfl, H2.out⟩
def someEarly (l f : List Tm) : Bool := l.any fun t => !beyond f t
theorem early_next {l f : List Tm} {k : Nat} {t : Tm} (h : l[k]? = some t) : someEarly (l.take (k + 1)) f = (someEarly (l.take k) f || !beyond f t) := by
  unfold someEarly
  rw [List.take_add_one, h]; simp
theorem early_hit {l f : List Tm} {k : Nat} {t : Tm} (h : l[k]? = some t) (hb : (!beyond f t) = true) : someEarly l f = true := List.any_eq_true.2 ⟨t, List.mem_of_getElem? h, hb⟩
set_option maxRecDepth 100000 in
set_option maxHeartbeats 3200000 in
theorem indexT_any (A : Option Addr) (c : Nat) (l : List Tm) (bx : Nat) (A' : Option Addr) (c' : Nat) (f : List Tm) (w : World) (hl : Times w w.heap.size A l) (hn : l.length ≤ maxLen) (hk : Kpt w bx A' f.length c') (hf : Times w w.heap.size A' f) (hfn : f.length ≤ maxLen) :
    Calls Tryz.prog 125 #[.slice A l.length c, .func (.func 78) #[] #[.pointer (some ⟨bx, 0, none⟩)]] w fun x w' => ∃ r : Int, x = .returned (.int .i64 r) ∧ decide (0 ≤ r) = someEarly l f ∧ Below w.heap.size w w' := by
  unfold maxLen at hn
  have Hl := Lib.hid (And.intro hl (And.intro hk hf))
  have hu := fun t W h1 h2 => Lib.hid (early_any t bx A' c' f W h1 h2 hfn)
  unfold Tm.val at hu
  clear hl hk hf
  go_enter Tryz.func125, Tryz.ntmps125
  go_wp2_with fail
  go_loopw [8] (fun i wr => ∃ k : Nat, i = .int .i64 (k : Int) ∧ k ≤ l.length ∧ Below w.heap.size w wr ∧ someEarly (l.take k) f = false)
    (fun i _ => l.length - (intOf i).toNat)
  case atStart => exact ⟨0, rfl, by omega, Below.refl _ _, rfl⟩
  case round =>
    obtain ⟨k, rfl, hk, hb, he⟩ := hrel
    by_cases hlt : k < l.length
    · have hx : l[k]? = some l[k] := List.getElem?_eq_getElem hlt
      obtain ⟨b, o, rfl, hB, hc⟩ := Hl.out.1 (by omega)
      obtain ⟨c0, c1, c2⟩ := (hc k _ hx).past hb hB
      have hnx := early_next (f := f) hx
      have hit := early_hit (f := f) hx
      generalize l[k] = t at *
      have hut := hu t wr (Hl.out.2.1.past hb) ((Hl.out.2.2.past hb (Nat.le_refl _)).wide hb.size)
      have HH := Lib.hid (And.intro hb (And.intro he (And.intro hnx hit)))
      have q0 : (0 : Int) ≤ (k : Int) := by omega
      have q1 : (k : Int) < (l.length : Int) := by omega
      clear hb he hx hc hnx hit hu
      obtain ⟨B, hB'⟩ : ∃ B, (!beyond f t) = B := ⟨_, rfl⟩
      rw [hB'] at hut
      have HT := Lib.hid hB'
      clear hB'
      cases B with
      | true =>
        go_wp2_with fail
        refine hut.out.mono ?_
        rintro _ w2 ⟨rfl, b2⟩
        have H2 := Lib.hid (HH.out.1.trans (b2.mono HH.out.1.size))
        clear b2 c0 c1 c2
        go_wp2_with fail
        go_ret
        exact ⟨_, rfl, by rw [HH.out.2.2.2 HT.out]; simp, H2.out⟩
      | false =>
        go_wp2_with fail
        refine hut.out.mono ?_
        rintro _ w2 ⟨rfl, b2⟩
        have H2 := Lib.hid (HH.out.1.trans (b2.mono HH.out.1.size))
        clear b2 c0 c1 c2
        go_wp2_with fail
        go_roundw
        case rel => exact ⟨k + 1, by go_num, by omega, H2.out, by rw [HH.out.2.2.1, HH.out.2.1, HT.out]; rfl⟩
        case measure => simp [intOf]; omega
    · have hk2 : k = l.length := by omega
      subst hk2
      rw [List.take_length] at he
      have HH := Lib.hid (And.intro hb he)
      clear hb he
      go_wp2_with fail
      go_ret
      exact ⟨_, rfl, by rw [HH.out.2]; decide, HH.out.1⟩
set_option maxRecDepth 100000 in
set_option maxHeartbeats 1600000 in
theorem containsT_any (A : Option Addr) (c : Nat) (l : List Tm) (bx : Nat) (A' : Option Addr) (c' : Nat) (f : List Tm) (w : World) (hl : Times w w.heap.size A l) (hn : l.length ≤ maxLen) (hk : Kpt w bx A' f.length c') (hf : Times w w.heap.size A' f) (hfn : f.length ≤ maxLen) :
    Calls Tryz.prog 79 #[.slice A l.length c, .func (.func 78) #[] #[.pointer (some ⟨bx, 0, none⟩)]] w fun x w' => x = .returned (.bool (someEarly l f)) ∧ Below w.heap.size w w' := by
  have hi := Lib.hid (indexT_any A c l bx A' c' f w hl hn hk hf hfn)
  clear hl hn hk hf
  generalize someEarly l f = B at *
  go_enter Tryz.func79, Tryz.ntmps79
  go_wp2_with fail
  refine hi.out.mono ?_
  rintro _ w2 ⟨r, rfl, hr, b2⟩
  have H2 := Lib.hid b2
  clear b2
  go_wp2_with fail
  go_ret
  exact ⟨rfl, H2.out⟩
theorem later_iff {g f : List Tm} (hf : f ≠ []) : LaterF g f ↔ g ≠ [] ∧ someEarly g f = false := by
  unfold LaterF someEarly
  constructor
  · rintro (h | ⟨h1, h2⟩)
    · exact absurd h hf
    · refine ⟨h1, ?_⟩
      rw [List.any_eq_false]
      intro x hx
      rw [h2 x hx]
      simp
  · rintro ⟨h1, h2⟩
    refine .inr ⟨h1, fun x hx => ?_⟩
    rw [List.any_eq_false] at h2
    simpa using h2 x hx
set_option maxRecDepth 100000 in
set_option maxHeartbeats 3200000 in
theorem later_any (A : Option Addr) (c : Nat) (g : List Tm) (A' : Option Addr) (c' : Nat) (f : List Tm) (w : World) (hg : Times w w.heap.size A g) (hgn : g.length ≤ maxLen) (hf : Times w w.heap.size A' f) (hfn : f.length ≤ maxLen) :
    Calls Tryz.prog 38 #[.slice A g.length c, .slice A' f.length c'] w (Tells (LaterF g f) w) := by
  obtain ⟨V, hV, hvs, hvb, hvo⟩ := boxd w [.slice A' f.length c'] 33
  have d0 := hvo.at_ 0
  simp only [List.getElem?_cons_zero] at d0
  by_cases h0 : f = []
  · subst h0
    simp only [List.length_nil] at hV d0
    have HL := Lib.hid (show LaterF g [] from .inl rfl)
    have HB := Lib.hid hvb
    clear hg hf hgn hfn hvs hvb hvo
    go_enter Tryz.func38, Tryz.ntmps38
    go_upto_region 1 with fail
    rw [← hV]
    clear hV
    go_wp2_with fail
    go_ret
    exact ⟨true, rfl, ⟨fun _ => HL.out, fun _ => rfl⟩, HB.out⟩
  have hfp : 0 < f.length := List.length_pos_iff.2 h0
  have t0 : ((f.length : Int) == 0) = false := beq_eq_false_iff_ne.2 (by omega)
  have hit := later_iff (g := g) h0
  by_cases h1 : g = []
  · have HL := Lib.hid (show ¬ LaterF g f from fun h => (hit.1 h).1 h1)
    subst h1
    have HB := Lib.hid hvb
    clear hg hf hgn hfn hvs hvb hvo hit h0
    go_enter Tryz.func38, Tryz.ntmps38
    go_upto_region 1 with fail
    rw [← hV]
    clear hV
    go_wp2_with fail
    go_ret
    exact ⟨false, rfl, ⟨fun h => (by cases h), fun h => absurd h HL.out⟩, HB.out⟩
  have hgp : 0 < g.length := List.length_pos_iff.2 h1
  have t1 : decide (0 < g.length) = true := decide_eq_true hgp
  have t2 : decide ((0 : Int) < (g.length : Int)) = true := decide_eq_true (by omega)
  have y1 := Lib.hid (containsT_any A c g w.heap.size A' c' f V ((hg.past hvb (Nat.le_refl _)).wide hvb.size) hgn ⟨d0, hvo.inside⟩ ((hf.past hvb (Nat.le_refl _)).wide hvb.size) hfn)
  have HIT := Lib.hid (And.intro hit h1)
  have HB := Lib.hid hvb
  obtain ⟨B, hB⟩ : ∃ B, someEarly g f = B := ⟨_, rfl⟩
  rw [hB] at y1
  have HBB := Lib.hid hB
  clear hg hf hgn hfn hvs hvb hvo hit h0 h1 hB hfp hgp
  go_enter Tryz.func38, Tryz.ntmps38
  go_upto_region 1 with fail
  rw [← hV]
  clear hV
  go_wp2_with fail
  refine y1.out.mono ?_
  rintro _ w2 ⟨rfl, b2⟩
  have H2 := Lib.hid (HB.out.trans (b2.mono HB.out.size))
  clear b2 d0 y1
  cases B with
  | true =>
    go_wp2_with fail
    go_ret
    exact ⟨false, rfl, ⟨fun h => (by cases h), fun h => (by have := (HIT.out.1.1 h).2; rw [HBB.out] at this; cases this)⟩, H2.out⟩
  | false =>
    go_wp2_with fail
    go_ret
    exact ⟨true, rfl, ⟨fun _ => HIT.out.1.2 ⟨HIT.out.2, HBB.out⟩, fun _ => rfl⟩, H2.out⟩
theorem bitLen_cls (x : Nat) (h : x < 2 ^ 64) : Lib.bitLen x = clsN x := by
  induction x using Nat.strongRecOn with
  | _ x ih =>
    by_cases h0 : x = 0
    · subst h0; rfl
    · rw [Lib.bitLen_half x h0 h, ih (x / 2) (by omega) (by omega)]
      unfold clsN
      rw [if_neg h0, Nat.log2_def x]
      by_cases h2 : 2 ≤ x
      · rw [if_pos h2, if_neg (by omega)]; omega
      · obtain rfl : x = 1 := by omega
        simp
set_option maxRecDepth 100000 in
set_option maxHeartbeats 1600000 in
theorem class_any (A : Option Addr) (c n : Nat) (w : World) (hn : n ≤ 1099511627776) : Calls Tryz.prog 107 #[.slice A n c] w fun x w' => x = .returned (.int .i64 (clsN n : Int)) ∧ Below w.heap.size w w' := by
  have y1 := Lib.hid (Tryz.bits_Len (n : Int) w (by omega) (by omega))
  have hw : IntKind.u64.wrap (n : Int) = (n : Int) := by rw [IntKind.wrap_u64]; omega
  have HE := Lib.hid (show (Lib.bitLen ((n : Int).toNat) : Int) = (clsN n : Int) by rw [Int.toNat_natCast, bitLen_cls n (by omega)])
  clear hn
  go_enter Tryz.func107, Tryz.ntmps107
  go_wp2_with fail
  refine y1.out.mono ?_
  rintro _ _ ⟨rfl, rfl⟩
  go_wp2_with fail
  go_ret
  exact ⟨ret_i64 HE.out, Below.refl _ _⟩
theorem lvbox (w : World) (l : Lv) : ∃ W, W = w.alloc (.cells #[.int .i64 l.cls, .bool l.busy, .slice l.b.sA l.b.f.length l.b.sc, .slice l.b.uA l.b.l.length l.b.uc, .slice l.m.aA l.m.a.length l.m.ac, .slice l.m.bA l.m.b.length l.m.bc, .int .i64 l.m.i, .int .i64 l.m.j, .slice l.m.sA l.m.f.length l.m.sc, .slice l.m.oA l.m.o.length l.m.oc] 129) ∧ Below w.heap.size w W ∧ W.heap.size = w.heap.size + 1 ∧ Own W w.heap.size 129 l.cells :=
  ⟨_, rfl, (Below.refl _ _).alloc (Nat.le_refl _) _, by simp, Own.made w 129 l.cells⟩
theorem own10 {w : World} {P : Nat} {t : TypeId} {a0 a1 a2 a3 a4 a5 a6 a7 a8 a9 : Value} (h : Own w P t [a0, a1, a2, a3, a4, a5, a6, a7, a8, a9]) :
    w.cell? ⟨P, 0, none⟩ = some a0 ∧ w.cell? ⟨P, 1, none⟩ = some a1 ∧ w.cell? ⟨P, 2, none⟩ = some a2 ∧ w.cell? ⟨P, 3, none⟩ = some a3 ∧ w.cell? ⟨P, 4, none⟩ = some a4 ∧ w.cell? ⟨P, 5, none⟩ = some a5 ∧ w.cell? ⟨P, 6, none⟩ = some a6 ∧ w.cell? ⟨P, 7, none⟩ = some a7 ∧ w.cell? ⟨P, 8, none⟩ = some a8 ∧ w.cell? ⟨P, 9, none⟩ = some a9 :=
  ⟨h.at_ 0, h.at_ 1, h.at_ 2, h.at_ 3, h.at_ 4, h.at_ 5, h.at_ 6, h.at_ 7, h.at_ 8, h.at_ 9⟩
set_option maxRecDepth 100000 in
set_option maxHeartbeats 1600000 in
theorem left_anyS (m : Mg) (w : World) : Calls Tryz.prog 122 #[m.val] w (Tells (m.i < (m.a.length : Int) ∨ m.j < (m.b.length : Int)) w) := by
  obtain ⟨V, hV, hvb, hvs, hvo⟩ := mgbox w m
  obtain ⟨a0, a1, a2, a3, a4, a5⟩ := own6 hvo
  have HB := Lib.hid hvb
  rw [show m.val = .agg #[.slice m.aA m.a.length m.ac, .slice m.bA m.b.length m.bc, .int .i64 m.i, .int .i64 m.j, .slice m.sA m.f.length m.sc, .slice m.oA m.o.length m.oc] from rfl]
  clear hvb hvs hvo
  by_cases h1 : m.i < (m.a.length : Int)
  · have t1 : decide (m.i < (m.a.length : Int)) = true := decide_eq_true h1
    have HH := Lib.hid h1
    clear h1
    go_enter Tryz.func122, Tryz.ntmps122
    go_upto_region 1 with fail
    rw [← hV]
    clear hV
    go_wp2_with fail
    go_ret
    exact ⟨true, rfl, ⟨fun _ => .inl HH.out, fun _ => rfl⟩, HB.out⟩
  · have t1 : decide (m.i < (m.a.length : Int)) = false := decide_eq_false h1
    have HH := Lib.hid h1
    clear h1
    obtain ⟨b, hb⟩ : ∃ b : Bool, decide (m.j < (m.b.length : Int)) = b := ⟨_, rfl⟩
    have HK := Lib.hid hb
    cases b
    all_goals
      go_enter Tryz.func122, Tryz.ntmps122
      go_upto_region 1 with fail
      rw [← hV]
      clear hV
      go_wp2_with fail
      go_ret
    · refine ⟨false, rfl, ⟨fun h => (by cases h), fun h => ?_⟩, HB.out⟩
      exfalso
      have h1 := HH.out
      have h2 := of_decide_eq_false HK.out
      omega
    · exact ⟨true, rfl, ⟨fun _ => .inr (of_decide_eq_true HK.out), fun _ => rfl⟩, HB.out⟩
theorem none_ok {f : List Tm} : BatchOk f [] ↔ FrontOk f := ⟨fun h => h.1, fun h => ⟨h, ⟨fun u hu => (by cases hu), List.Pairwise.nil, rfl⟩, fun u hu => (by cases hu)⟩⟩
set_option maxRecDepth 100000 in
set_option maxHeartbeats 1600000 in
theorem frontier_anyS (A : Option Addr) (c : Nat) (f : List Tm) (w : World) (hf : Times w w.heap.size A f) (hfo : TsOk f c) : Calls Tryz.prog 37 #[.slice A f.length c] w (Tells (FrontOk f) w) := by
  have y1 := Lib.hid (bcheck_any ⟨A, c, f, none, 0, []⟩ w ⟨hf, ⟨Lies.nil_, fun u hu => by cases hu⟩⟩ ⟨hfo, us_nil⟩)
  have HN := Lib.hid (none_ok (f := f))
  unfold Bt.val at y1
  dsimp only [List.length_nil] at y1
  clear hf hfo
  go_enter Tryz.func37, Tryz.ntmps37
  go_wp2_with fail
  refine y1.out.mono ?_
  rintro _ w1 ⟨n, rfl, hn, b1⟩
  have HX := Lib.hid (And.intro hn b1)
  obtain ⟨b, hb⟩ : ∃ b : Bool, (n == 0) = b := ⟨_, rfl⟩
  have HK := Lib.hid hb
  clear hn b1 hb y1
  have hb := HK.out
  go_wp2_with fail
  go_ret
  refine ⟨b, rfl, ?_, HX.out.2⟩
  rw [← HN.out, ← HK.out]
  rcases HX.out.1 with ⟨h1, h2⟩ | ⟨h1, h2⟩
  · rw [h2]; exact ⟨fun _ => h1, fun _ => rfl⟩
  · rw [h2]; exact ⟨fun h => (by cases h), fun h => absurd h h1⟩
theorem two_alloc (V : World) (t1 t2 : TypeId) (l1 l2 : List Value) : Own ((V.alloc (.cells l1.toArray t1)).alloc (.cells l2.toArray t2)).drew V.heap.size t1 l1 ∧ Own ((V.alloc (.cells l1.toArray t1)).alloc (.cells l2.toArray t2)).drew (V.heap.size + 1) t2 l2 ∧ Below V.heap.size V ((V.alloc (.cells l1.toArray t1)).alloc (.cells l2.toArray t2)).drew := by
  refine ⟨own_drewKS ((Own.made V t1 l1).more _), ?_, Below.drew (((Below.refl _ _).alloc (Nat.le_refl _) _).alloc (by simp) _)⟩
  have := Own.made (V.alloc (.cells l1.toArray t1)) t2 l2
  simp only [World.size_alloc] at this
  exact own_drewKS this
set_option maxRecDepth 100000 in
set_option maxHeartbeats 25600000 in
theorem rightB_any (cl : Int) (b : Bt) (m : Mg) (A : Option Addr) (c : Nat) (f : List Tm) (w : World) (hl : LvIn w w.heap.size ⟨cl, true, b, m⟩) (ol : LvOk ⟨cl, true, b, m⟩) (hf : Times w w.heap.size A f) (hfo : TsOk f c) :
    Calls Tryz.prog 76 #[(⟨cl, true, b, m⟩ : Lv).val, .slice A f.length c] w (Tells (LvGood f ⟨cl, true, b, m⟩) w) := by
  obtain ⟨V, hV, hvb, hvs, hvo⟩ := lvbox w ⟨cl, true, b, m⟩
  obtain ⟨a0, a1, a2, a3, a4, a5, a6, a7, a8, a9⟩ := own10 hvo
  have hin := hl.keep hvb
  have hfV := (hf.past hvb (Nat.le_refl _)).wide hvb.size
  have HL := Lib.hid (And.intro hin.b (And.intro hin.m (And.intro ol.b (And.intro ol.m (And.intro hfV hfo)))))
  have HB := Lib.hid (And.intro hvb hvo)
  have hlt : w.heap.size < V.heap.size := hvo.inside
  rw [show (⟨cl, true, b, m⟩ : Lv).val = .agg #[.int .i64 cl, .bool true, .slice b.sA b.f.length b.sc, .slice b.uA b.l.length b.uc, .slice m.aA m.a.length m.ac, .slice m.bA m.b.length m.bc, .int .i64 m.i, .int .i64 m.j, .slice m.sA m.f.length m.sc, .slice m.oA m.o.length m.oc] from rfl]
  dsimp only at hV a0 a1 a2 a3 a4 a5 a6 a7 a8 a9
  clear hl ol hf hfo hvb hvs hvo hin hfV
  go_enter Tryz.func76, Tryz.ntmps76
  go_upto_region 1 with fail
  rw [← hV]
  clear hV
  go_cut [5, 6] (fun s5 s6 wx => ∃ P Q : Nat, s5 = .pointer (some ⟨P, 0, none⟩) ∧ s6 = .pointer (some ⟨Q, 0, none⟩) ∧ Own wx P 125 b.cells ∧ Own wx Q 127 m.cells ∧ Below V.heap.size V wx)
  case first =>
    go_region
    all_goals
      go_wp2_with fail
      go_meet
    · obtain ⟨x1, x2, x3⟩ := two_alloc V 125 127 b.cells m.cells
      exact ⟨_, _, rfl, rfl, x1, x2, x3⟩
    · obtain ⟨x1, x2, x3⟩ := two_alloc V 127 125 m.cells b.cells
      exact ⟨_, _, rfl, rfl, x2, x1, x3⟩
  case rest =>
    obtain ⟨P, Q, rfl, rfl, hP, hQ, hb⟩ := hcut
    have oL := HB.out.2.past hb HB.out.2.inside
    have hX := fun p : Past wc => own10 (oL.past p.h oL.inside)
    have hP2 := fun p : Past wc => own2 (hP.past p.h hP.inside)
    have hQ6 := fun p : Past wc => own6 (hQ.past p.h hQ.inside)
    dsimp only at hX
    have HW := Lib.hid (belows HB.out.1 hb)
    obtain ⟨ib, im, ob, om, hfV, hfo⟩ := HL.out
    have ib := ib.keep hb
    have im := im.keep hb
    have hfV := (hfV.past hb (Nat.le_refl _)).wide hb.size
    have n1 := hfo.n
    have m1 : f.length ≤ maxLen := Nat.le_trans hfo.le hfo.c_
    have n2 := om.f.n
    have n3 := om.a.n
    have n4 := om.b.n
    obtain ⟨z1, hz1⟩ : ∃ z : Bool, ((b.f.length : Int) == 0) = z := ⟨_, rfl⟩
    obtain ⟨z2, hz2⟩ : ∃ z : Bool, ((b.l.length : Int) == 0) = z := ⟨_, rfl⟩
    obtain ⟨c1, hc1⟩ : ∃ z : Bool, ((clsN m.a.length : Int) == cl) = z := ⟨_, rfl⟩
    obtain ⟨c2, hc2⟩ : ∃ z : Bool, ((clsN m.b.length : Int) == cl) = z := ⟨_, rfl⟩
    obtain ⟨K, hK⟩ := code_of (MOk m) 8
    obtain ⟨z3, hz3⟩ : ∃ z : Bool, (K == 0) = z := ⟨_, rfl⟩
    obtain ⟨bl, hbl⟩ := bool_of (LaterF f m.f)
    obtain ⟨lf, hlf⟩ := bool_of (m.i < (m.a.length : Int) ∨ m.j < (m.b.length : Int))
    have u1 := fun p : Past wc => calls_past ((checkM_any m p.w (im.keep p.h) om).mono fun x w' h => codes_is hK h)
    have u2 := fun p : Past wc => calls_past (class_any m.aA m.ac m.a.length p.w n3)
    have u3 := fun p : Past wc => calls_past (class_any m.bA m.bc m.b.length p.w n4)
    have u4 := fun p : Past wc => calls_past ((later_any A c f m.sA m.sc m.f p.w ((hfV.past p.h (Nat.le_refl _)).wide p.h.size) m1 (im.keep p.h).f (Nat.le_trans om.f.le om.f.c_)).mono fun x w' h => tells_is hbl h)
    have u5 := fun p : Past wc => calls_past ((left_anyS m p.w).mono fun x w' h => tells_is hlf h)
    have HE := Lib.hid (show LvGood f ⟨cl, true, b, m⟩ ↔ (z1 = true ∧ z2 = true ∧ z3 = true ∧ c1 = true ∧ c2 = true ∧ bl = true ∧ lf = true) from by
      have e3 : z3 = true ↔ MOk m := by
        rw [← hz3]
        rcases hK with ⟨h1, h2⟩ | ⟨h1, h2⟩
        · rw [h2]; exact ⟨fun _ => h1, fun _ => rfl⟩
        · rw [h2]; exact ⟨fun h => (by cases h), fun h => absurd h h1⟩
      have e1 : z1 = true ↔ b.f = [] := by rw [← hz1, beq_iff_eq, ← List.length_eq_zero_iff]; omega
      have e2 : z2 = true ↔ b.l = [] := by rw [← hz2, beq_iff_eq, ← List.length_eq_zero_iff]; omega
      have e4 : c1 = true ↔ (clsN m.a.length : Int) = cl := by rw [← hc1, beq_iff_eq]
      have e5 : c2 = true ↔ (clsN m.b.length : Int) = cl := by rw [← hc2, beq_iff_eq]
      rw [e1, e2, e3, e4, e5, hbl, hlf]
      constructor
      · intro h
        obtain ⟨h1, h2, h3, h4, h5, h6, h7⟩ := h.busy rfl
        refine ⟨h1, h2, h3, h4, h5, h6, ?_⟩
        have k1 := h3.da.lo
        have k2 := h3.db.lo
        have h7 : 0 < (m.a.length - m.i.toNat) + (m.b.length - m.j.toNat) := h7
        omega
      · rintro ⟨h1, h2, h3, h4, h5, h6, h7⟩
        refine ⟨fun _ => ⟨h1, h2, h3, h4, h5, h6, ?_⟩, fun h => (by cases h)⟩
        have k1 := h3.da.lo
        have k2 := h3.db.lo
        show 0 < (m.a.length - m.i.toNat) + (m.b.length - m.j.toNat)
        omega)
    obtain ⟨a0, a1, a2, a3, a4, a5, a6, a7, a8, a9⟩ := hX ⟨wc, Below.refl _ _⟩
    obtain ⟨b0, b1⟩ := hP2 ⟨wc, Below.refl _ _⟩
    dsimp only at a0 a1 a2 a3 a4 a5 a6 a7 a8 a9 b0 b1
    clear hbl hlf hK HL HB oL hP hQ hb ib im ob om hfV hfo m1 n1 n2 n3 n4
    unfold Mg.val at u1 u5
    cases z1 with
    | false =>
      go_upto_region 4 with fail
      clear a0 a1 a2 a3 a4 a5 a6 a7 a8 a9 b0 b1
      refine wp_region_past wc (by kernel_rfl) (by kernel_rfl) (Below.refl _ _) ?_
      repeat (first | go_big_quiet_step (fail) | quiet_step (fail))
      refine wpQuiet_nil ?_
      intro wz hw'
      obtain ⟨⟨wy, hbz⟩, hw''⟩ := hw'
      dsimp only at hw''
      subst hw''
      have HZ := Lib.hid (belows HW.out hbz)
      clear hX hP2 hQ6 hbz
      go_wp2_with fail
      go_ret
      exact ⟨false, rfl, (HE.out.trans (by simp)).symm, HZ.out⟩
    | true =>
    cases z2 with
    | false =>
      go_upto_region 4 with fail
      clear a0 a1 a2 a3 a4 a5 a6 a7 a8 a9 b0 b1
      refine wp_region_past wc (by kernel_rfl) (by kernel_rfl) (Below.refl _ _) ?_
      repeat (first | go_big_quiet_step (fail) | quiet_step (fail))
      refine wpQuiet_nil ?_
      intro wz hw'
      obtain ⟨⟨wy, hbz⟩, hw''⟩ := hw'
      dsimp only at hw''
      subst hw''
      have HZ := Lib.hid (belows HW.out hbz)
      clear hX hP2 hQ6 hbz
      go_wp2_with fail
      go_ret
      exact ⟨false, rfl, (HE.out.trans (by simp)).symm, HZ.out⟩
    | true =>
    cases z3 with
    | false =>
      go_upto_region 4 with fail
      clear a0 a1 a2 a3 a4 a5 a6 a7 a8 a9 b0 b1
      refine wp_region_past wc (by kernel_rfl) (by kernel_rfl) (Below.refl _ _) ?_
      repeat (first | go_big_quiet_step (fail) | quiet_step (fail))
      quiet_step ((go_at_call 121; exact u1 _))
      repeat (first | go_big_quiet_step (fail) | quiet_step (fail))
      refine wpQuiet_nil ?_
      intro wz hw'
      obtain ⟨⟨wy, hbz⟩, hw''⟩ := hw'
      dsimp only at hw''
      subst hw''
      have HZ := Lib.hid (belows HW.out hbz)
      clear hX hP2 hQ6 hbz
      go_wp2_with fail
      go_ret
      exact ⟨false, rfl, (HE.out.trans (by simp)).symm, HZ.out⟩
    | true =>
    cases c1 with
    | false =>
      go_upto_region 4 with fail
      clear a0 a1 a2 a3 a4 a5 a6 a7 a8 a9 b0 b1
      refine wp_region_past wc (by kernel_rfl) (by kernel_rfl) (Below.refl _ _) ?_
      repeat (first | go_big_quiet_step (fail) | quiet_step (fail))
      quiet_step ((go_at_call 121; exact u1 _))
      repeat (first | go_big_quiet_step (fail) | quiet_step (fail))
      quiet_step ((go_at_call 107; exact u2 _))
      repeat (first | go_big_quiet_step (fail) | quiet_step (fail))
      refine wpQuiet_nil ?_
      intro wz hw'
      obtain ⟨⟨wy, hbz⟩, hw''⟩ := hw'
      dsimp only at hw''
      subst hw''
      have HZ := Lib.hid (belows HW.out hbz)
      clear hX hP2 hQ6 hbz
      go_wp2_with fail
      go_ret
      exact ⟨false, rfl, (HE.out.trans (by simp)).symm, HZ.out⟩
    | true =>
    cases c2 with
    | false =>
      go_upto_region 4 with fail
      clear a0 a1 a2 a3 a4 a5 a6 a7 a8 a9 b0 b1
      refine wp_region_past wc (by kernel_rfl) (by kernel_rfl) (Below.refl _ _) ?_
      repeat (first | go_big_quiet_step (fail) | quiet_step (fail))
      quiet_step ((go_at_call 121; exact u1 _))
      repeat (first | go_big_quiet_step (fail) | quiet_step (fail))
      quiet_step ((go_at_call 107; exact u2 _))
      repeat (first | go_big_quiet_step (fail) | quiet_step (fail))
      quiet_step ((go_at_call 107; exact u3 _))
      repeat (first | go_big_quiet_step (fail) | quiet_step (fail))
      refine wpQuiet_nil ?_
      intro wz hw'
      obtain ⟨⟨wy, hbz⟩, hw''⟩ := hw'
      dsimp only at hw''
      subst hw''
      have HZ := Lib.hid (belows HW.out hbz)
      clear hX hP2 hQ6 hbz
      go_wp2_with fail
      go_ret
      exact ⟨false, rfl, (HE.out.trans (by simp)).symm, HZ.out⟩
    | true =>
    cases bl with
    | false =>
      go_upto_region 4 with fail
      clear a0 a1 a2 a3 a4 a5 a6 a7 a8 a9 b0 b1
      refine wp_region_past wc (by kernel_rfl) (by kernel_rfl) (Below.refl _ _) ?_
      repeat (first | go_big_quiet_step (fail) | quiet_step (fail))
      quiet_step ((go_at_call 121; exact u1 _))
      repeat (first | go_big_quiet_step (fail) | quiet_step (fail))
      quiet_step ((go_at_call 107; exact u2 _))
      repeat (first | go_big_quiet_step (fail) | quiet_step (fail))
      quiet_step ((go_at_call 107; exact u3 _))
      repeat (first | go_big_quiet_step (fail) | quiet_step (fail))
      quiet_step ((go_at_call 38; exact u4 _))
      repeat (first | go_big_quiet_step (fail) | quiet_step (fail))
      refine wpQuiet_nil ?_
      intro wz hw'
      obtain ⟨⟨wy, hbz⟩, hw''⟩ := hw'
      dsimp only at hw''
      subst hw''
      have HZ := Lib.hid (belows HW.out hbz)
      clear hX hP2 hQ6 hbz
      go_wp2_with fail
      go_ret
      exact ⟨false, rfl, (HE.out.trans (by simp)).symm, HZ.out⟩
    | true =>
    cases lf with
    | false =>
      go_upto_region 4 with fail
      clear a0 a1 a2 a3 a4 a5 a6 a7 a8 a9 b0 b1
      refine wp_region_past wc (by kernel_rfl) (by kernel_rfl) (Below.refl _ _) ?_
      repeat (first | go_big_quiet_step (fail) | quiet_step (fail))
      quiet_step ((go_at_call 121; exact u1 _))
      repeat (first | go_big_quiet_step (fail) | quiet_step (fail))
      quiet_step ((go_at_call 107; exact u2 _))
      repeat (first | go_big_quiet_step (fail) | quiet_step (fail))
      quiet_step ((go_at_call 107; exact u3 _))
      repeat (first | go_big_quiet_step (fail) | quiet_step (fail))
      quiet_step ((go_at_call 38; exact u4 _))
      repeat (first | go_big_quiet_step (fail) | quiet_step (fail))
      quiet_step ((go_at_call 122; exact u5 _))
      repeat (first | go_big_quiet_step (fail) | quiet_step (fail))
      refine wpQuiet_nil ?_
      intro wz hw'
      obtain ⟨⟨wy, hbz⟩, hw''⟩ := hw'
      dsimp only at hw''
      subst hw''
      have HZ := Lib.hid (belows HW.out hbz)
      clear hX hP2 hQ6 hbz
      go_wp2_with fail
      go_ret
      exact ⟨false, rfl, (HE.out.trans (by simp)).symm, HZ.out⟩
    | true =>
      go_upto_region 4 with fail
      clear a0 a1 a2 a3 a4 a5 a6 a7 a8 a9 b0 b1
      refine wp_region_past wc (by kernel_rfl) (by kernel_rfl) (Below.refl _ _) ?_
      repeat (first | go_big_quiet_step (fail) | quiet_step (fail))
      quiet_step ((go_at_call 121; exact u1 _))
      repeat (first | go_big_quiet_step (fail) | quiet_step (fail))
      quiet_step ((go_at_call 107; exact u2 _))
      repeat (first | go_big_quiet_step (fail) | quiet_step (fail))
      quiet_step ((go_at_call 107; exact u3 _))
      repeat (first | go_big_quiet_step (fail) | quiet_step (fail))
      quiet_step ((go_at_call 38; exact u4 _))
      repeat (first | go_big_quiet_step (fail) | quiet_step (fail))
      quiet_step ((go_at_call 122; exact u5 _))
      repeat (first | go_big_quiet_step (fail) | quiet_step (fail))
      refine wpQuiet_nil ?_
      intro wz hw'
      obtain ⟨⟨wy, hbz⟩, hw''⟩ := hw'
      dsimp only at hw''
      subst hw''
      have HZ := Lib.hid (belows HW.out hbz)
      clear hX hP2 hQ6 hbz
      go_wp2_with fail
      go_ret
      exact ⟨true, rfl, (HE.out.trans (by simp)).symm, HZ.out⟩
set_option maxRecDepth 100000 in
set_option maxHeartbeats 25600000 in
theorem rightI_any (cl : Int) (b : Bt) (m : Mg) (A : Option Addr) (c : Nat) (f : List Tm) (w : World) (hl : LvIn w w.heap.size ⟨cl, false, b, m⟩) (ol : LvOk ⟨cl, false, b, m⟩) (hf : Times w w.heap.size A f) (hfo : TsOk f c) :
    Calls Tryz.prog 76 #[(⟨cl, false, b, m⟩ : Lv).val, .slice A f.length c] w (Tells (LvGood f ⟨cl, false, b, m⟩) w) := by
  obtain ⟨V, hV, hvb, hvs, hvo⟩ := lvbox w ⟨cl, false, b, m⟩
  obtain ⟨a0, a1, a2, a3, a4, a5, a6, a7, a8, a9⟩ := own10 hvo
  have hin := hl.keep hvb
  have hfV := (hf.past hvb (Nat.le_refl _)).wide hvb.size
  have HL := Lib.hid (And.intro hin.b (And.intro hin.m (And.intro ol.b (And.intro ol.m (And.intro hfV hfo)))))
  have HB := Lib.hid (And.intro hvb hvo)
  have hlt : w.heap.size < V.heap.size := hvo.inside
  rw [show (⟨cl, false, b, m⟩ : Lv).val = .agg #[.int .i64 cl, .bool false, .slice b.sA b.f.length b.sc, .slice b.uA b.l.length b.uc, .slice m.aA m.a.length m.ac, .slice m.bA m.b.length m.bc, .int .i64 m.i, .int .i64 m.j, .slice m.sA m.f.length m.sc, .slice m.oA m.o.length m.oc] from rfl]
  dsimp only at hV a0 a1 a2 a3 a4 a5 a6 a7 a8 a9
  clear hl ol hf hfo hvb hvs hvo hin hfV
  go_enter Tryz.func76, Tryz.ntmps76
  go_upto_region 1 with fail
  rw [← hV]
  clear hV
  go_cut [5, 6] (fun s5 s6 wx => ∃ P Q : Nat, s5 = .pointer (some ⟨P, 0, none⟩) ∧ s6 = .pointer (some ⟨Q, 0, none⟩) ∧ Own wx P 125 b.cells ∧ Own wx Q 127 m.cells ∧ Below V.heap.size V wx)
  case first =>
    go_region
    all_goals
      go_wp2_with fail
      go_meet
    · obtain ⟨x1, x2, x3⟩ := two_alloc V 125 127 b.cells m.cells
      exact ⟨_, _, rfl, rfl, x1, x2, x3⟩
    · obtain ⟨x1, x2, x3⟩ := two_alloc V 127 125 m.cells b.cells
      exact ⟨_, _, rfl, rfl, x2, x1, x3⟩
  case rest =>
    obtain ⟨P, Q, rfl, rfl, hP, hQ, hb⟩ := hcut
    have oL := HB.out.2.past hb HB.out.2.inside
    have hX := fun p : Past wc => own10 (oL.past p.h oL.inside)
    have hP2 := fun p : Past wc => own2 (hP.past p.h hP.inside)
    have hQ6 := fun p : Past wc => own6 (hQ.past p.h hQ.inside)
    dsimp only at hX
    have HW := Lib.hid (belows HB.out.1 hb)
    obtain ⟨ib, im, ob, om, hfV, hfo⟩ := HL.out
    have ib := ib.keep hb
    have im := im.keep hb
    have hfV := (hfV.past hb (Nat.le_refl _)).wide hb.size
    have n1 := hfo.n
    have m1 : f.length ≤ maxLen := Nat.le_trans hfo.le hfo.c_
    have n2 := ob.f.n
    have n3 := ob.l.n
    obtain ⟨y1, hy1⟩ : ∃ z : Bool, ((m.a.length : Int) == 0) = z := ⟨_, rfl⟩
    obtain ⟨y2, hy2⟩ : ∃ z : Bool, ((m.b.length : Int) == 0) = z := ⟨_, rfl⟩
    obtain ⟨y3, hy3⟩ : ∃ z : Bool, (m.i == 0) = z := ⟨_, rfl⟩
    obtain ⟨y4, hy4⟩ : ∃ z : Bool, (m.j == 0) = z := ⟨_, rfl⟩
    obtain ⟨y5, hy5⟩ : ∃ z : Bool, ((m.f.length : Int) == 0) = z := ⟨_, rfl⟩
    obtain ⟨y6, hy6⟩ : ∃ z : Bool, ((m.o.length : Int) == 0) = z := ⟨_, rfl⟩
    obtain ⟨c1, hc1⟩ : ∃ z : Bool, ((clsN b.l.length : Int) == cl) = z := ⟨_, rfl⟩
    obtain ⟨K, hK⟩ := code_of (BatchOk b.f b.l) 4
    obtain ⟨z3, hz3⟩ : ∃ z : Bool, (K == 0) = z := ⟨_, rfl⟩
    obtain ⟨bl, hbl⟩ := bool_of (LaterF f b.f)
    have u1 := fun p : Past wc => calls_past ((bcheck_any b p.w (ib.keep p.h) ob).mono fun x w' h => codes_is hK h)
    have u2 := fun p : Past wc => calls_past (class_any b.uA b.uc b.l.length p.w n3)
    have u4 := fun p : Past wc => calls_past ((later_any A c f b.sA b.sc b.f p.w ((hfV.past p.h (Nat.le_refl _)).wide p.h.size) m1 (ib.keep p.h).since (Nat.le_trans ob.f.le ob.f.c_)).mono fun x w' h => tells_is hbl h)
    have HE := Lib.hid (show LvGood f ⟨cl, false, b, m⟩ ↔ (y1 = true ∧ y2 = true ∧ y3 = true ∧ y4 = true ∧ y5 = true ∧ y6 = true ∧ z3 = true ∧ c1 = true ∧ bl = true) from by
      have e3 : z3 = true ↔ BatchOk b.f b.l := by
        rw [← hz3]
        rcases hK with ⟨h1, h2⟩ | ⟨h1, h2⟩
        · rw [h2]; exact ⟨fun _ => h1, fun _ => rfl⟩
        · rw [h2]; exact ⟨fun h => (by cases h), fun h => absurd h h1⟩
      have e1 : y1 = true ↔ m.a = [] := by rw [← hy1, beq_iff_eq, ← List.length_eq_zero_iff]; omega
      have e2 : y2 = true ↔ m.b = [] := by rw [← hy2, beq_iff_eq, ← List.length_eq_zero_iff]; omega
      have e4 : y3 = true ↔ m.i = 0 := by rw [← hy3, beq_iff_eq]
      have e5 : y4 = true ↔ m.j = 0 := by rw [← hy4, beq_iff_eq]
      have e6 : y5 = true ↔ m.f = [] := by rw [← hy5, beq_iff_eq, ← List.length_eq_zero_iff]; omega
      have e7 : y6 = true ↔ m.o = [] := by rw [← hy6, beq_iff_eq, ← List.length_eq_zero_iff]; omega
      have e8 : c1 = true ↔ (clsN b.l.length : Int) = cl := by rw [← hc1, beq_iff_eq]
      rw [e1, e2, e3, e4, e5, e6, e7, e8, hbl]
      constructor
      · intro h
        obtain ⟨⟨h1, h2, h3, h4, h5, h6⟩, h7, h8, h9⟩ := h.idle rfl
        exact ⟨h1, h2, h3, h4, h5, h6, h7, h8, h9⟩
      · rintro ⟨h1, h2, h3, h4, h5, h6, h7, h8, h9⟩
        exact ⟨fun h => (by cases h), fun _ => ⟨⟨h1, h2, h3, h4, h5, h6⟩, h7, h8, h9⟩⟩)
    obtain ⟨a0, a1, a2, a3, a4, a5, a6, a7, a8, a9⟩ := hX ⟨wc, Below.refl _ _⟩
    obtain ⟨b0, b1, b2, b3, b4, b5⟩ := hQ6 ⟨wc, Below.refl _ _⟩
    dsimp only at a0 a1 a2 a3 a4 a5 a6 a7 a8 a9 b0 b1 b2 b3 b4 b5
    clear hbl hK HL HB oL hP hQ hb ib im ob om hfV hfo m1 n1 n2 n3
    unfold Bt.val at u1
    cases y1 with
    | false =>
      go_upto_region 6 with fail
      clear a0 a1 a2 a3 a4 a5 a6 a7 a8 a9 b0 b1 b2 b3 b4 b5
      refine wp_region_past wc (by kernel_rfl) (by kernel_rfl) (Below.refl _ _) ?_
      repeat (first | go_big_quiet_step (fail) | quiet_step (fail))
      refine wpQuiet_nil ?_
      intro wz hw'
      obtain ⟨⟨wy, hbz⟩, hw''⟩ := hw'
      dsimp only at hw''
      subst hw''
      have HZ := Lib.hid (belows HW.out hbz)
      clear hX hP2 hQ6 hbz
      go_wp2_with fail
      go_ret
      exact ⟨false, rfl, (HE.out.trans (by simp)).symm, HZ.out⟩
    | true =>
    cases y2 with
    | false =>
      go_upto_region 6 with fail
      clear a0 a1 a2 a3 a4 a5 a6 a7 a8 a9 b0 b1 b2 b3 b4 b5
      refine wp_region_past wc (by kernel_rfl) (by kernel_rfl) (Below.refl _ _) ?_
      repeat (first | go_big_quiet_step (fail) | quiet_step (fail))
      refine wpQuiet_nil ?_
      intro wz hw'
      obtain ⟨⟨wy, hbz⟩, hw''⟩ := hw'
      dsimp only at hw''
      subst hw''
      have HZ := Lib.hid (belows HW.out hbz)
      clear hX hP2 hQ6 hbz
      go_wp2_with fail
      go_ret
      exact ⟨false, rfl, (HE.out.trans (by simp)).symm, HZ.out⟩
    | true =>
    cases y3 with
    | false =>
      go_upto_region 6 with fail
      clear a0 a1 a2 a3 a4 a5 a6 a7 a8 a9 b0 b1 b2 b3 b4 b5
      refine wp_region_past wc (by kernel_rfl) (by kernel_rfl) (Below.refl _ _) ?_
      repeat (first | go_big_quiet_step (fail) | quiet_step (fail))
      refine wpQuiet_nil ?_
      intro wz hw'
      obtain ⟨⟨wy, hbz⟩, hw''⟩ := hw'
      dsimp only at hw''
      subst hw''
      have HZ := Lib.hid (belows HW.out hbz)
      clear hX hP2 hQ6 hbz
      go_wp2_with fail
      go_ret
      exact ⟨false, rfl, (HE.out.trans (by simp)).symm, HZ.out⟩
    | true =>
    cases y4 with
    | false =>
      go_upto_region 6 with fail
      clear a0 a1 a2 a3 a4 a5 a6 a7 a8 a9 b0 b1 b2 b3 b4 b5
      refine wp_region_past wc (by kernel_rfl) (by kernel_rfl) (Below.refl _ _) ?_
      repeat (first | go_big_quiet_step (fail) | quiet_step (fail))
      refine wpQuiet_nil ?_
      intro wz hw'
      obtain ⟨⟨wy, hbz⟩, hw''⟩ := hw'
      dsimp only at hw''
      subst hw''
      have HZ := Lib.hid (belows HW.out hbz)
      clear hX hP2 hQ6 hbz
      go_wp2_with fail
      go_ret
      exact ⟨false, rfl, (HE.out.trans (by simp)).symm, HZ.out⟩
    | true =>
    cases y5 with
    | false =>
      go_upto_region 6 with fail
      clear a0 a1 a2 a3 a4 a5 a6 a7 a8 a9 b0 b1 b2 b3 b4 b5
      refine wp_region_past wc (by kernel_rfl) (by kernel_rfl) (Below.refl _ _) ?_
      repeat (first | go_big_quiet_step (fail) | quiet_step (fail))
      refine wpQuiet_nil ?_
      intro wz hw'
      obtain ⟨⟨wy, hbz⟩, hw''⟩ := hw'
      dsimp only at hw''
      subst hw''
      have HZ := Lib.hid (belows HW.out hbz)
      clear hX hP2 hQ6 hbz
      go_wp2_with fail
      go_ret
      exact ⟨false, rfl, (HE.out.trans (by simp)).symm, HZ.out⟩
    | true =>
    cases y6 with
    | false =>
      go_upto_region 6 with fail
      clear a0 a1 a2 a3 a4 a5 a6 a7 a8 a9 b0 b1 b2 b3 b4 b5
      refine wp_region_past wc (by kernel_rfl) (by kernel_rfl) (Below.refl _ _) ?_
      repeat (first | go_big_quiet_step (fail) | quiet_step (fail))
      refine wpQuiet_nil ?_
      intro wz hw'
      obtain ⟨⟨wy, hbz⟩, hw''⟩ := hw'
      dsimp only at hw''
      subst hw''
      have HZ := Lib.hid (belows HW.out hbz)
      clear hX hP2 hQ6 hbz
      go_wp2_with fail
      go_ret
      exact ⟨false, rfl, (HE.out.trans (by simp)).symm, HZ.out⟩
    | true =>
    cases z3 with
    | false =>
      go_upto_region 6 with fail
      clear a0 a1 a2 a3 a4 a5 a6 a7 a8 a9 b0 b1 b2 b3 b4 b5
      refine wp_region_past wc (by kernel_rfl) (by kernel_rfl) (Below.refl _ _) ?_
      repeat (first | go_big_quiet_step (fail) | quiet_step (fail))
      quiet_step ((go_at_call 77; exact u1 _))
      repeat (first | go_big_quiet_step (fail) | quiet_step (fail))
      refine wpQuiet_nil ?_
      intro wz hw'
      obtain ⟨⟨wy, hbz⟩, hw''⟩ := hw'
      dsimp only at hw''
      subst hw''
      have HZ := Lib.hid (belows HW.out hbz)
      clear hX hP2 hQ6 hbz
      go_wp2_with fail
      go_ret
      exact ⟨false, rfl, (HE.out.trans (by simp)).symm, HZ.out⟩
    | true =>
    cases c1 with
    | false =>
      go_upto_region 6 with fail
      clear a0 a1 a2 a3 a4 a5 a6 a7 a8 a9 b0 b1 b2 b3 b4 b5
      refine wp_region_past wc (by kernel_rfl) (by kernel_rfl) (Below.refl _ _) ?_
      repeat (first | go_big_quiet_step (fail) | quiet_step (fail))
      quiet_step ((go_at_call 77; exact u1 _))
      repeat (first | go_big_quiet_step (fail) | quiet_step (fail))
      quiet_step ((go_at_call 107; exact u2 _))
      repeat (first | go_big_quiet_step (fail) | quiet_step (fail))
      refine wpQuiet_nil ?_
      intro wz hw'
      obtain ⟨⟨wy, hbz⟩, hw''⟩ := hw'
      dsimp only at hw''
      subst hw''
      have HZ := Lib.hid (belows HW.out hbz)
      clear hX hP2 hQ6 hbz
      go_wp2_with fail
      go_ret
      exact ⟨false, rfl, (HE.out.trans (by simp)).symm, HZ.out⟩
    | true =>
    cases bl with
    | false =>
      go_upto_region 6 with fail
      clear a0 a1 a2 a3 a4 a5 a6 a7 a8 a9 b0 b1 b2 b3 b4 b5
      refine wp_region_past wc (by kernel_rfl) (by kernel_rfl) (Below.refl _ _) ?_
      repeat (first | go_big_quiet_step (fail) | quiet_step (fail))
      quiet_step ((go_at_call 77; exact u1 _))
      repeat (first | go_big_quiet_step (fail) | quiet_step (fail))
      quiet_step ((go_at_call 107; exact u2 _))
      repeat (first | go_big_quiet_step (fail) | quiet_step (fail))
      quiet_step ((go_at_call 38; exact u4 _))
      repeat (first | go_big_quiet_step (fail) | quiet_step (fail))
      refine wpQuiet_nil ?_
      intro wz hw'
      obtain ⟨⟨wy, hbz⟩, hw''⟩ := hw'
      dsimp only at hw''
      subst hw''
      have HZ := Lib.hid (belows HW.out hbz)
      clear hX hP2 hQ6 hbz
      go_wp2_with fail
      go_ret
      exact ⟨false, rfl, (HE.out.trans (by simp)).symm, HZ.out⟩
    | true =>
      go_upto_region 6 with fail
      clear a0 a1 a2 a3 a4 a5 a6 a7 a8 a9 b0 b1 b2 b3 b4 b5
      refine wp_region_past wc (by kernel_rfl) (by kernel_rfl) (Below.refl _ _) ?_
      repeat (first | go_big_quiet_step (fail) | quiet_step (fail))
      quiet_step ((go_at_call 77; exact u1 _))
      repeat (first | go_big_quiet_step (fail) | quiet_step (fail))
      quiet_step ((go_at_call 107; exact u2 _))
      repeat (first | go_big_quiet_step (fail) | quiet_step (fail))
      quiet_step ((go_at_call 38; exact u4 _))
      repeat (first | go_big_quiet_step (fail) | quiet_step (fail))
      refine wpQuiet_nil ?_
      intro wz hw'
      obtain ⟨⟨wy, hbz⟩, hw''⟩ := hw'
      dsimp only at hw''
      subst hw''
      have HZ := Lib.hid (belows HW.out hbz)
      clear hX hP2 hQ6 hbz
      go_wp2_with fail
      go_ret
      exact ⟨true, rfl, (HE.out.trans (by simp)).symm, HZ.out⟩
theorem Wk.of_row {W X : World} {base g : Nat} {s s' : Sp} (h : Wk W base g s) (k : KeptK W X (SpS g s.lA)) (h1 : s'.sA = s.sA) (h2 : s'.sc = s.sc) (h3 : s'.f = s.f) (own : Own X g 137 s'.cells)
    (row : X.ownsRow base 129 10 (.slice s'.lA s'.L.length s'.lc) s'.L.length (s'.L.flatMap Lv.cells)) (out : blkS s'.lA ≠ some g) (hA : blkS s'.lA = blkS s.lA ∨ ∃ q, blkS s'.lA = some q ∧ W.heap.size ≤ q)
    (lev : ∀ l ∈ s'.L, l ∈ s.L ∨ (LvIn W W.heap.size l ∧ OfL (SpS g s.lA) l ∧ LvLo base l)) (ok : SpOk s') : Wk X base g s' := by
  have hS : ∀ b, SpS g s'.lA b → SpS g s.lA b ∨ W.heap.size ≤ b := fun b hb => by
    rcases hb with hb | hb
    · exact .inl (.inl hb)
    · rcases hA with hA | ⟨q, hq, hle⟩
      · exact .inl (.inr (by rw [← hA]; exact hb))
      · rw [hq] at hb
        injection hb with hb
        exact .inr (by omega)
  refine ⟨own, row, out, ?_, ?_, fun l hl => ?_, fun l hl => ?_, ok, by rw [h1]; exact h.slo, fun l hl => (lev l hl).elim (h.lo l) (fun h9 => h9.2.2), h.low, Nat.le_trans h.base_ k.size⟩
  · rw [h1, h3]; exact times_kept h.since h.soff k
  · rw [h1, h3]; exact (h.soff.or (times_in h.since)).less hS
  · rcases lev l hl with h9 | ⟨h8, h9, _⟩
    · exact lv_kept (h.lev l h9) (h.loff l h9) k
    · exact lv_kept h8 h9 k
  · rcases lev l hl with h9 | ⟨h8, h9, _⟩
    · exact ((h.loff l h9).or (lv_in (h.lev l h9))).less hS
    · exact (h9.or (lv_in h8)).less hS
theorem Wk.again {w W X : World} {base g P : Nat} {s s' : Sp} (h : Wk w base g s) (h3 : Wk W base g s') (k3 : KeptK w W (SpS g s.lA)) (kX : KeptK W X (fun b => b = P)) (hP : w.heap.size ≤ P) (h1 : s'.sA = s.sA) (h2 : s'.sc = s.sc) (h4 : s'.f = s.f) (h5 : s'.lA = s.lA) (hsub : ∀ l ∈ s'.L, l ∈ s.L) :
    Wk X base g s' ∧ KeptK w X (SpS g s.lA) := by
  have hlt : ∀ k, SpS g s.lA k → k < w.heap.size := fun k hk => (h.lt k hk).2
  have hk : KeptK w X (SpS g s.lA) := k3.trans kX (fun b hb e => by omega)
  refine ⟨h.of_row hk h1 h2 h4 (kX.own h3.own (fun e => by have := hlt g (.inl rfl); omega)) (kX.row h3.row (fun k e e2 => ?_)) (by rw [h5]; exact h.out) (.inl (by rw [h5])) (fun l hl => .inl (hsub l hl)) h3.ok, hk⟩
  rw [blkS_own, h5] at e
  have := hlt k (.inr e)
  omega
theorem row_le {w : World} {base c n size : Nat} {e : TypeId} {A : Option Addr} {xs : List Value} (h : w.ownsRow base e size (.slice A n c) n xs) : n ≤ c ∧ c ≤ maxLen := by
  rcases row_ownK h with ⟨_, h0, h1, _⟩ | ⟨_, _, _, _, _, h1, h2, _⟩
  · subst h0; subst h1; exact ⟨Nat.le_refl _, Nat.zero_le _⟩
  · exact ⟨h1, h2⟩
theorem Wk.insert {W V W2 : World} {base g i c' : Nat} {s : Sp} {l : Lv} {A' : Option Addr} (h : Wk W base g s) (hl : LvIn W W.heap.size l) (ol : OfL (SpS g s.lA) l) (okl : LvOk l) (lol : LvLo base l) (hn : s.L.length + 1 ≤ 1048576) (hi : i ≤ s.L.length) (hV : Below W.heap.size W V)
    (hr : W2.ownsRow base 129 10 (.slice A' (s.L.length + 1) c') (s.L.length + 1) ((s.L.flatMap Lv.cells).take (i * 10) ++ l.cells ++ (s.L.flatMap Lv.cells).drop (i * 10))) (hg : V.grownBy W2 (Value.slice s.lA s.L.length s.lc).ownBlock)
    (hA : (Value.slice A' (s.L.length + 1) c').ownBlock = (Value.slice s.lA s.L.length s.lc).ownBlock ∨ (Value.slice A' (s.L.length + 1) c').ownBlock = some V.heap.size) :
    Wk (W2.setCell ⟨g, 1, none⟩ (.slice A' (s.L.length + 1) c')) base g ⟨s.sA, s.sc, s.f, A', c', s.L.take i ++ l :: s.L.drop i⟩ ∧ KeptK W (W2.setCell ⟨g, 1, none⟩ (.slice A' (s.L.length + 1) c')) (SpS g s.lA) ∧
      (blkS A' = blkS s.lA ∨ ∃ q, blkS A' = some q ∧ W.heap.size ≤ q) := by
  rw [blkS_own] at hg hA
  rw [blkS_own] at hA
  have hgi := h.own.inside
  have k1 : KeptK W W2 (fun k => blkS s.lA = some k) := (KeptK.of_below hV (Nat.le_refl _) _).trans (KeptK.of_grown (S := fun k => blkS s.lA = some k) hg (fun _ e => e)) (fun _ _ e => e)
  have o2 : Own W2 g 137 s.cells := k1.own h.own h.out
  have hA' : blkS A' = blkS s.lA ∨ ∃ q, blkS A' = some q ∧ W.heap.size ≤ q := by
    rcases hA with e | e
    · exact .inl e
    · exact .inr ⟨_, e, hV.size⟩
  have hout : blkS A' ≠ some g := by
    rcases hA' with e | ⟨q, e, hq⟩
    · rw [e]; exact h.out
    · rw [e]; intro e2; injection e2 with e2; omega
  have hk : KeptK W (W2.setCell ⟨g, 1, none⟩ (.slice A' (s.L.length + 1) c')) (SpS g s.lA) := (k1.more (fun _ e => .inr e)).set_ (.inl (.inl rfl)) _
  have hlen : (s.L.take i ++ l :: s.L.drop i).length = s.L.length + 1 := by simp; omega
  have hfl : (s.L.flatMap Lv.cells).take (i * 10) ++ l.cells ++ (s.L.flatMap Lv.cells).drop (i * 10) = (s.L.take i ++ l :: s.L.drop i).flatMap Lv.cells := by
    rw [level_rows, level_rowsD, List.flatMap_append, List.flatMap_cons, List.append_assoc]
  have hle := row_le hr
  have okS : SpOk ⟨s.sA, s.sc, s.f, A', c', s.L.take i ++ l :: s.L.drop i⟩ := by
    refine ⟨h.ok.f, by show (s.L.take i ++ l :: s.L.drop i).length ≤ _; omega, by show (s.L.take i ++ l :: s.L.drop i).length ≤ c'; omega, hle.2, fun x hx => ?_⟩
    rcases List.mem_append.1 hx with hx | hx
    · exact h.ok.each_ x (List.mem_of_mem_take hx)
    · rcases List.mem_cons.1 hx with rfl | hx
      · exact okl
      · exact h.ok.each_ x (List.mem_of_mem_drop hx)
  refine ⟨h.of_row hk rfl rfl rfl ?_ ?_ hout hA' (fun x hx => ?_) okS, hk, hA'⟩
  · have := o2.set_ 1 (.slice A' (s.L.length + 1) c')
    show Own _ g _ [.slice s.sA s.f.length s.sc, .slice A' (s.L.take i ++ l :: s.L.drop i).length c']
    rw [hlen]
    exact this
  · show World.ownsRow _ base _ 10 (.slice A' (s.L.take i ++ l :: s.L.drop i).length c') (s.L.take i ++ l :: s.L.drop i).length _
    rw [hlen, ← hfl]
    exact (KeptK.refl W2 (fun k => k = g)).set_ (.inl rfl) _ |>.row hr (fun k e e2 => hout (by rw [← blkS_own A' (s.L.length + 1) c', e, e2]))
  · rcases List.mem_append.1 hx with hx | hx
    · exact .inl (List.mem_of_mem_take hx)
    · rcases List.mem_cons.1 hx with rfl | hx
      · exact .inr ⟨hl, ol, lol⟩
      · exact .inl (List.mem_of_mem_drop hx)
theorem Wk.erase {W V W2 : World} {base g i : Nat} {s : Sp} (h : Wk W base g s) (hi : i < s.L.length) (hV : Below W.heap.size W V)
    (hr : W2.ownsRow base 129 10 (.slice s.lA (s.L.length - 1) s.lc) (s.L.length - 1) ((s.L.flatMap Lv.cells).take (i * 10) ++ (s.L.flatMap Lv.cells).drop ((i + 1) * 10))) (hg : V.grownBy W2 (Value.slice s.lA s.L.length s.lc).ownBlock) :
    Wk (W2.setCell ⟨g, 1, none⟩ (.slice s.lA (s.L.length - 1) s.lc)) base g ⟨s.sA, s.sc, s.f, s.lA, s.lc, s.L.eraseIdx i⟩ ∧ KeptK W (W2.setCell ⟨g, 1, none⟩ (.slice s.lA (s.L.length - 1) s.lc)) (SpS g s.lA) := by
  rw [blkS_own] at hg
  have k1 : KeptK W W2 (fun k => blkS s.lA = some k) := (KeptK.of_below hV (Nat.le_refl _) _).trans (KeptK.of_grown (S := fun k => blkS s.lA = some k) hg (fun _ e => e)) (fun _ _ e => e)
  have o2 : Own W2 g 137 s.cells := k1.own h.own h.out
  have hk : KeptK W (W2.setCell ⟨g, 1, none⟩ (.slice s.lA (s.L.length - 1) s.lc)) (SpS g s.lA) := (k1.more (fun _ e => .inr e)).set_ (.inl (.inl rfl)) _
  have her : s.L.eraseIdx i = s.L.take i ++ s.L.drop (i + 1) := List.eraseIdx_eq_take_drop_succ ..
  have hlen : (s.L.eraseIdx i).length = s.L.length - 1 := by rw [List.length_eraseIdx, if_pos hi]
  have hfl : (s.L.flatMap Lv.cells).take (i * 10) ++ (s.L.flatMap Lv.cells).drop ((i + 1) * 10) = (s.L.eraseIdx i).flatMap Lv.cells := by
    rw [level_rows, level_rowsD, her, List.flatMap_append]
  have hle := row_le hr
  have okS : SpOk ⟨s.sA, s.sc, s.f, s.lA, s.lc, s.L.eraseIdx i⟩ := by
    refine ⟨h.ok.f, ?_, ?_, hle.2, fun x hx => h.ok.each_ x (List.mem_of_mem_eraseIdx hx)⟩
    · show (s.L.eraseIdx i).length ≤ _; have := h.ok.n; omega
    · show (s.L.eraseIdx i).length ≤ s.lc; omega
  refine ⟨h.of_row hk rfl rfl rfl ?_ ?_ h.out (.inl rfl) (fun x hx => .inl (List.mem_of_mem_eraseIdx hx)) okS, hk⟩
  · have := o2.set_ 1 (.slice s.lA (s.L.length - 1) s.lc)
    show Own _ g _ [.slice s.sA s.f.length s.sc, .slice s.lA (s.L.eraseIdx i).length s.lc]
    rw [hlen]
    exact this
  · show World.ownsRow _ base _ 10 (.slice s.lA (s.L.eraseIdx i).length s.lc) (s.L.eraseIdx i).length _
    rw [hlen, ← hfl]
    exact (KeptK.refl W2 (fun k => k = g)).set_ (.inl rfl) _ |>.row hr (fun k e e2 => h.out (by rw [← blkS_own s.lA (s.L.length - 1) s.lc, e, e2]))
def setsAt (w : World) (G o : Nat) : List Value → World
  | [] => w
  | v :: vs => setsAt (w.setCell ⟨G, o, none⟩ v) G (o + 1) vs
theorem setsAt_own {G : Nat} {t : TypeId} : ∀ (vs : List Value) (w : World) (o : Nat) (cur : List Value), Own w G t cur → o + vs.length ≤ cur.length → Own (setsAt w G o vs) G t (cur.take o ++ vs ++ cur.drop (o + vs.length))
  | [], w, o, cur, h, _ => by
    rw [List.append_nil, List.length_nil, Nat.add_zero, List.take_append_drop]
    exact h
  | v :: vs, w, o, cur, h, hl => by
    rw [List.length_cons] at hl
    have := setsAt_own vs (w.setCell ⟨G, o, none⟩ v) (o + 1) (cur.set o v) (h.set_ o v) (by rw [List.length_set]; omega)
    have e1 : (cur.set o v).take (o + 1) = cur.take o ++ [v] := by
      rw [List.set_eq_take_append_cons_drop, if_pos (by omega)]
      have h1 : (cur.take o).length = o := by rw [List.length_take]; omega
      rw [show o + 1 = (cur.take o).length + 1 by omega, List.take_length_add_append]
      simp
    have e2 : (cur.set o v).drop (o + 1 + vs.length) = cur.drop (o + (vs.length + 1)) := by
      rw [List.drop_set_of_lt (by omega)]
      congr 1
      omega
    rw [e1, e2] at this
    rw [List.length_cons]
    have e3 : cur.take o ++ [v] ++ vs = cur.take o ++ v :: vs := by simp
    rw [e3] at this
    exact this
theorem setsAt_kept {S : Nat → Prop} {G : Nat} {w : World} (hS : S G ∨ w.heap.size ≤ G) : ∀ (vs : List Value) (W : World) (o : Nat), KeptK w W S → KeptK w (setsAt W G o vs) S
  | [], _, _, h => h
  | v :: vs, W, o, h => setsAt_kept hS vs (W.setCell ⟨G, o, none⟩ v) (o + 1) (h.set_ hS v)
theorem splice_level {cur cs : List Value} {i n : Nat} (hc : cs.length = 10) (hi : i < n) (hl : n * 10 ≤ cur.length) :
    (cur.take (i * 10) ++ cs ++ cur.drop (i * 10 + 10)).take (n * 10) = (cur.take (n * 10)).take (i * 10) ++ cs ++ (cur.take (n * 10)).drop ((i + 1) * 10) := by
  have h2 : (cur.take (i * 10) ++ cs).length = i * 10 + 10 := by rw [List.length_append, List.length_take, hc]; omega
  rw [List.take_append, List.take_of_length_le (by omega), h2, List.take_take, Nat.min_eq_left (by omega), List.drop_take, show (i + 1) * 10 = i * 10 + 10 by omega]
theorem Wk.level {W : World} {base g G i : Nat} {s : Sp} {l : Lv} (h : Wk W base g s) (hl : LvIn W W.heap.size l) (ol : OfL (SpS g s.lA) l) (okl : LvOk l) (lol : LvLo base l) (hi : i < s.L.length) (hA : s.lA = some ⟨G, 0, none⟩) :
    Wk (setsAt W G (i * 10) l.cells) base g ⟨s.sA, s.sc, s.f, s.lA, s.lc, s.L.set i l⟩ ∧ KeptK W (setsAt W G (i * 10) l.cells) (SpS g s.lA) := by
  have hblk : blkS s.lA = some G := by rw [hA]; rfl
  have hk : KeptK W (setsAt W G (i * 10) l.cells) (SpS g s.lA) := setsAt_kept (.inl (.inr hblk)) _ _ _ (KeptK.refl _ _)
  have hk1 : KeptK W (setsAt W G (i * 10) l.cells) (fun k => k = G) := setsAt_kept (S := fun k => k = G) (.inl rfl) _ _ _ (KeptK.refl _ _)
  have hlen : (s.L.set i l).length = s.L.length := List.length_set ..
  have okS : SpOk ⟨s.sA, s.sc, s.f, s.lA, s.lc, s.L.set i l⟩ := ⟨h.ok.f, by show (s.L.set i l).length ≤ _; rw [hlen]; exact h.ok.n, by show (s.L.set i l).length ≤ _; rw [hlen]; exact h.ok.le, h.ok.c_, fun x hx => by
    rcases List.mem_or_eq_of_mem_set hx with hx | rfl
    · exact h.ok.each_ x hx
    · exact okl⟩
  refine ⟨h.of_row hk rfl rfl rfl ?_ ?_ h.out (.inl rfl) (fun x hx => ?_) okS, hk⟩
  · show Own _ g _ [.slice s.sA s.f.length s.sc, .slice s.lA (s.L.set i l).length s.lc]
    rw [hlen]
    exact hk1.own h.own (fun e => h.out (by rw [hblk, e]))
  · show World.ownsRow _ base _ 10 (.slice s.lA (s.L.set i l).length s.lc) (s.L.set i l).length _
    rw [hlen]
    rcases row_ownK h.row with ⟨h0, _⟩ | ⟨G', cur, e, hb, hg, hn, hm, hc, ht⟩
    · rw [hA] at h0; cases h0
    · rw [hA] at e
      obtain rfl : G = G' := by simpa using e
      have hle : i * 10 + 10 ≤ s.lc * 10 := by omega
      have hc10 : l.cells.length = 10 := rfl
      have o2 := setsAt_own l.cells W (i * 10) cur hg (by rw [hc10, hc]; exact hle)
      have hnew : (cur.take (i * 10) ++ l.cells ++ cur.drop (i * 10 + l.cells.length)).take (s.L.length * 10) = (s.L.set i l).flatMap Lv.cells := by
        have e1 : s.L.set i l = s.L.take i ++ l :: s.L.drop (i + 1) := (List.set_eq_take_append_cons_drop ..).trans (if_pos hi)
        rw [hc10, splice_level hc10 hi (by omega), ht, level_rows, level_rowsD, e1, List.flatMap_append, List.flatMap_cons, List.append_assoc]
      rw [hA, ← hnew]
      exact own_to_row o2 hb hn hm (by rw [List.length_append, List.length_append, List.length_take, List.length_drop, hc10, hc]; omega)
  · rcases List.mem_or_eq_of_mem_set hx with hx | rfl
    · exact .inl hx
    · exact .inr ⟨hl, ol, lol⟩
def posC : List Lv → Int → Nat
  | [], _ => 0
  | l :: L, c => if l.cls ≤ c then 0 else posC L c + 1
theorem posC_le : ∀ (L : List Lv) (c : Int), posC L c ≤ L.length
  | [], _ => Nat.le_refl _
  | l :: L, c => by
    unfold posC
    have := posC_le L c
    rw [List.length_cons]
    split <;> omega
theorem posC_before : ∀ (L : List Lv) (c : Int), ∀ l ∈ L.take (posC L c), c < l.cls
  | [], _, l, h => by simp at h
  | x :: L, c, l, h => by
    unfold posC at h
    split at h
    · simp at h
    · rename_i hx
      rw [List.take_succ_cons] at h
      rcases List.mem_cons.1 h with rfl | h
      · omega
      · exact posC_before L c l h
theorem posC_at : ∀ (L : List Lv) (c : Int) (l : Lv), L[posC L c]? = some l → l.cls ≤ c
  | [], _, l, h => by simp at h
  | x :: L, c, l, h => by
    unfold posC at h
    split at h
    · rename_i hx
      obtain rfl : x = l := by simpa using h
      exact hx
    · rw [List.getElem?_cons_succ] at h
      exact posC_at L c l h
theorem posC_is {L : List Lv} {c : Int} {k : Nat} {l : Lv} (hb : ∀ x ∈ L.take k, c < x.cls) (hk : L[k]? = some l) (hl : l.cls ≤ c) : posC L c = k := by
  induction L generalizing k with
  | nil => simp at hk
  | cons x L ih =>
    unfold posC
    cases k with
    | zero =>
      obtain rfl : x = l := by simpa using hk
      rw [if_pos hl]
    | succ k =>
      rw [List.take_succ_cons] at hb
      rw [if_neg (by have := hb x List.mem_cons_self; omega), ih (fun y hy => hb y (List.mem_cons_of_mem _ hy)) (by simpa using hk)]
theorem posC_none {L : List Lv} {c : Int} (hb : ∀ x ∈ L, c < x.cls) : posC L c = L.length := by
  induction L with
  | nil => rfl
  | cons x L ih =>
    unfold posC
    rw [if_neg (by have := hb x List.mem_cons_self; omega), ih fun y hy => hb y (List.mem_cons_of_mem _ hy)]
    rfl
theorem fall_after {L : List Lv} {i : Nat} {l : Lv} (h : L.Pairwise fun x y => y.cls < x.cls) (hi : L[i]? = some l) : ∀ x ∈ L.drop (i + 1), x.cls < l.cls := by
  have e := split_at' hi
  rw [e] at h
  have := (List.pairwise_cons.1 (List.pairwise_append.1 h).2.1).1
  exact this
theorem posC_after {L : List Lv} {c : Int} (h : L.Pairwise fun x y => y.cls < x.cls) (hne : ∀ l, L[posC L c]? = some l → l.cls ≠ c) : ∀ l ∈ L.drop (posC L c), l.cls < c := by
  intro l hl
  cases hx : L[posC L c]? with
  | none =>
    have : L.length ≤ posC L c := by simpa using hx
    rw [List.drop_eq_nil_of_le this] at hl
    simp at hl
  | some x =>
    have h1 := posC_at L c x hx
    have h2 := hne x hx
    have hd : L.drop (posC L c) = x :: L.drop (posC L c + 1) := by
      have := List.getElem?_eq_some_iff.1 hx
      rw [← this.2, ← List.drop_eq_getElem_cons this.1]
    rw [hd] at hl
    rcases List.mem_cons.1 hl with rfl | hl
    · omega
    · have := fall_after h hx l hl; omega
structure Pl where
  cls : Int
  busy : Bool
  bf : List Tm
  bl : List (Uk × Int)
  a : List (Uk × Int)
  b : List (Uk × Int)
  i : Int
  j : Int
  f : List Tm
  o : List (Uk × Int)
def Lv.pl (l : Lv) : Pl := ⟨l.cls, l.busy, l.b.f, l.b.l.map Up.p, l.m.a.map Up.p, l.m.b.map Up.p, l.m.i, l.m.j, l.m.f, l.m.o.map Up.p⟩
theorem nil_p {l m : List Up} (h : l.map Up.p = m.map Up.p) (hl : l = []) : m = [] := by subst hl; cases m with | nil => rfl | cons x m => simp at h
structure LvEq (l k : Lv) : Prop where
  cls : l.cls = k.cls
  busy : l.busy = k.busy
  bf : l.b.f = k.b.f
  bl : l.b.l.map Up.p = k.b.l.map Up.p
  a : l.m.a.map Up.p = k.m.a.map Up.p
  b : l.m.b.map Up.p = k.m.b.map Up.p
  i : l.m.i = k.m.i
  j : l.m.j = k.m.j
  f : l.m.f = k.m.f
  o : l.m.o.map Up.p = k.m.o.map Up.p
theorem LvEq.of {l k : Lv} (h : l.pl = k.pl) : LvEq l k := by
  unfold Lv.pl at h
  injection h with h1 h2 h3 h4 h5 h6 h7 h8 h9 h10
  exact ⟨h1, h2, h3, h4, h5, h6, h7, h8, h9, h10⟩
theorem LvEq.to {l k : Lv} (h : LvEq l k) : l.pl = k.pl := by
  unfold Lv.pl
  rw [h.cls, h.busy, h.bf, h.bl, h.a, h.b, h.i, h.j, h.f, h.o]
theorem partsM_p {m n : Mg} (a : m.a.map Up.p = n.a.map Up.p) (b : m.b.map Up.p = n.b.map Up.p) (i : m.i = n.i) (j : m.j = n.j) (o : m.o.map Up.p = n.o.map Up.p) : (partsM m).map Up.p = (partsM n).map Up.p := by
  unfold partsM
  rw [i, j]
  exact app_p (drop_p a _) (app_p (drop_p b _) o)
theorem LvEq.parts {l k : Lv} (h : LvEq l k) : (partsL l).map Up.p = (partsL k).map Up.p := by
  unfold partsL
  rw [h.busy]
  split
  · exact partsM_p h.a h.b h.i h.j h.o
  · exact h.bl
theorem LvEq.good {f : List Tm} {l k : Lv} (h : LvEq l k) (g : LvGood f l) : LvGood f k := by
  constructor
  · intro hb
    obtain ⟨b1, b2, b3, b4, b5, b6, b7⟩ := g.busy (h.busy.trans hb)
    refine ⟨by rw [← h.bf]; exact b1, nil_p h.bl b2, ?_, by rw [← len_p h.a, ← h.cls]; exact b4, by rw [← len_p h.b, ← h.cls]; exact b5, by rw [← h.f]; exact b6, ?_⟩
    · unfold MOk at b3 ⊢
      rw [← h.f, ← h.i, ← h.j]
      refine ⟨⟨even_p h.a b3.even.1, even_p h.b b3.even.2.1, even_p h.o b3.even.2.2⟩, b3.front, advd_p h.o b3.advd, ?_, ?_⟩
      · exact div_po h.a h.o b3.da
      · exact div_po h.b h.o b3.db
    · unfold leftM at b7 ⊢
      rw [← len_p h.a, ← len_p h.b, ← h.i, ← h.j]
      exact b7
  · intro hb
    obtain ⟨⟨b1, b2, b3, b4, b5, b6⟩, b7, b8, b9⟩ := g.idle (h.busy.trans hb)
    exact ⟨⟨nil_p h.a b1, nil_p h.b b2, by rw [← h.i]; exact b3, by rw [← h.j]; exact b4, by rw [← h.f]; exact b5, nil_p h.o b6⟩, ⟨by rw [← h.bf]; exact b7.1, even_p h.bl b7.2.1, by rw [← h.bf]; exact advd_p h.bl b7.2.2⟩, by rw [← len_p h.bl, ← h.cls]; exact b8, by rw [← h.bf]; exact b9⟩
theorem LvEq.cnt {l k : Lv} (h : LvEq l k) : cntL l = cntL k := by unfold cntL; rw [h.busy]
theorem LvEq.wt {l k : Lv} (h : LvEq l k) : wtL l = wtL k := by
  unfold wtL
  rw [h.busy, len_p h.a, len_p h.b, len_p h.bl, len_p (partsM_p h.a h.b h.i h.j h.o)]
theorem pl_parts : ∀ {L K : List Lv}, L.map Lv.pl = K.map Lv.pl → (partsS L).map Up.p = (partsS K).map Up.p ∧ cntS L = cntS K ∧ wtS L = wtS K ∧ busyN L = busyN K
  | [], [], _ => ⟨rfl, rfl, rfl, rfl⟩
  | [], _ :: _, h => by simp at h
  | _ :: _, [], h => by simp at h
  | l :: L, k :: K, h => by
    rw [List.map_cons, List.map_cons, List.cons.injEq] at h
    have e := LvEq.of h.1
    obtain ⟨i1, i2, i3, i4⟩ := pl_parts h.2
    exact ⟨by rw [partsS_cons, partsS_cons]; exact app_p e.parts i1, by rw [cntS_cons, cntS_cons, e.cnt, i2], by rw [wtS_cons, wtS_cons, e.wt, i3], by rw [busyN_cons, busyN_cons, e.busy, i4]⟩
theorem pl_mem {L K : List Lv} (h : L.map Lv.pl = K.map Lv.pl) {k : Lv} (hk : k ∈ K) : ∃ l ∈ L, LvEq l k := by
  have : k.pl ∈ L.map Lv.pl := by rw [h]; exact List.mem_map_of_mem hk
  obtain ⟨l, hl, e⟩ := List.mem_map.1 this
  exact ⟨l, hl, LvEq.of e⟩
theorem pl_good {f : List Tm} {L K : List Lv} (h : L.map Lv.pl = K.map Lv.pl) (g : SpGood f L) : SpGood f K := by
  refine ⟨g.front, fun k hk => ?_, ?_, fun k hk => ?_⟩
  · obtain ⟨l, hl, e⟩ := pl_mem h hk
    rw [← e.cls]; exact g.pos l hl
  · have h1 : (L.map Lv.pl).Pairwise fun x y => y.cls < x.cls := List.pairwise_map.2 g.fall
    rw [h] at h1
    exact List.pairwise_map.1 h1
  · obtain ⟨l, hl, e⟩ := pl_mem h hk
    exact e.good (g.each l hl)
def posI (L : List Lv) (c : Int) : Int := if posC L c = L.length then -1 else (posC L c : Int)
structure Kin (w : World) (bx : Nat) (c : Int) : Prop where
  cell : w.cell? ⟨bx, 0, none⟩ = some (.int .i64 c)
  inside : bx < w.heap.size
theorem Kin.past {w w' : World} {bx : Nat} {c : Int} (h : Kin w bx c) (hb : Below w.heap.size w w') : Kin w' bx c :=
  ⟨(hb.cell (p := ⟨bx, 0, none⟩) h.inside).trans h.cell, Nat.lt_of_lt_of_le h.inside hb.size⟩
theorem lies_lv {w : World} {B : Nat} {A : Option Addr} {L : List Lv} (h : Lies 10 Lv.cells w B A L) (hp : 0 < L.length) :
    ∃ b o, A = some ⟨b, o, none⟩ ∧ b < B ∧ ∀ (i : Nat) (l : Lv), L[i]? = some l → ∀ (j : Nat) (u : Value), l.cells[j]? = some u → w.cell? ⟨b, o + i * 10 + j, none⟩ = some u := h hp
theorem lv_ten {w : World} {b o : Nat} {l : Lv} (h : ∀ (j : Nat) (u : Value), l.cells[j]? = some u → w.cell? ⟨b, o + j, none⟩ = some u) :
    w.cell? ⟨b, o, none⟩ = some (.int .i64 l.cls) ∧ w.cell? ⟨b, o + 1, none⟩ = some (.bool l.busy) ∧ w.cell? ⟨b, o + 2, none⟩ = some (.slice l.b.sA l.b.f.length l.b.sc) ∧ w.cell? ⟨b, o + 3, none⟩ = some (.slice l.b.uA l.b.l.length l.b.uc) ∧
      w.cell? ⟨b, o + 4, none⟩ = some (.slice l.m.aA l.m.a.length l.m.ac) ∧ w.cell? ⟨b, o + 5, none⟩ = some (.slice l.m.bA l.m.b.length l.m.bc) ∧ w.cell? ⟨b, o + 6, none⟩ = some (.int .i64 l.m.i) ∧ w.cell? ⟨b, o + 7, none⟩ = some (.int .i64 l.m.j) ∧
      w.cell? ⟨b, o + 8, none⟩ = some (.slice l.m.sA l.m.f.length l.m.sc) ∧ w.cell? ⟨b, o + 9, none⟩ = some (.slice l.m.oA l.m.o.length l.m.oc) :=
  ⟨h 0 _ rfl, h 1 _ rfl, h 2 _ rfl, h 3 _ rfl, h 4 _ rfl, h 5 _ rfl, h 6 _ rfl, h 7 _ rfl, h 8 _ rfl, h 9 _ rfl⟩
set_option maxRecDepth 100000 in
set_option maxHeartbeats 3200000 in
theorem putf_any (l : Lv) (bx : Nat) (c : Int) (w : World) (hk : Kin w bx c) :
    Calls Tryz.prog 109 #[l.val, .pointer (some ⟨bx, 0, none⟩)] w fun e w' => e = .returned (.bool (decide (l.cls ≤ c))) ∧ Below w.heap.size w w' := by
  obtain ⟨V, hV, hvb, hvs, hvo⟩ := lvbox w l
  have k0 := (hk.past hvb).cell
  obtain ⟨d0, d1, d2, d3, d4, d5, d6, d7, d8, d9⟩ := own10 hvo
  have HB := Lib.hid hvb
  rw [show l.val = .agg #[.int .i64 l.cls, .bool l.busy, .slice l.b.sA l.b.f.length l.b.sc, .slice l.b.uA l.b.l.length l.b.uc, .slice l.m.aA l.m.a.length l.m.ac, .slice l.m.bA l.m.b.length l.m.bc, .int .i64 l.m.i, .int .i64 l.m.j, .slice l.m.sA l.m.f.length l.m.sc, .slice l.m.oA l.m.o.length l.m.oc] from rfl]
  clear hk hvb hvs hvo d1 d2 d3 d4 d5 d6 d7 d8 d9
  go_enter Tryz.func109, Tryz.ntmps109
  go_upto_region 1 with fail
  rw [← hV]
  clear hV
  go_wp2_with fail
  go_ret
  exact ⟨rfl, HB.out⟩
set_option maxRecDepth 100000 in
set_option maxHeartbeats 3200000 in
theorem indexS_any (A : Option Addr) (c : Nat) (L : List Lv) (bx : Nat) (k0 : Int) (w : World) (hl : Lies 10 Lv.cells w w.heap.size A L) (hn : L.length ≤ 1048576) (hk : Kin w bx k0) :
    Calls Tryz.prog 108 #[.slice A L.length c, .func (.func 109) #[] #[.pointer (some ⟨bx, 0, none⟩)]] w fun x w' => x = .returned (.int .i64 (posI L k0)) ∧ Below w.heap.size w w' := by
  have Hl := Lib.hid (And.intro hl hk)
  have hu := fun l W h => Lib.hid (putf_any l bx k0 W h)
  unfold Lv.val at hu
  clear hl hk
  go_enter Tryz.func108, Tryz.ntmps108
  go_wp2_with fail
  go_loopw [8] (fun i wr => ∃ k : Nat, i = .int .i64 (k : Int) ∧ k ≤ L.length ∧ Below w.heap.size w wr ∧ ∀ x ∈ L.take k, k0 < x.cls)
    (fun i _ => L.length - (intOf i).toNat)
  case atStart => exact ⟨0, rfl, by omega, Below.refl _ _, fun x hx => by simp at hx⟩
  case round =>
    obtain ⟨k, rfl, hk, hb, he⟩ := hrel
    by_cases hlt : k < L.length
    · have hx : L[k]? = some L[k] := List.getElem?_eq_getElem hlt
      obtain ⟨b, o, rfl, hB, hc⟩ := lies_lv Hl.out.1 (by omega)
      obtain ⟨c0, c1, c2, c3, c4, c5, c6, c7, c8, c9⟩ := lv_ten fun j u hj => (hb.cell (p := ⟨b, o + k * 10 + j, none⟩) hB).trans (hc k _ hx j u hj)
      obtain ⟨l, hl⟩ : ∃ l, l = L[k] := ⟨_, rfl⟩
      rw [← hl] at hx c0 c1 c2 c3 c4 c5 c6 c7 c8 c9
      have hut := hu l wr (Hl.out.2.past hb)
      have hnx : ¬ l.cls ≤ k0 → ∀ x ∈ L.take (k + 1), k0 < x.cls := fun h x hm => by
        rw [List.take_add_one, hx] at hm
        rcases List.mem_append.1 hm with hm | hm
        · exact he x hm
        · obtain rfl : x = l := by simpa using hm
          omega
      have hit : l.cls ≤ k0 → posC L k0 = k := fun h => posC_is he hx h
      have HH := Lib.hid (And.intro hb (And.intro hnx hit))
      have q0 : (0 : Int) ≤ (k : Int) := by omega
      have q1 : (k : Int) < (L.length : Int) := by omega
      clear hb he hx hc hnx hit hu hl
      by_cases hle : l.cls ≤ k0
      · rw [decide_eq_true hle] at hut
        have HT := Lib.hid hle
        clear hle
        go_wp2_with fail
        refine hut.out.mono ?_
        rintro _ w2 ⟨rfl, b2⟩
        have H2 := Lib.hid (HH.out.1.trans (b2.mono HH.out.1.size))
        clear b2 c0 c1 c2 c3 c4 c5 c6 c7 c8 c9
        go_wp2_with fail
        go_ret
        exact ⟨ret_i64 (by unfold posI; rw [HH.out.2.2 HT.out, if_neg (by omega)]), H2.out⟩
      · rw [decide_eq_false hle] at hut
        have HT := Lib.hid hle
        clear hle
        go_wp2_with fail
        refine hut.out.mono ?_
        rintro _ w2 ⟨rfl, b2⟩
        have H2 := Lib.hid (HH.out.1.trans (b2.mono HH.out.1.size))
        clear b2 c0 c1 c2 c3 c4 c5 c6 c7 c8 c9
        go_wp2_with fail
        go_roundw
        case rel => exact ⟨k + 1, by go_num, by omega, H2.out, HH.out.2.1 HT.out⟩
        case measure => simp [intOf]; omega
    · have hk2 : k = L.length := by omega
      subst hk2
      rw [List.take_length] at he
      have HH := Lib.hid (And.intro hb he)
      clear hb he
      go_wp2_with fail
      go_ret
      exact ⟨ret_i64 (by unfold posI; rw [posC_none HH.out.2, if_pos rfl]), HH.out.1⟩
theorem right_anyS (l : Lv) (A : Option Addr) (c : Nat) (f : List Tm) (w : World) (hl : LvIn w w.heap.size l) (ol : LvOk l) (hf : Times w w.heap.size A f) (hfo : TsOk f c) :
    Calls Tryz.prog 76 #[l.val, .slice A f.length c] w (Tells (LvGood f l) w) := by
  obtain ⟨cl, bu, b, m⟩ := l
  cases bu
  · exact rightI_any cl b m A c f w hl ol hf hfo
  · exact rightB_any cl b m A c f w hl ol hf hfo
theorem spbox (w : World) (s : Sp) : ∃ W, W = w.alloc (.cells #[.slice s.sA s.f.length s.sc, .slice s.lA s.L.length s.lc] 36) ∧ Below w.heap.size w W ∧ W.heap.size = w.heap.size + 1 ∧ Own W w.heap.size 36 s.cells :=
  ⟨_, rfl, (Below.refl _ _).alloc (Nat.le_refl _) _, by simp, Own.made w 36 s.cells⟩
theorem good_next {f : List Tm} {L : List Lv} {k : Nat} {l : Lv} (hl : L[k]? = some l) (h : SpGood f (L.take k)) (h1 : 1 ≤ l.cls) (h2 : ∀ l0, 0 < k → L[k - 1]? = some l0 → l.cls < l0.cls) (h3 : LvGood f l) : SpGood f (L.take (k + 1)) := by
  have e : L.take (k + 1) = L.take k ++ [l] := by rw [List.take_add_one, hl]; rfl
  rw [e]
  refine ⟨h.front, fun x hx => ?_, ?_, fun x hx => ?_⟩
  · rcases List.mem_append.1 hx with hx | hx
    · exact h.pos x hx
    · obtain rfl : x = l := by simpa using hx
      exact h1
  · refine List.pairwise_append.2 ⟨h.fall, List.pairwise_singleton _ _, fun x hx y hy => ?_⟩
    obtain rfl : y = l := by simpa using hy
    have hk : 0 < (L.take k).length := List.length_pos_of_mem hx
    rw [List.length_take] at hk
    have hlt := (List.getElem?_eq_some_iff.1 hl).1
    obtain ⟨l0, hl0⟩ : ∃ l0, L[k - 1]? = some l0 := ⟨_, List.getElem?_eq_getElem (by omega)⟩
    have h4 := h2 l0 (by omega) hl0
    obtain ⟨i, hi⟩ := List.getElem?_of_mem hx
    have hik := (List.getElem?_eq_some_iff.1 hi).1
    rw [List.length_take] at hik
    by_cases e1 : i = k - 1
    · subst e1
      rw [List.getElem?_take_of_lt (by omega), hl0] at hi
      injection hi with hi
      rw [← hi]; exact h4
    · have hp := List.pairwise_iff_getElem.1 h.fall i (k - 1) (by rw [List.length_take]; omega) (by rw [List.length_take]; omega) (by omega)
      have a1 : (L.take k)[i]'(by rw [List.length_take]; omega) = x := (List.getElem?_eq_some_iff.1 hi).2
      have a2 : (L.take k)[k - 1]'(by rw [List.length_take]; omega) = l0 := by
        rw [List.getElem_take]
        exact (List.getElem?_eq_some_iff.1 hl0).2
      rw [a1, a2] at hp
      omega
  · rcases List.mem_append.1 hx with hx | hx
    · exact h.each x hx
    · obtain rfl : x = l := by simpa using hx
      exact h3
theorem good_prev {f : List Tm} {L : List Lv} {k : Nat} {l l0 : Lv} (h : SpGood f L) (hk : 0 < k) (hl : L[k]? = some l) (hl0 : L[k - 1]? = some l0) : l.cls < l0.cls := by
  have h1 := List.getElem?_eq_some_iff.1 hl
  have h2 := List.getElem?_eq_some_iff.1 hl0
  rw [← h1.2, ← h2.2]
  exact List.pairwise_iff_getElem.1 h.fall (k - 1) k h2.1 h1.1 (by omega)
set_option maxRecDepth 100000 in
set_option maxHeartbeats 25600000 in
theorem scheck_any (s : Sp) (w : World) (hs : SpIn w w.heap.size s) (ok : SpOk s) :
    Calls Tryz.prog 36 #[s.val] w (Codes (SpGood s.f s.L) 8 w) := by
  obtain ⟨V, hV, hvb, hvs, hvo⟩ := spbox w s
  have hin := hs.keep hvb
  have y1 := Lib.hid (frontier_anyS s.sA s.sc s.f V hin.since ok.f)
  have H := Lib.hid (And.intro hin (And.intro ok (And.intro hvb hvo)))
  obtain ⟨d0, d1⟩ := own2 hvo
  have hn := ok.n
  rw [show s.val = .agg #[.slice s.sA s.f.length s.sc, .slice s.lA s.L.length s.lc] from rfl]
  clear hs ok hvb hvs hvo hin
  go_enter Tryz.func36, Tryz.ntmps36
  go_upto_region 1 with fail
  rw [← hV]
  clear hV
  go_wp2_with fail
  refine y1.out.mono ?_
  rintro _ w1 ⟨fb, rfl, hfb, b1⟩
  have H1 := Lib.hid (And.intro b1 hfb)
  clear b1 hfb d0 d1 y1
  cases fb with
  | false =>
    go_wp2_with fail
    go_ret
    exact ⟨8, rfl, .inr ⟨fun h => absurd (H1.out.2.2 h.front) (by decide), rfl⟩, H.out.2.2.1.trans (H1.out.1.mono H.out.2.2.1.size)⟩
  | true =>
  have hf := Lib.hid (H1.out.2.1 rfl)
  have hX := Lib.hid (fun W (hb : Below V.heap.size V W) => own2 (H.out.2.2.2.past hb H.out.2.2.2.inside))
  obtain ⟨d0, d1⟩ := hX.out w1 H1.out.1
  go_wp2_with fail
  go_loopw [12] (fun v12 wr => ∃ k : Nat, v12 = .int .i64 (k : Int) ∧ k ≤ s.L.length ∧ Below V.heap.size V wr ∧ SpGood s.f (s.L.take k))
    (fun v12 _ => s.L.length - (intOf v12).toNat)
  case atStart => exact ⟨0, rfl, by omega, H1.out.1, ⟨hf.out, fun l hl => (by simp at hl), by simp, fun l hl => (by simp at hl)⟩⟩
  case round =>
    obtain ⟨k, rfl, hk, hb, hg⟩ := hrel
    by_cases hlt : k < s.L.length
    · obtain ⟨l, hl⟩ : ∃ l, s.L[k]? = some l := ⟨_, List.getElem?_eq_getElem hlt⟩
      obtain ⟨b, o, hA, hB, hc⟩ := lies_lv H.out.1.lev.head (by omega)
      obtain ⟨c0, c1, c2, c3, c4, c5, c6, c7, c8, c9⟩ := lv_ten fun j u hj => (hb.cell (p := ⟨b, o + k * 10 + j, none⟩) hB).trans (hc k l hl j u hj)
      have hlm := List.mem_of_getElem? hl
      have hli := ((H.out.1.lev.each_ l hlm).past hb (Nat.le_refl _)).wide hb.size
      have hlo := H.out.2.1.each_ l hlm
      have hpos := fun (h : SpGood s.f s.L) => h.pos l hlm
      have heach := fun (h : SpGood s.f s.L) => h.each l hlm
      obtain ⟨V5, hV5, hb5, hs5, ho5⟩ := lvbox wr l
      have hb55 := belows hb hb5
      have hX5 := fun q : Past V5 => own10 (ho5.past q.h ho5.inside)
      have hX2 := fun q : Past V5 => hX.out q.w (belows hb55 q.h)
      obtain ⟨br, hbr⟩ := bool_of (LvGood s.f l)
      have u1 := fun q : Past V5 => calls_past ((right_anyS l s.sA s.sc s.f q.w ((hli.keep hb5).keep q.h) hlo ((H.out.1.since.past (belows hb55 q.h) (Nat.le_refl _)).wide (belows hb55 q.h).size) H.out.2.1.f).mono fun x w' h => tells_is hbr h)
      have HK := Lib.hid (And.intro hg (And.intro hl (And.intro hb55 (And.intro hbr (And.intro hpos heach)))))
      obtain ⟨d0, d1⟩ := hX.out wr hb
      have q0 : (0 : Int) ≤ (k : Int) := by omega
      have q1 : (k : Int) < (s.L.length : Int) := by omega
      have hP := fun q : Past V5 => (show ∀ j : Nat, ∀ l0, s.L[j]? = some l0 → q.w.cell? ⟨b, o + j * 10, none⟩ = some (.int .i64 l0.cls) from fun j l0 h0 => by
        have := ((belows hb55 q.h).cell (p := ⟨b, o + j * 10 + 0, none⟩) hB).trans (hc j l0 h0 0 _ rfl)
        exact this)
      unfold Lv.val at u1
      have HS := Lib.hid hA
      rw [hA] at d1
      clear hc hb hg hli hlo hpos heach hlm hbr hl hb5 ho5 hs5 hb55
      by_cases hc1 : l.cls < 1
      · have t1 : decide (l.cls < 1) = true := decide_eq_true hc1
        have HC := Lib.hid hc1
        clear hc1
        go_upto_region 6 with fail
        rw [← hV5]
        clear hV5
        refine wp_region_past V5 (by kernel_rfl) (by kernel_rfl) (Below.refl _ _) ?_
        repeat (first | go_big_quiet_step (fail) | quiet_step (fail))
        refine wpQuiet_nil ?_
        intro wz hw'
        obtain ⟨⟨wy, hbz⟩, hw''⟩ := hw'
        dsimp only at hw''
        subst hw''
        have HZ := Lib.hid (belows HK.out.2.2.1 hbz)
        clear hX5 hX2 hP hbz u1 c0 c1 c2 c3 c4 c5 c6 c7 c8 c9 d0 d1
        go_wp2_with fail
        go_ret
        exact ⟨8, rfl, .inr ⟨fun h => absurd (HK.out.2.2.2.2.1 h) (by have := HC.out; omega), rfl⟩, H.out.2.2.1.trans (HZ.out.mono H.out.2.2.1.size)⟩
      have t1 : decide (l.cls < 1) = false := decide_eq_false hc1
      have HC := Lib.hid hc1
      clear hc1
      by_cases hk0 : k = 0
      · have t2 : decide (k > 0) = false := decide_eq_false (by omega)
        have t2' : decide (0 < k) = false := decide_eq_false (by omega)
        have t2'' : decide ((0 : Int) < (k : Int)) = false := decide_eq_false (by omega)
        have HK0 := Lib.hid hk0
        cases br with
        | false =>
          clear hk0
          go_upto_region 6 with fail
          rw [← hV5]
          clear hV5
          refine wp_region_past V5 (by kernel_rfl) (by kernel_rfl) (Below.refl _ _) ?_
          repeat (first | go_big_quiet_step ((go_at_call 76; exact u1 _)) | quiet_step ((go_at_call 76; exact u1 _)))
          refine wpQuiet_nil ?_
          intro wz hw'
          obtain ⟨⟨wy, hbz⟩, hw''⟩ := hw'
          dsimp only at hw''
          subst hw''
          have HZ := Lib.hid (belows HK.out.2.2.1 hbz)
          clear hX5 hX2 hP hbz u1 c0 c1 c2 c3 c4 c5 c6 c7 c8 c9 d0 d1
          go_wp2_with fail
          go_ret
          exact ⟨8, rfl, .inr ⟨fun h => absurd (HK.out.2.2.2.1.2 (HK.out.2.2.2.2.2 h)) (by decide), rfl⟩, H.out.2.2.1.trans (HZ.out.mono H.out.2.2.1.size)⟩
        | true =>
          have hbl : k + 1 ≤ s.L.length := by omega
          clear hk0
          go_upto_region 6 with fail
          rw [← hV5]
          clear hV5
          refine wp_region_past V5 (by kernel_rfl) (by kernel_rfl) (Below.refl _ _) ?_
          repeat (first | go_big_quiet_step ((go_at_call 76; exact u1 _)) | quiet_step ((go_at_call 76; exact u1 _)))
          refine wpQuiet_nil ?_
          intro wz hw'
          obtain ⟨⟨wy, hbz⟩, hw''⟩ := hw'
          dsimp only at hw''
          subst hw''
          have HZ := Lib.hid (belows HK.out.2.2.1 hbz)
          clear hX5 hX2 hP hbz u1 c0 c1 c2 c3 c4 c5 c6 c7 c8 c9 d0 d1
          go_wp2_with fail
          go_roundw
          case rel => exact ⟨k + 1, by go_num, by omega, HZ.out, good_next HK.out.2.1 HK.out.1 (by have := HC.out; omega) (fun l0 h0 _ => absurd h0 (by have := HK0.out; omega)) (HK.out.2.2.2.1.1 rfl)⟩
          case measure => simp [intOf]; omega
      · have t2 : decide (0 < k) = true := decide_eq_true (by omega)
        have t2'' : decide ((0 : Int) < (k : Int)) = true := decide_eq_true (by omega)
        obtain ⟨l0, hl0⟩ : ∃ l0, s.L[k - 1]? = some l0 := ⟨_, List.getElem?_eq_getElem (by omega)⟩
        have hP1 := fun q : Past V5 => hP q (k - 1) l0 hl0
        have hsub : IntKind.i64.wrap ((k : Int) - 1) = ((k - 1 : Nat) : Int) := by rw [IntKind.wrap_i64]; omega
        have s0 : (0 : Int) ≤ ((k - 1 : Nat) : Int) := by omega
        have s1 : ((k - 1 : Nat) : Int) < (s.L.length : Int) := by omega
        have HL0 := Lib.hid (And.intro hl0 (show 0 < k by omega))
        by_cases hc2 : l0.cls ≤ l.cls
        · have t3 : decide (l.cls ≥ l0.cls) = true := decide_eq_true hc2
          have t3' : decide (l0.cls ≤ l.cls) = true := decide_eq_true hc2
          have HC2 := Lib.hid hc2
          clear hl0 hk0 hc2
          go_upto_region 6 with fail
          rw [← hV5]
          clear hV5
          refine wp_region_past V5 (by kernel_rfl) (by kernel_rfl) (Below.refl _ _) ?_
          repeat (first | go_big_quiet_step (fail) | quiet_step (fail))
          refine wpQuiet_nil ?_
          intro wz hw'
          obtain ⟨⟨wy, hbz⟩, hw''⟩ := hw'
          dsimp only at hw''
          subst hw''
          have HZ := Lib.hid (belows HK.out.2.2.1 hbz)
          clear hX5 hX2 hP hbz u1 c0 c1 c2 c3 c4 c5 c6 c7 c8 c9 d0 d1
          go_wp2_with fail
          go_ret
          exact ⟨8, rfl, .inr ⟨fun h => absurd (good_prev h HL0.out.2 HK.out.2.1 HL0.out.1) (by have := HC2.out; omega), rfl⟩, H.out.2.2.1.trans (HZ.out.mono H.out.2.2.1.size)⟩
        · have t3' : decide (l0.cls ≤ l.cls) = false := decide_eq_false hc2
          have HC2 := Lib.hid hc2
          cases br with
          | false =>
            clear hl0 hk0 hc2
            go_upto_region 6 with fail
            rw [← hV5]
            clear hV5
            refine wp_region_past V5 (by kernel_rfl) (by kernel_rfl) (Below.refl _ _) ?_
            repeat (first | go_big_quiet_step ((go_at_call 76; exact u1 _)) | quiet_step ((go_at_call 76; exact u1 _)))
            refine wpQuiet_nil ?_
            intro wz hw'
            obtain ⟨⟨wy, hbz⟩, hw''⟩ := hw'
            dsimp only at hw''
            subst hw''
            have HZ := Lib.hid (belows HK.out.2.2.1 hbz)
            clear hX5 hX2 hP hbz u1 c0 c1 c2 c3 c4 c5 c6 c7 c8 c9 d0 d1
            go_wp2_with fail
            go_ret
            exact ⟨8, rfl, .inr ⟨fun h => absurd (HK.out.2.2.2.1.2 (HK.out.2.2.2.2.2 h)) (by decide), rfl⟩, H.out.2.2.1.trans (HZ.out.mono H.out.2.2.1.size)⟩
          | true =>
            have hbl : k + 1 ≤ s.L.length := by omega
            clear hl0 hk0 hc2
            go_upto_region 6 with fail
            rw [← hV5]
            clear hV5
            refine wp_region_past V5 (by kernel_rfl) (by kernel_rfl) (Below.refl _ _) ?_
            repeat (first | go_big_quiet_step ((go_at_call 76; exact u1 _)) | quiet_step ((go_at_call 76; exact u1 _)))
            refine wpQuiet_nil ?_
            intro wz hw'
            obtain ⟨⟨wy, hbz⟩, hw''⟩ := hw'
            dsimp only at hw''
            subst hw''
            have HZ := Lib.hid (belows HK.out.2.2.1 hbz)
            clear hX5 hX2 hP hbz u1 c0 c1 c2 c3 c4 c5 c6 c7 c8 c9 d0 d1
            go_wp2_with fail
            go_roundw
            case rel => exact ⟨k + 1, by go_num, by omega, HZ.out, good_next HK.out.2.1 HK.out.1 (by have := HC.out; omega) (fun x _ h0 => by rw [HL0.out.1] at h0; injection h0 with h0; rw [← h0]; have := HC2.out; omega) (HK.out.2.2.2.1.1 rfl)⟩
            case measure => simp [intOf]; omega
    · have hk2 : k = s.L.length := by omega
      subst hk2
      rw [List.take_length] at hg
      have HH := Lib.hid (And.intro hb hg)
      clear hb hg
      go_wp2_with fail
      go_ret
      exact ⟨0, rfl, .inl ⟨HH.out.2, rfl⟩, H.out.2.2.1.trans (HH.out.1.mono H.out.2.2.1.size)⟩
theorem lies_dropQ {w : World} {B g o : Nat} {l : List Up} {q : Nat} (h : Lies 6 Up.cells w B (some ⟨g, o, none⟩) l) : Lies 6 Up.cells w B (some ⟨g, o + q * 6, none⟩) (l.drop q) := fun hp => by
  obtain ⟨b', o', e, hb, hc⟩ := h (by rw [List.length_drop] at hp; omega)
  simp only [Option.some.injEq, Addr.mk.injEq, and_true] at e
  obtain ⟨rfl, rfl⟩ := e
  refine ⟨g, o + q * 6, rfl, hb, fun i x hi j u hj => ?_⟩
  rw [List.getElem?_drop] at hi
  have := hc (q + i) x hi j u hj
  rw [show o + q * 6 + i * 6 + j = o + (q + i) * 6 + j by omega]
  exact this
def dropA (A : Option Addr) (c q : Nat) : Option Addr := if c = q then A else A.map fun a => ⟨a.block, a.off + q * 6, a.spot⟩
theorem ups_dropQ {w : World} {B c q : Nat} {A : Option Addr} {l : List Up} (h : Ups w B A l) (hc : l.length ≤ c) : Ups w B (dropA A c q) (l.drop q) := by
  refine ⟨fun hp => ?_, fun u hu => h.each_ u (List.mem_of_mem_drop hu)⟩
  rw [List.length_drop] at hp
  obtain ⟨b', o', rfl, _⟩ := h.head (by omega)
  unfold dropA
  rw [if_neg (by omega)]
  exact lies_dropQ h.head (by rw [List.length_drop]; omega)
def partsR (l : Lv) : List (Rw Up) := if l.busy = true then [⟨dropA l.m.aA l.m.ac l.m.i.toNat, l.m.ac - l.m.i.toNat, l.m.a.drop l.m.i.toNat⟩, ⟨dropA l.m.bA l.m.bc l.m.j.toNat, l.m.bc - l.m.j.toNat, l.m.b.drop l.m.j.toNat⟩, ⟨l.m.oA, l.m.oc, l.m.o⟩] else [⟨l.b.uA, l.b.uc, l.b.l⟩]
theorem partsR_flat (l : Lv) : flatR (partsR l) = partsL l := by
  unfold partsR partsL
  split
  · simp [flatR, partsM]
  · simp [flatR]
theorem partsR_len (l : Lv) : (partsR l).length ≤ 3 := by
  unfold partsR
  split <;> simp
def PartsSay (l : Lv) (w : World) (x : Ending) (w' : World) : Prop := ∃ G, x = .returned (.slice (some ⟨G, 0, none⟩) (partsR l).length (partsR l).length) ∧ ULs w' w'.heap.size (some ⟨G, 0, none⟩) (partsR l) ∧ w.heap.size ≤ G ∧ Below w.heap.size w w'
theorem three_lists (w : World) (A1 A2 A3 : Option Addr) (c1 c2 c3 : Nat) (l1 l2 l3 : List Up) (h1 : Ups w w.heap.size A1 l1) (h2 : Ups w w.heap.size A2 l2) (h3 : Ups w w.heap.size A3 l3) :
    ∃ V, V = w.alloc (.cells #[.slice A1 l1.length c1, .slice A2 l2.length c2, .slice A3 l3.length c3] 22) ∧ Below w.heap.size w V ∧ ULs V V.heap.size (some ⟨w.heap.size, 0, none⟩) [⟨A1, c1, l1⟩, ⟨A2, c2, l2⟩, ⟨A3, c3, l3⟩] := by
  obtain ⟨W, e1, s1, b1, o1⟩ := boxd w [.slice A1 l1.length c1, .slice A2 l2.length c2, .slice A3 l3.length c3] 22
  refine ⟨W, e1, b1, rw_own (t := 22) o1, fun s hs => ?_⟩
  simp only [List.mem_cons, List.not_mem_nil, or_false] at hs
  rcases hs with rfl | rfl | rfl
  · exact h1.keep b1
  · exact h2.keep b1
  · exact h3.keep b1
set_option maxRecDepth 100000 in
set_option maxHeartbeats 6400000 in
theorem partsI_any (cl : Int) (b : Bt) (m : Mg) (w : World) (hl : LvIn w w.heap.size ⟨cl, false, b, m⟩) :
    Calls Tryz.prog 145 #[(⟨cl, false, b, m⟩ : Lv).val] w (PartsSay ⟨cl, false, b, m⟩ w) := by
  obtain ⟨V, hV, hvb, hvs, hvo⟩ := lvbox w ⟨cl, false, b, m⟩
  obtain ⟨a0, a1, a2, a3, a4, a5, a6, a7, a8, a9⟩ := own10 hvo
  obtain ⟨V2, hV2, hb2, hs2, ho2⟩ := mgbox V m
  obtain ⟨b0, b1, b2, b3, b4, b5, b6, b7, b8, b9⟩ := own10 (hvo.past hb2 hvo.inside)
  have hin := (hl.keep hvb).keep hb2
  have HB := Lib.hid (And.intro (belows hvb hb2) hin.b.ups)
  rw [show (⟨cl, false, b, m⟩ : Lv).val = .agg #[.int .i64 cl, .bool false, .slice b.sA b.f.length b.sc, .slice b.uA b.l.length b.uc, .slice m.aA m.a.length m.ac, .slice m.bA m.b.length m.bc, .int .i64 m.i, .int .i64 m.j, .slice m.sA m.f.length m.sc, .slice m.oA m.o.length m.oc] from rfl]
  dsimp only at hV a0 a1 a2 a3 a4 a5 a6 a7 a8 a9 b0 b1 b2 b3 b4 b5 b6 b7 b8 b9
  have HP := Lib.hid (show ∀ (G : Nat) w', ULs w' w'.heap.size (some ⟨G, 0, none⟩) [⟨b.uA, b.uc, b.l⟩] → w.heap.size ≤ G → Below w.heap.size w w' → PartsSay ⟨cl, false, b, m⟩ w (.returned (.slice (some ⟨G, 0, none⟩) 1 1)) w' from fun G w' h1 h0 h2 => ⟨G, rfl, h1, h0, h2⟩)
  clear hl hvb hvs hvo hb2 hs2 ho2 hin
  go_enter Tryz.func145, Tryz.ntmps145
  go_upto_region 1 with fail
  rw [← hV]
  clear hV
  go_upto_region 2 with fail
  rw [← hV2]
  clear hV2
  go_wp2_with fail
  go_ret
  obtain ⟨W, hW, hbW, hoW⟩ := one_list V2 b.uA b.uc b.l HB.out.2
  rw [← hW]
  exact HP.out _ _ hoW HB.out.1.size (belows HB.out.1 hbW)
set_option maxRecDepth 100000 in
set_option maxHeartbeats 6400000 in
theorem partsB_any (cl : Int) (b : Bt) (m : Mg) (i j : Nat) (w : World) (hl : LvIn w w.heap.size ⟨cl, true, b, m⟩) (cm : McOk m) (hi : m.i = (i : Int)) (hj : m.j = (j : Int)) (hia : i ≤ m.a.length) (hjb : j ≤ m.b.length) (na : 0 < m.a.length) (nb : 0 < m.b.length) :
    Calls Tryz.prog 145 #[(⟨cl, true, b, m⟩ : Lv).val] w (PartsSay ⟨cl, true, b, m⟩ w) := by
  obtain ⟨V, hV, hvb, hvs, hvo⟩ := lvbox w ⟨cl, true, b, m⟩
  obtain ⟨a0, a1, a2, a3, a4, a5, a6, a7, a8, a9⟩ := own10 hvo
  obtain ⟨V2, hV2, hb2, hs2, ho2⟩ := mgbox V m
  obtain ⟨b0, b1, b2, b3, b4, b5, b6, b7, b8, b9⟩ := own10 (hvo.past hb2 hvo.inside)
  have hin := ((hl.keep hvb).keep hb2).m
  have HB := Lib.hid (And.intro (belows hvb hb2) (And.intro hin (And.intro hi (And.intro hj cm))))
  obtain ⟨ga, oa, hA, _⟩ := hin.a.head na
  obtain ⟨gb, ob, hBB, _⟩ := hin.b.head nb
  have hX := fun q : Past V2 => own6 (ho2.past q.h ho2.inside)
  rw [hA, hBB, hi, hj] at hX
  rw [show (⟨cl, true, b, m⟩ : Lv).val = .agg #[.int .i64 cl, .bool true, .slice b.sA b.f.length b.sc, .slice b.uA b.l.length b.uc, .slice m.aA m.a.length m.ac, .slice m.bA m.b.length m.bc, .int .i64 m.i, .int .i64 m.j, .slice m.sA m.f.length m.sc, .slice m.oA m.o.length m.oc] from rfl]
  dsimp only at hV a0 a1 a2 a3 a4 a5 a6 a7 a8 a9 b0 b1 b2 b3 b4 b5 b6 b7 b8 b9
  have HA := Lib.hid (And.intro hA hBB)
  have k1 := cm.a
  have k2 := cm.b
  have q1 : (0 : Int) ≤ (i : Int) := by omega
  have q2 : (i : Int) ≤ (m.a.length : Int) := by omega
  have q3 : (0 : Int) ≤ (j : Int) := by omega
  have q4 : (j : Int) ≤ (m.b.length : Int) := by omega
  obtain ⟨B1, hB1⟩ : ∃ B1 : Option Addr, (if m.ac = i then (some ⟨ga, oa, none⟩ : Option Addr) else some ⟨ga, oa + i * 6, none⟩) = B1 := ⟨_, rfl⟩
  obtain ⟨B2, hB2⟩ : ∃ B2 : Option Addr, (if m.bc = j then (some ⟨gb, ob, none⟩ : Option Addr) else some ⟨gb, ob + j * 6, none⟩) = B2 := ⟨_, rfl⟩
  have HBB := Lib.hid (show B1 = dropA m.aA m.ac i ∧ B2 = dropA m.bA m.bc j from by
    rw [← hB1, ← hB2, hA, hBB]
    exact ⟨rfl, rfl⟩)
  have HU := Lib.hid (show ∀ W, Below V2.heap.size V2 W → Ups W W.heap.size B1 (m.a.drop i) ∧ Ups W W.heap.size B2 (m.b.drop j) ∧ Ups W W.heap.size m.oA m.o from fun W hb => by
    rw [HBB.out.1, HBB.out.2]
    exact ⟨ups_dropQ (hin.a.keep hb) cm.a, ups_dropQ (hin.b.keep hb) cm.b, hin.o.keep hb⟩)
  have HPR := Lib.hid (show partsR ⟨cl, true, b, m⟩ = [⟨B1, m.ac - i, m.a.drop i⟩, ⟨B2, m.bc - j, m.b.drop j⟩, ⟨m.oA, m.oc, m.o⟩] from by
    rw [HBB.out.1, HBB.out.2]
    have e1 : m.i.toNat = i := by omega
    have e2 : m.j.toNat = j := by omega
    show (if true = true then _ else _) = _
    rw [if_pos rfl, e1, e2])
  clear hl hvb hvs hvo hb2 hs2 ho2 hin hi hj hA hBB cm
  go_enter Tryz.func145, Tryz.ntmps145
  go_upto_region 1 with fail
  rw [← hV]
  clear hV
  go_upto_region 2 with fail
  rw [← hV2]
  clear hV2
  go_upto_region 3 with fail
  refine wp_region_past_tail V2 12 (by kernel_rfl) (by kernel_rfl) (Below.refl _ _) ?_
  repeat (first | go_big_quiet_step (fail) | quiet_step (fail))
  refine wpQuiet_nil ?_
  intro wt hw'
  obtain ⟨⟨wu, hbt⟩, hw''⟩ := hw'
  dsimp only at hw''
  subst hw''
  have HT := Lib.hid hbt
  clear hX hbt
  go_wp2_with fail
  go_ret
  obtain ⟨W, hW, hbW, hoW⟩ := three_lists wt B1 B2 m.oA (m.ac - i) (m.bc - j) m.oc (m.a.drop i) (m.b.drop j) m.o (HU.out wt HT.out).1 (HU.out wt HT.out).2.1 (HU.out wt HT.out).2.2
  rw [List.length_drop, List.length_drop] at hW
  rw [← hW]
  have bb := belows HB.out.1 (belows HT.out hbW)
  exact ⟨wt.heap.size, by rw [HPR.out]; rfl, by rw [HPR.out]; exact hoW, (belows HB.out.1 HT.out).size, bb⟩
theorem parts_anyS (l : Lv) (f : List Tm) (w : World) (hl : LvIn w w.heap.size l) (ol : LvOk l) (hg : LvGood f l) (hp : 1 ≤ l.cls) : Calls Tryz.prog 145 #[l.val] w (PartsSay l w) := by
  obtain ⟨cl, bu, b, m⟩ := l
  cases bu
  · exact partsI_any cl b m w hl
  · obtain ⟨_, _, h3, h4, h5, _, _⟩ := hg.busy rfl
    have hp : 1 ≤ cl := hp
    have h4 : (clsN m.a.length : Int) = cl := h4
    have h5 : (clsN m.b.length : Int) = cl := h5
    have z1 := (cls_zero (n := m.a.length)).2
    have z2 := (cls_zero (n := m.b.length)).2
    have d1 : 0 ≤ m.i := h3.da.lo
    have d2 : m.i ≤ (m.a.length : Int) := h3.da.hi
    have d3 : 0 ≤ m.j := h3.db.lo
    have d4 : m.j ≤ (m.b.length : Int) := h3.db.hi
    exact partsB_any cl b m m.i.toNat m.j.toNat w hl ol.cap (by omega) (by omega) (by omega) (by omega) (by
      rcases Nat.eq_zero_or_pos m.a.length with h | h
      · have := z1 h; omega
      · exact h) (by
      rcases Nat.eq_zero_or_pos m.b.length with h | h
      · have := z2 h; omega
      · exact h)
end Go.Proofs.YtjffohpdjicfpaaGreat
