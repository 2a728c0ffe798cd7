/- Plans in memory. -/
import Derived.Test.YtjidjpmdmcleoaaPInf
import Derived.BigQuiet
import Derived.Test.YtjidjpmdmcleoaaEInfC
import Derived.Outline
import Derived.WalkSpells
import Derived.WalkLawsBesides
import Derived.Deep.Onto
namespace Go.Proofs.Ytjidjpmdmcleoaa
open Go Go.RowKit

/-- the numbers in a plan fit, n deep -/
def PxOk : Nat → Px → Prop
  | 0, _ => True
  | n + 1, p => ((0 ≤ p.kind ∧ p.kind ≤ 255) ∧ (0 ≤ p.agg ∧ p.agg ≤ 255) ∧ (imin ≤ p.n ∧ p.n ≤ imax) ∧ (imin ≤ p.rounds ∧ p.rounds ≤ imax)) ∧
      (p.kids.length ≤ maxLen ∧ p.exprs.length ≤ maxLen ∧ p.cols.length ≤ maxLen ∧ p.wit.length ≤ maxLen) ∧ (∀ e ∈ p.exprs, LxOk 17 e) ∧ ∀ k ∈ p.kids, PxOk n k
/-- it lies below block B, n deep -/
def PxIn (w : World) (B : Nat) : Nat → Px → Prop
  | 0, _ => True
  | n + 1, p => (Lies 8 Px.cells w B p.kA p.kids ∧ Lies 6 Lx.cells w B p.eA p.exprs ∧ Ints w B p.cA p.cols ∧ Ints w B p.wA p.wit) ∧ (∀ e ∈ p.exprs, LxIn w B 17 e) ∧ ∀ k ∈ p.kids, PxIn w B n k
theorem PxIn.past {B B' : Nat} {w w' : World} (hb : Below B' w w') (hB : B ≤ B') : ∀ {n : Nat} {p : Px}, PxIn w B n p → PxIn w' B n p
  | 0, _, _ => trivial
  | _ + 1, _, h => ⟨⟨h.1.1.past hb hB, h.1.2.1.past hb hB, h.1.2.2.1.past hb hB, h.1.2.2.2.past hb hB⟩, fun e he => (h.2.1 e he).past hb hB, fun k hk => PxIn.past hb hB (h.2.2 k hk)⟩
theorem PxIn.wide {B B' : Nat} {w : World} (hB : B ≤ B') : ∀ {n : Nat} {p : Px}, PxIn w B n p → PxIn w B' n p
  | 0, _, _ => trivial
  | _ + 1, _, h => ⟨⟨h.1.1.wide hB, h.1.2.1.wide hB, h.1.2.2.1.wide hB, h.1.2.2.2.wide hB⟩, fun e he => (h.2.1 e he).wide hB, fun k hk => PxIn.wide hB (h.2.2 k hk)⟩
theorem PxIn.less {B : Nat} {w : World} : ∀ {n m : Nat} {p : Px}, m ≤ n → PxIn w B n p → PxIn w B m p
  | _, 0, _, _, _ => trivial
  | 0, _ + 1, _, h, _ => absurd h (by omega)
  | n + 1, m + 1, _, h, k => ⟨k.1, k.2.1, fun x hx => PxIn.less (by omega) (k.2.2 x hx)⟩
theorem PxOk.less : ∀ {n m : Nat} {p : Px}, m ≤ n → PxOk n p → PxOk m p
  | _, 0, _, _, _ => trivial
  | 0, _ + 1, _, h, _ => absurd h (by omega)
  | n + 1, m + 1, _, h, k => ⟨k.1, k.2.1, k.2.2.1, fun x hx => PxOk.less (by omega) (k.2.2.2 x hx)⟩
theorem pxIn_keep {a b : World} {n : Nat} {p : Px} (h : PxIn a a.heap.size n p) (hb : Below a.heap.size a b) : PxIn b b.heap.size n p := (h.past hb (Nat.le_refl _)).wide hb.size
/-- a plan's eight cells lie at b, o -/
def PAt (w : World) (b o : Nat) (p : Px) : Prop := ∀ (j : Nat) (u : Value), p.cells[j]? = some u → w.cell? ⟨b, o + j, none⟩ = some u
theorem PAt.past {B b o : Nat} {w w' : World} {p : Px} (h : PAt w b o p) (hb : Below B w w') (hB : b < B) : PAt w' b o p :=
  fun j u hj => (hb.cell (p := ⟨b, o + j, none⟩) hB).trans (h j u hj)
theorem PAt.eight {b o : Nat} {w : World} {p : Px} (h : PAt w b o p) :
    w.cell? ⟨b, o, none⟩ = some (.int .u8 p.kind) ∧ w.cell? ⟨b, o + 1, none⟩ = some (.int .i64 p.n) ∧ w.cell? ⟨b, o + 2, none⟩ = some (.slice p.kA p.kids.length p.kc) ∧ w.cell? ⟨b, o + 3, none⟩ = some (.slice p.eA p.exprs.length p.ec) ∧
      w.cell? ⟨b, o + 4, none⟩ = some (.slice p.cA p.cols.length p.cc) ∧ w.cell? ⟨b, o + 5, none⟩ = some (.slice p.wA p.wit.length p.wc) ∧ w.cell? ⟨b, o + 6, none⟩ = some (.int .u8 p.agg) ∧ w.cell? ⟨b, o + 7, none⟩ = some (.int .i64 p.rounds) :=
  ⟨h 0 _ rfl, h 1 _ rfl, h 2 _ rfl, h 3 _ rfl, h 4 _ rfl, h 5 _ rfl, h 6 _ rfl, h 7 _ rfl⟩
theorem lies_px {w : World} {B : Nat} {A : Option Addr} {l : List Px} (h : Lies 8 Px.cells w B A l) (hp : 0 < l.length) :
    ∃ b o, A = some ⟨b, o, none⟩ ∧ b < B ∧ ∀ (i : Nat) (x : Px), l[i]? = some x → PAt w b (o + i * 8) x := by
  obtain ⟨b, o, e, hb, hc⟩ := h hp
  exact ⟨b, o, e, hb, fun i x hi j u hj => hc i x hi j u hj⟩
theorem own_put14 {w : World} {P : Nat} {t : TypeId} {z0 z1 z2 z3 z4 z5 z6 z7 z8 z9 z10 z11 z12 z13 : Value} (h : Own w P t [z0, z1, z2, z3, z4, z5, z6, z7, z8, z9, z10, z11, z12, z13]) (a0 a1 a2 a3 a4 a5 a6 a7 a8 a9 a10 a11 a12 a13 : Value) :
    Own ((((((((((((((w.setCell ⟨P, 0, none⟩ a0).setCell ⟨P, 1, none⟩ a1).setCell ⟨P, 2, none⟩ a2).setCell ⟨P, 3, none⟩ a3).setCell ⟨P, 4, none⟩ a4).setCell ⟨P, 5, none⟩ a5).setCell ⟨P, 6, none⟩ a6).setCell ⟨P, 7, none⟩ a7).setCell ⟨P, 8, none⟩ a8).setCell ⟨P, 9, none⟩ a9).setCell ⟨P, 10, none⟩ a10).setCell ⟨P, 11, none⟩ a11).setCell ⟨P, 12, none⟩ a12).setCell ⟨P, 13, none⟩ a13) P t [a0, a1, a2, a3, a4, a5, a6, a7, a8, a9, a10, a11, a12, a13] :=
  (((((((((((((h.set_ 0 a0).set_ 1 a1).set_ 2 a2).set_ 3 a3).set_ 4 a4).set_ 5 a5).set_ 6 a6).set_ 7 a7).set_ 8 a8).set_ 9 a9).set_ 10 a10).set_ 11 a11).set_ 12 a12).set_ 13 a13
set_option maxRecDepth 100000 in
set_option maxHeartbeats 1600000 in
theorem has_any (a b n : Int) (w : World) : Calls Try.prog 70 #[.agg #[.int .i64 a, .int .i64 b], .int .i64 n] w fun x w' => x = .returned (.bool (inS a b n)) ∧ Below w.heap.size w w' := by
  have hS := Lib.hid (show inS a b n = (decide (a ≤ n) && decide (n ≤ b)) from rfl)
  by_cases h1 : a ≤ n
  · have t1 : decide (a ≤ n) = true := by simpa using h1
    by_cases h2 : n ≤ b
    · have t2 : decide (n ≤ b) = true := by simpa using h2
      rw [t1, t2] at hS
      clear h1 h2
      go_enter Try.func70, Try.ntmps70
      go_wp2_with fail
      go_ret
      exact ⟨ret_bool (by rw [hS.out]; rfl), (Below.refl _ _).alloc (Nat.le_refl _) _⟩
    · have t2 : decide (n ≤ b) = false := by simpa using h2
      rw [t1, t2] at hS
      clear h1 h2
      go_enter Try.func70, Try.ntmps70
      go_wp2_with fail
      go_ret
      exact ⟨ret_bool (by rw [hS.out]; rfl), (Below.refl _ _).alloc (Nat.le_refl _) _⟩
  · have t1 : decide (a ≤ n) = false := by simpa using h1
    rw [t1, Bool.false_and] at hS
    clear h1
    go_enter Try.func70, Try.ntmps70
    go_wp2_with fail
    go_ret
    exact ⟨ret_bool hS.out.symm, (Below.refl _ _).alloc (Nat.le_refl _) _⟩
end Go.Proofs.Ytjidjpmdmcleoaa
namespace Go.Proofs.Ytjidjpmdmcleoaa
open Go Go.RowKit

theorem take_sameT {l m : List Int} {s t : Int} {k : Nat} (h : l[k]? = some s) (h' : m[k]? = some t) (he : l.take k = m.take k) (hst : s = t) : l.take (k + 1) = m.take (k + 1) := by
  rw [List.take_add_one, List.take_add_one, h, h', he, hst]

set_option maxRecDepth 100000 in
set_option maxHeartbeats 1600000 in
theorem equal_any (A A' : Option Addr) (c c' : Nat) (l m : List Int) (w : World) (hl : Tys w w.heap.size A l) (hm : Tys w w.heap.size A' m) (hn : l.length ≤ maxLen) (hn' : m.length ≤ maxLen) :
    Calls Try.prog 58 #[.slice A l.length c, .slice A' m.length c'] w fun e w' => e = .returned (.bool (decide (l = m))) ∧ Below w.heap.size w w' := by
  unfold maxLen at hn hn'
  by_cases hlen : l.length = m.length
  · have hlb : ((l.length : Int) != (m.length : Int)) = false := by simp [hlen]
    have Hl := Lib.hid (And.intro hlen (And.intro hl hm))
    clear hl hm hlen
    go_enter Try.func58, Try.ntmps58
    go_wp2_with fail
    go_loopw [13] (fun i wr => ∃ k : Nat, i = .int .i64 (k : Int) ∧ k ≤ l.length ∧ Below w.heap.size w wr ∧ l.take k = m.take k)
      (fun i _ => l.length - (intOf i).toNat)
    case atStart => exact ⟨0, rfl, by omega, Below.refl _ _, rfl⟩
    case round =>
      obtain ⟨k, rfl, hk, hb, he⟩ := hrel
      by_cases hlt : k < l.length
      · obtain ⟨hlen, hl, hm⟩ := Hl.out
        have hltm : k < m.length := by omega
        have hx : l[k]? = some l[k] := List.getElem?_eq_getElem hlt
        have hy : m[k]? = some m[k] := List.getElem?_eq_getElem hltm
        obtain ⟨b, o, rfl, hB, hl⟩ := hl (by omega)
        obtain ⟨b', o', rfl, hB', hm⟩ := hm (by omega)
        have c0 := (hb.cell (p := ⟨b, o + k, none⟩) hB).trans (hl k _ hx)
        have d0 := (hb.cell (p := ⟨b', o' + k, none⟩) hB').trans (hm k _ hy)
        generalize l[k] = s at *
        generalize m[k] = t at *
        have HH := Lib.hid (And.intro hb (And.intro he (And.intro hx hy)))
        have q0 : (0 : Int) ≤ (k : Int) := by omega
        have q1 : (k : Int) < (l.length : Int) := by omega
        have q2 : (k : Int) < (m.length : Int) := by omega
        clear hb he hx hy hl hm hlen
        by_cases hst : s = t
        · have hv : (s != t) = false := by simpa using hst
          have HS := Lib.hid hst
          clear hst
          go_wp2_with fail
          go_quiet (fail)
          go_wp2_with fail
          obtain ⟨hb, he, hx, hy⟩ := HH.out
          go_roundw
          case rel => exact ⟨k + 1, by go_num, by omega, below_draws hb _, take_sameT hx hy he HS.out⟩
          case measure => simp [intOf]; omega
        · have hv : (s != t) = true := by simpa using hst
          have HS := Lib.hid hst
          clear hst
          go_wp2_with fail
          go_quiet (fail)
          go_wp2_with fail
          go_ret
          obtain ⟨hb, he, hx, hy⟩ := HH.out
          refine ⟨ret_bool (Eq.symm ?_), below_draws hb _⟩
          simp only [decide_eq_false_iff_not]
          intro h
          rw [h, hy] at hx
          exact HS.out (by injection hx with hx; exact hx.symm)
      · have hk2 : k = l.length := by omega
        have HH := Lib.hid (And.intro hb (And.intro he hk2))
        clear hb he hk2
        go_wp2_with fail
        go_ret
        obtain ⟨hb, he, rfl⟩ := HH.out
        refine ⟨ret_bool (Eq.symm ?_), hb⟩
        simp only [decide_eq_true_eq]
        have := Hl.out.1
        rw [List.take_length, this, List.take_length] at he
        exact he
  · have hd : decide (l = m) = false := by simp; intro h; exact hlen (by rw [h])
    rw [hd]
    have hlb : ((l.length : Int) != (m.length : Int)) = true := by simp; omega
    clear hlen hd hl hm
    go_enter Try.func58, Try.ntmps58
    go_wp2_with fail
    go_ret
    exact ⟨rfl, Below.refl _ _⟩

set_option maxRecDepth 100000 in
set_option maxHeartbeats 1600000 in
theorem sametypes_any (A A' : Option Addr) (c c' : Nat) (l m : List Int) (w : World) (hl : Tys w w.heap.size A l) (hm : Tys w w.heap.size A' m) (hn : l.length ≤ maxLen) (hn' : m.length ≤ maxLen) :
    Calls Try.prog 22 #[.slice A l.length c, .slice A' m.length c'] w fun e w' => e = .returned (.bool (decide (l = m))) ∧ Below w.heap.size w w' := by
  unfold maxLen at hn hn'
  by_cases hlen : l.length = m.length
  · have hlb : ((l.length : Int) != (m.length : Int)) = false := by simp [hlen]
    have Hl := Lib.hid (And.intro hlen (And.intro hl hm))
    clear hl hm hlen
    go_enter Try.func22, Try.ntmps22
    go_wp2_with fail
    go_loopw [13] (fun i wr => ∃ k : Nat, i = .int .i64 (k : Int) ∧ k ≤ l.length ∧ Below w.heap.size w wr ∧ l.take k = m.take k)
      (fun i _ => l.length - (intOf i).toNat)
    case atStart => exact ⟨0, rfl, by omega, Below.refl _ _, rfl⟩
    case round =>
      obtain ⟨k, rfl, hk, hb, he⟩ := hrel
      by_cases hlt : k < l.length
      · obtain ⟨hlen, hl, hm⟩ := Hl.out
        have hltm : k < m.length := by omega
        have hx : l[k]? = some l[k] := List.getElem?_eq_getElem hlt
        have hy : m[k]? = some m[k] := List.getElem?_eq_getElem hltm
        obtain ⟨b, o, rfl, hB, hl⟩ := hl (by omega)
        obtain ⟨b', o', rfl, hB', hm⟩ := hm (by omega)
        have c0 := (hb.cell (p := ⟨b, o + k, none⟩) hB).trans (hl k _ hx)
        have d0 := (hb.cell (p := ⟨b', o' + k, none⟩) hB').trans (hm k _ hy)
        generalize l[k] = s at *
        generalize m[k] = t at *
        have HH := Lib.hid (And.intro hb (And.intro he (And.intro hx hy)))
        have q0 : (0 : Int) ≤ (k : Int) := by omega
        have q1 : (k : Int) < (l.length : Int) := by omega
        have q2 : (k : Int) < (m.length : Int) := by omega
        clear hb he hx hy hl hm hlen
        by_cases hst : s = t
        · have hv : (s != t) = false := by simpa using hst
          have HS := Lib.hid hst
          clear hst
          go_wp2_with fail
          go_quiet (fail)
          go_wp2_with fail
          obtain ⟨hb, he, hx, hy⟩ := HH.out
          go_roundw
          case rel => exact ⟨k + 1, by go_num, by omega, below_draws hb _, take_sameT hx hy he HS.out⟩
          case measure => simp [intOf]; omega
        · have hv : (s != t) = true := by simpa using hst
          have HS := Lib.hid hst
          clear hst
          go_wp2_with fail
          go_quiet (fail)
          go_wp2_with fail
          go_ret
          obtain ⟨hb, he, hx, hy⟩ := HH.out
          refine ⟨ret_bool (Eq.symm ?_), below_draws hb _⟩
          simp only [decide_eq_false_iff_not]
          intro h
          rw [h, hy] at hx
          exact HS.out (by injection hx with hx; exact hx.symm)
      · have hk2 : k = l.length := by omega
        have HH := Lib.hid (And.intro hb (And.intro he hk2))
        clear hb he hk2
        go_wp2_with fail
        go_ret
        obtain ⟨hb, he, rfl⟩ := HH.out
        refine ⟨ret_bool (Eq.symm ?_), hb⟩
        simp only [decide_eq_true_eq]
        have := Hl.out.1
        rw [List.take_length, this, List.take_length] at he
        exact he
  · have hd : decide (l = m) = false := by simp; intro h; exact hlen (by rw [h])
    rw [hd]
    have hlb : ((l.length : Int) != (m.length : Int)) = true := by simp; omega
    clear hlen hd hl hm
    go_enter Try.func22, Try.ntmps22
    go_wp2_with fail
    go_ret
    exact ⟨rfl, Below.refl _ _⟩
end Go.Proofs.Ytjidjpmdmcleoaa
namespace Go.Proofs.Ytjidjpmdmcleoaa
open Go Go.RowKit

/-- a slice, as it lies -/
structure Sl (α : Type) where
  A : Option Addr
  c : Nat
  l : List α
def Sl.cells {α : Type} (s : Sl α) : List Value := [.slice s.A s.l.length s.c]
def tcell (t : Int) : List Value := [.int .u8 t]
theorem tcell_len (t : Int) : (tcell t).length = 1 := rfl
theorem tcell_one (t : Int) : ∀ u ∈ tcell t, u.oneCell' = true := by intro u hu; simp [tcell] at hu; subst hu; rfl
theorem scell_len (s : Sl Int) : (Sl.cells s).length = 1 := rfl
theorem scell_one (s : Sl Int) : ∀ u ∈ Sl.cells s, u.oneCell' = true := by intro u hu; simp [Sl.cells] at hu; subst hu; rfl
theorem tys_lies {w : World} {B : Nat} {A : Option Addr} {l : List Int} : Tys w B A l ↔ Lies 1 tcell w B A l := by
  constructor
  · intro h hp
    obtain ⟨b, o, e, hb, hc⟩ := h hp
    refine ⟨b, o, e, hb, fun i x hi j u hj => ?_⟩
    match j, hj with
    | 0, hj =>
      obtain rfl : Value.int .u8 x = u := by simpa [tcell] using hj
      have := hc i x hi
      rwa [Nat.mul_one, Nat.add_zero]
  · intro h hp
    obtain ⟨b, o, e, hb, hc⟩ := h hp
    refine ⟨b, o, e, hb, fun i x hi => ?_⟩
    have := hc i x hi 0 _ rfl
    rwa [Nat.mul_one, Nat.add_zero] at this
def lensS {α : Type} (L : List (Sl α)) : Nat := (L.map (fun s => s.l.length)).sum
def flatS {α : Type} (L : List (Sl α)) : List α := L.flatMap Sl.l
theorem lensS_snoc {α : Type} {L : List (Sl α)} {k : Nat} {s : Sl α} (h : L[k]? = some s) : lensS (L.take (k + 1)) = lensS (L.take k) + s.l.length := by
  unfold lensS; rw [List.take_add_one, h]; simp
theorem lensS_le {α : Type} (L : List (Sl α)) (k : Nat) : lensS (L.take k) ≤ lensS L := by
  unfold lensS
  conv => rhs; rw [← List.take_append_drop k L]
  rw [List.map_append, List.sum_append]; omega
theorem lensS_one {α : Type} {L : List (Sl α)} {k : Nat} {s : Sl α} (h : L[k]? = some s) : lensS (L.take k) + s.l.length ≤ lensS L := by
  rw [← lensS_snoc h]; exact lensS_le L (k + 1)
theorem flatS_snoc {α : Type} {L : List (Sl α)} {k : Nat} {s : Sl α} (h : L[k]? = some s) : flatS (L.take (k + 1)) = flatS (L.take k) ++ s.l := by
  unfold flatS; rw [List.take_add_one, h]; simp
theorem flatS_len {α : Type} (L : List (Sl α)) : (flatS L).length = lensS L := by unfold flatS lensS; rw [List.length_flatMap]
/-- a slice of slices: where each lies -/
structure LL {α : Type} (size : Nat) (cells : α → List Value) (w : World) (B : Nat) (A : Option Addr) (L : List (Sl α)) : Prop where
  head : Lies 1 Sl.cells w B A L
  each_ : ∀ s ∈ L, Lies size cells w B s.A s.l
theorem LL.past {α : Type} {size : Nat} {cells : α → List Value} {w w' : World} {B B' : Nat} {A : Option Addr} {L : List (Sl α)} (h : LL size cells w B A L) (hb : Below B' w w') (hB : B ≤ B') : LL size cells w' B A L :=
  ⟨h.head.past hb hB, fun s hs => (h.each_ s hs).past hb hB⟩
theorem LL.wide {α : Type} {size : Nat} {cells : α → List Value} {w : World} {B B' : Nat} {A : Option Addr} {L : List (Sl α)} (h : LL size cells w B A L) (hB : B ≤ B') : LL size cells w B' A L :=
  ⟨h.head.wide hB, fun s hs => (h.each_ s hs).wide hB⟩
theorem LL.at_ {α : Type} {size : Nat} {cells : α → List Value} {w : World} {B : Nat} {A : Option Addr} {L : List (Sl α)} (h : LL size cells w B A L) {k : Nat} {s : Sl α} (hx : L[k]? = some s) :
    ∃ b o, A = some ⟨b, o, none⟩ ∧ b < B ∧ w.cell? ⟨b, o + k, none⟩ = some (.slice s.A s.l.length s.c) ∧ Lies size cells w B s.A s.l := by
  obtain ⟨b, o, e, hb, hc⟩ := h.head (by have := (List.getElem?_eq_some_iff.1 hx).1; omega)
  have := hc k s hx 0 _ rfl
  rw [Nat.mul_one, Nat.add_zero] at this
  exact ⟨b, o, e, hb, this, h.each_ s (List.mem_of_getElem? hx)⟩
theorem zero_sizeP (z : Array Value) (n : Nat) : (Builtin.zeroCells z n).size = n * z.size := by simp [Builtin.zeroCells]
theorem bytesTy : Try.t30.bytes = 1 := by kernel_rfl
theorem bytesSc : Try.t34.bytes = 24 := by kernel_rfl
theorem infoSc : (Try.prog.info? 34).map (fun i => (i.zero, i.size, i.bytes)) = some (some (.slice none 0 0), 1, 24) := by kernel_rfl

set_option maxRecDepth 100000 in
set_option maxHeartbeats 1600000 in
theorem grow_ty (n : Nat) (w : World) (hn : n * 1 ≤ 140737488355328) :
    Calls Try.prog 60 #[.slice none 0 0, .int .i64 (n : Int)] w fun e w' => ∃ v, e = .returned v ∧ w'.ownsRow w.heap.size 30 1 v 0 [] ∧ Below w.heap.size w w' := by
  by_cases h0 : n = 0
  · subst h0
    go_enter Try.func60, Try.ntmps60
    go_wp2_with fail
    go_ret
    exact ⟨_, rfl, World.ownsRow_nil _ _ _ _, Below.refl _ _⟩
  · have hp : 0 < n := by omega
    have t1 : decide (0 < (n : Int)) = true := by simp; omega
    have hge := grownCap_ge w n 0 30
    have hle := grownCap_le_maxLen w n 0 30 (by unfold maxLen; omega)
    have HG := Lib.hid (And.intro hge hle)
    have hb := bytesTy
    have hnx : Builtin.nextslicecap n 0 = n := by unfold Builtin.nextslicecap; simp; omega
    clear h0 hge hle
    go_enter Try.func60, Try.ntmps60
    go_wp2_with fail
    all_goals first
      | (exfalso; omega)
      | skip
    go_ret
    refine ⟨_, rfl, ?_, ((Below.refl w.heap.size w).alloc (Nat.le_refl _) _).drew⟩
    obtain ⟨hge, hle⟩ := HG.out
    exact World.ownsRow_made (base := w.heap.size) (e := 30) (size := 1) w _ (grownCap w n 0 30) (Nat.le_refl _) hle (by
      rw [Array.size_append, zero_sizeP, zero_sizeP]
      show n * 1 + (grownCap w n 0 30 - n) * 1 = _
      omega)
set_option maxRecDepth 100000 in
set_option maxHeartbeats 3200000 in
theorem concat_ty (A : Option Addr) (c : Nat) (L : List (Sl Int)) (w : World) (hl : LL 1 tcell w w.heap.size A L) (hn : L.length ≤ maxLen) (hs : lensS L * 1 ≤ 140737488351232) :
    Calls Try.prog 51 #[.slice A L.length c] w fun e w' => ∃ v, e = .returned v ∧ w'.ownsRow w.heap.size 30 1 v (lensS L) ((flatS L).flatMap tcell) ∧ Below w.heap.size w w' := by
  have Hl := Lib.hid hl
  unfold maxLen at hn
  have hgrow := fun W => Lib.hid (grow_ty (lensS L) W (by omega))
  obtain ⟨i0, hi, hz0, hz1, hz2⟩ := info_parts infoTy
  have hU := Try.underlying34
  have HI := Lib.hid (And.intro hU (And.intro hi (And.intro hz0 (And.intro hz1 hz2))))
  clear hl hi hz0 hz1 hz2 hU
  go_enter Try.func51, Try.ntmps51
  go_wp2_with fail
  go_loopw [3, 11] (fun s i wr => ∃ k : Nat, i = .int .i64 (k : Int) ∧ s = .int .i64 ((lensS (L.take k) : Nat) : Int) ∧ k ≤ L.length ∧ Below w.heap.size w wr)
    (fun _ i _ => L.length - (intOf i).toNat)
  case atStart => exact ⟨0, rfl, rfl, by omega, Below.refl _ _⟩
  case round =>
    obtain ⟨k, rfl, rfl, hk, hb⟩ := hrel
    by_cases hlt : k < L.length
    · have hx : L[k]? = some L[k] := List.getElem?_eq_getElem hlt
      obtain ⟨b, o, rfl, hB, hc, _⟩ := Hl.out.at_ hx
      have c0 := (hb.cell (p := ⟨b, o + k, none⟩) hB).trans hc
      have hsn := lensS_snoc hx
      have hon := lensS_one hx
      have hle : (L[k].l.length : Int) ≤ 140737488351232 := by omega
      generalize L[k].l.length = sl at *
      generalize L[k] = l at *
      generalize lensS (L.take k) = m at *
      have hm0 : (m : Int) + (sl : Int) ≤ 140737488351232 := by omega
      have HH := Lib.hid (And.intro hb hsn)
      clear hb hx hsn hc hon
      go_wp2_with fail
      go_roundw
      case rel => exact ⟨k + 1, by go_num, by rw [HH.out.2]; go_num, by omega, HH.out.1⟩
      case measure => simp [intOf]; omega
    · have hk2 : k = L.length := by omega
      subst hk2
      rw [List.take_length]
      have HH := Lib.hid hb
      clear hb
      go_wp2_with fail
      refine (hgrow _).out.mono ?_
      rintro e w1 ⟨v1, rfl, o1, b1⟩
      have hw1 := HH.out.trans (b1.mono HH.out.size)
      have o1' := o1.mono HH.out.size
      have H1 := Lib.hid (And.intro o1' hw1)
      clear o1 o1' b1 hw1 hgrow
      go_wp2_with fail
      go_loopw [6, 27] (fun v i w2 => ∃ k : Nat, i = .int .i64 (k : Int) ∧ k ≤ L.length ∧ w2.ownsRow w.heap.size 30 1 v (lensS (L.take k)) ((flatS (L.take k)).flatMap tcell) ∧ Below w.heap.size w w2)
        (fun _ i _ => L.length - (intOf i).toNat)
      case atStart => exact ⟨0, rfl, by omega, by simpa [flatS, lensS] using H1.out.1, H1.out.2⟩
      case round =>
        obtain ⟨k, rfl, hk', hown, hb2⟩ := hrel
        by_cases hlt' : k < L.length
        · have hx : L[k]? = some L[k] := List.getElem?_eq_getElem hlt'
          obtain ⟨b, o, rfl, hB, hc, hv⟩ := Hl.out.at_ hx
          have c0 := (hb2.cell (p := ⟨b, o + k, none⟩) hB).trans hc
          have hvv := hv.past hb2 (Nat.le_refl _)
          have hsn := lensS_snoc hx
          have hon := lensS_one hx
          have hfs := flatS_snoc hx
          generalize L[k] = l at *
          have HV := Lib.hid (And.intro hvv (And.intro hown (And.intro hb2 (And.intro hsn hfs))))
          have HB := Lib.hid (show (lensS (L.take k) + l.l.length ≤ maxLen ∧ (lensS (L.take k) + l.l.length) * 1 ≤ 140737488355328) from ⟨by unfold maxLen; omega, by omega⟩)
          clear hx hsn hfs hc hv hvv hown hb2 hon
          go_wp2_with (at_builtin; refine wpList_append_lies _ rfl (.tmp 31) (.tmp 32) 34 30 rfl i0 _ 1 HI.out.1 HI.out.2.1 HI.out.2.2.1 HI.out.2.2.2.1 HI.out.2.2.2.2 rfl (by decide) tcell_len tcell_one w.heap.size _ _ _ rfl HV.out.2.1 l.c rfl HV.out.1 HB.out.1 HB.out.2 HV.out.2.2.1.size ?_)
          intro v' w' ho' hb'
          have H2 := Lib.hid (And.intro ho' (HV.out.2.2.1.trans hb'))
          clear ho' hb'
          go_wp2_with fail
          go_roundw
          case rel => exact ⟨k + 1, by go_num, by omega, by rw [HV.out.2.2.2.1, HV.out.2.2.2.2, List.flatMap_append]; exact H2.out.1, H2.out.2⟩
          case measure => simp [intOf]; omega
        · have hk3 : k = L.length := by omega
          subst hk3
          rw [List.take_length] at hown
          have H2 := Lib.hid (And.intro hown hb2)
          clear hown hb2
          go_wp2_with fail
          go_ret
          exact ⟨_, rfl, H2.out.1, H2.out.2⟩

set_option maxRecDepth 100000 in
set_option maxHeartbeats 1600000 in
theorem grow_sc (n : Nat) (w : World) (hn : n * 24 ≤ 140737488355328) :
    Calls Try.prog 59 #[.slice none 0 0, .int .i64 (n : Int)] w fun e w' => ∃ v, e = .returned v ∧ w'.ownsRow w.heap.size 34 1 v 0 [] ∧ Below w.heap.size w w' := by
  by_cases h0 : n = 0
  · subst h0
    go_enter Try.func59, Try.ntmps59
    go_wp2_with fail
    go_ret
    exact ⟨_, rfl, World.ownsRow_nil _ _ _ _, Below.refl _ _⟩
  · have hp : 0 < n := by omega
    have t1 : decide (0 < (n : Int)) = true := by simp; omega
    have hge := grownCap_ge w n 0 34
    have hle := grownCap_le_maxLen w n 0 34 (by unfold maxLen; omega)
    have HG := Lib.hid (And.intro hge hle)
    have hb := bytesSc
    have hnx : Builtin.nextslicecap n 0 = n := by unfold Builtin.nextslicecap; simp; omega
    clear h0 hge hle
    go_enter Try.func59, Try.ntmps59
    go_wp2_with fail
    all_goals first
      | (exfalso; omega)
      | skip
    go_ret
    refine ⟨_, rfl, ?_, ((Below.refl w.heap.size w).alloc (Nat.le_refl _) _).drew⟩
    obtain ⟨hge, hle⟩ := HG.out
    exact World.ownsRow_made (base := w.heap.size) (e := 34) (size := 1) w _ (grownCap w n 0 34) (Nat.le_refl _) hle (by
      rw [Array.size_append, zero_sizeP, zero_sizeP]
      show n * 1 + (grownCap w n 0 34 - n) * 1 = _
      omega)
set_option maxRecDepth 100000 in
set_option maxHeartbeats 3200000 in
theorem concat_sc (A : Option Addr) (c : Nat) (L : List (Sl (Sl Int))) (w : World) (hl : LL 1 Sl.cells w w.heap.size A L) (hn : L.length ≤ maxLen) (hs : lensS L * 24 ≤ 140737488351232) :
    Calls Try.prog 47 #[.slice A L.length c] w fun e w' => ∃ v, e = .returned v ∧ w'.ownsRow w.heap.size 34 1 v (lensS L) ((flatS L).flatMap Sl.cells) ∧ Below w.heap.size w w' := by
  have Hl := Lib.hid hl
  unfold maxLen at hn
  have hgrow := fun W => Lib.hid (grow_sc (lensS L) W (by omega))
  obtain ⟨i0, hi, hz0, hz1, hz2⟩ := info_parts infoSc
  have hU := Try.underlying53
  have HI := Lib.hid (And.intro hU (And.intro hi (And.intro hz0 (And.intro hz1 hz2))))
  clear hl hi hz0 hz1 hz2 hU
  go_enter Try.func47, Try.ntmps47
  go_wp2_with fail
  go_loopw [3, 11] (fun s i wr => ∃ k : Nat, i = .int .i64 (k : Int) ∧ s = .int .i64 ((lensS (L.take k) : Nat) : Int) ∧ k ≤ L.length ∧ Below w.heap.size w wr)
    (fun _ i _ => L.length - (intOf i).toNat)
  case atStart => exact ⟨0, rfl, rfl, by omega, Below.refl _ _⟩
  case round =>
    obtain ⟨k, rfl, rfl, hk, hb⟩ := hrel
    by_cases hlt : k < L.length
    · have hx : L[k]? = some L[k] := List.getElem?_eq_getElem hlt
      obtain ⟨b, o, rfl, hB, hc, _⟩ := Hl.out.at_ hx
      have c0 := (hb.cell (p := ⟨b, o + k, none⟩) hB).trans hc
      have hsn := lensS_snoc hx
      have hon := lensS_one hx
      have hle : (L[k].l.length : Int) ≤ 140737488351232 := by omega
      generalize L[k].l.length = sl at *
      generalize L[k] = l at *
      generalize lensS (L.take k) = m at *
      have hm0 : (m : Int) + (sl : Int) ≤ 140737488351232 := by omega
      have HH := Lib.hid (And.intro hb hsn)
      clear hb hx hsn hc hon
      go_wp2_with fail
      go_roundw
      case rel => exact ⟨k + 1, by go_num, by rw [HH.out.2]; go_num, by omega, HH.out.1⟩
      case measure => simp [intOf]; omega
    · have hk2 : k = L.length := by omega
      subst hk2
      rw [List.take_length]
      have HH := Lib.hid hb
      clear hb
      go_wp2_with fail
      refine (hgrow _).out.mono ?_
      rintro e w1 ⟨v1, rfl, o1, b1⟩
      have hw1 := HH.out.trans (b1.mono HH.out.size)
      have o1' := o1.mono HH.out.size
      have H1 := Lib.hid (And.intro o1' hw1)
      clear o1 o1' b1 hw1 hgrow
      go_wp2_with fail
      go_loopw [6, 27] (fun v i w2 => ∃ k : Nat, i = .int .i64 (k : Int) ∧ k ≤ L.length ∧ w2.ownsRow w.heap.size 34 1 v (lensS (L.take k)) ((flatS (L.take k)).flatMap Sl.cells) ∧ Below w.heap.size w w2)
        (fun _ i _ => L.length - (intOf i).toNat)
      case atStart => exact ⟨0, rfl, by omega, by simpa [flatS, lensS] using H1.out.1, H1.out.2⟩
      case round =>
        obtain ⟨k, rfl, hk', hown, hb2⟩ := hrel
        by_cases hlt' : k < L.length
        · have hx : L[k]? = some L[k] := List.getElem?_eq_getElem hlt'
          obtain ⟨b, o, rfl, hB, hc, hv⟩ := Hl.out.at_ hx
          have c0 := (hb2.cell (p := ⟨b, o + k, none⟩) hB).trans hc
          have hvv := hv.past hb2 (Nat.le_refl _)
          have hsn := lensS_snoc hx
          have hon := lensS_one hx
          have hfs := flatS_snoc hx
          generalize L[k] = l at *
          have HV := Lib.hid (And.intro hvv (And.intro hown (And.intro hb2 (And.intro hsn hfs))))
          have HB := Lib.hid (show (lensS (L.take k) + l.l.length ≤ maxLen ∧ (lensS (L.take k) + l.l.length) * 24 ≤ 140737488355328) from ⟨by unfold maxLen; omega, by omega⟩)
          clear hx hsn hfs hc hv hvv hown hb2 hon
          go_wp2_with (at_builtin; refine wpList_append_lies _ rfl (.tmp 31) (.tmp 32) 53 34 rfl i0 _ 24 HI.out.1 HI.out.2.1 HI.out.2.2.1 HI.out.2.2.2.1 HI.out.2.2.2.2 rfl (by decide) scell_len scell_one w.heap.size _ _ _ rfl HV.out.2.1 l.c rfl HV.out.1 HB.out.1 HB.out.2 HV.out.2.2.1.size ?_)
          intro v' w' ho' hb'
          have H2 := Lib.hid (And.intro ho' (HV.out.2.2.1.trans hb'))
          clear ho' hb'
          go_wp2_with fail
          go_roundw
          case rel => exact ⟨k + 1, by go_num, by omega, by rw [HV.out.2.2.2.1, HV.out.2.2.2.2, List.flatMap_append]; exact H2.out.1, H2.out.2⟩
          case measure => simp [intOf]; omega
        · have hk3 : k = L.length := by omega
          subst hk3
          rw [List.take_length] at hown
          have H2 := Lib.hid (And.intro hown hb2)
          clear hown hb2
          go_wp2_with fail
          go_ret
          exact ⟨_, rfl, H2.out.1, H2.out.2⟩
end Go.Proofs.Ytjidjpmdmcleoaa
