/- Types: of a value, of a row; whether some are the same. -/
import Derived.Test.YtjidjpmdmcleoaaEEvE
namespace Go.Proofs.Ytjidjpmdmcleoaa
open Go Go.RowKit

def cellT (t : Int) : Value := .int .u8 t
/-- a slice of types that reads as a list -/
def Tys (w : World) (B : Nat) (A : Option Addr) (l : List Int) : Prop :=
  0 < l.length → ∃ b o, A = some ⟨b, o, none⟩ ∧ b < B ∧ ∀ (i : Nat) (t : Int), l[i]? = some t → w.cell? ⟨b, o + i, none⟩ = some (.int .u8 t)
theorem Tys.past {w w' : World} {B B' : Nat} {A : Option Addr} {l : List Int} (h : Tys w B A l) (hb : Below B' w w') (hB : B ≤ B') : Tys w' B A l := fun hn => by
  obtain ⟨b, o, e, hlt, hc⟩ := h hn
  exact ⟨b, o, e, hlt, fun i t hi => (hb.cell (p := ⟨b, o + i, none⟩) (show b < B' by omega)).trans (hc i t hi)⟩
theorem Tys.wide {w : World} {B B' : Nat} {A : Option Addr} {l : List Int} (h : Tys w B A l) (hB : B ≤ B') : Tys w B' A l := fun hn => by
  obtain ⟨b, o, e, hlt, hc⟩ := h hn
  exact ⟨b, o, e, by omega, hc⟩
theorem tys_of_own {w : World} {base : Nat} {e : TypeId} {v : Value} {l : List Int} {n : Nat} (hn : n = l.length) (h : w.ownsRow base e 1 v n (l.map cellT)) :
    ∃ A c, v = .slice A l.length c ∧ l.length ≤ c ∧ c ≤ maxLen ∧ Tys w w.heap.size A l ∧ ∀ b o s, A = some ⟨b, o, s⟩ → base ≤ b ∧ o = 0 := by
  subst hn
  rcases h.2 with ⟨rfl, h0⟩ | ⟨g, cap, cur, rfl, hb, hg, h1, h2, h3, h4⟩
  · exact ⟨none, 0, by rw [h0], by omega, by unfold maxLen; omega, fun h => by omega, fun _ _ _ h => by cases h⟩
  · refine ⟨_, cap, rfl, h1, h2, fun _ => ⟨g, 0, rfl, (Array.getElem?_eq_some_iff.1 hg).1, fun i t hi => ?_⟩, fun b o s h => by cases h; exact ⟨hb, rfl⟩⟩
    have hlt : i < l.length := (List.getElem?_eq_some_iff.1 hi).1
    rw [Nat.zero_add, h.cellAt _ (by omega)]
    rw [List.getElem?_map, hi]
    rfl
def tyV (v : Vl) : Int := if v.t then 2 else 1
def sameU (u : Int) (l : List Int) : Int := if l.all (· == l.headD 0) then u else fl u 11
theorem fl_fl (u f : Int) (hf : f ≠ 0) : fl (fl u f) f = fl u f := by unfold fl; split <;> simp_all
set_option maxRecDepth 100000 in
set_option maxHeartbeats 800000 in
theorem typeOf_any (v : Vl) (w : World) : Calls Try.prog 26 #[v.val] w fun e w' => e = .returned (.int .u8 (tyV v)) ∧ Below w.heap.size w w' := by
  obtain ⟨t, n, s⟩ := v
  unfold Vl.val tyV
  cases t
  all_goals
    simp only [Bool.false_eq_true, if_false, if_true]
    go_enter Try.func26, Try.ntmps26
    go_wp2_with fail
    go_ret
    exact ⟨rfl, (Below.refl _ _).alloc (Nat.le_refl _) _⟩
/-- the failure so far, of the first k -/
def sameK (u : Int) (l : List Int) (k : Nat) : Int := if (l.take k).all (· == l.headD 0) then u else fl u 11
theorem sameK_next {u : Int} {l : List Int} {k : Nat} {t : Int} (h : l[k]? = some t) : sameK u l (k + 1) = if t = l.headD 0 then sameK u l k else fl (sameK u l k) 11 := by
  unfold sameK
  rw [List.take_add_one, h]
  generalize l.headD 0 = d
  simp only [Option.toList_some, List.all_append, List.all_cons, List.all_nil, Bool.and_true]
  by_cases ht : t = d
  · subst ht; simp
  · rw [if_neg ht]
    have : (t == d) = false := by simpa using ht
    rw [this, Bool.and_false, if_neg (by simp)]
    split
    · rfl
    · rw [fl_fl _ _ (by decide)]
set_option maxRecDepth 100000 in
set_option maxHeartbeats 3200000 in
theorem same_any (A : Option Addr) (n c : Nat) (u : Int) (A' : Option Addr) (c' : Nat) (l : List Int) (g : Nat) (w : World) (hl : Tys w w.heap.size A' l) (hne : ∀ b o, A' = some ⟨b, o, none⟩ → b ≠ g) (hn : l.length ≤ maxLen)
    (ho : Own w g 66 (evL u A n c)) :
    Calls Try.prog 37 #[.pointer (some ⟨g, 0, none⟩), .slice A' l.length c'] w fun x w' => x = .returned (.tuple #[]) ∧ Upd w w' g 66 (evL (sameU u l) A n c) := by
  unfold maxLen at hn
  have hg := ho.inside
  have HO := Lib.hid ho
  have HL := Lib.hid (And.intro hl hne)
  clear hl hne ho
  go_enter Try.func37, Try.ntmps37
  go_wp2_with fail
  go_loopw [8] (fun i wr => ∃ k : Nat, i = .int .i64 (k : Int) ∧ k ≤ l.length ∧ Upd w wr g 66 (evL (sameK u l k) A n c))
    (fun i _ => l.length - (intOf i).toNat)
  case atStart => exact ⟨0, rfl, by omega, (Upd.same HO.out).as (by simp [sameK])⟩
  case round =>
    obtain ⟨k, rfl, hk, hu⟩ := hrel
    by_cases hlt : k < l.length
    · have hx : l[k]? = some l[k] := List.getElem?_eq_getElem hlt
      obtain ⟨b, o, rfl, hB, hc⟩ := HL.out.1 (by omega)
      have hbg := HL.out.2 b o rfl
      have h0 : l[0]? = some (l.headD 0) := by cases l with
        | nil => simp at hlt
        | cons x l => rfl
      have hnx := sameK_next (u := u) hx
      obtain ⟨d, hd⟩ : ∃ d, l.headD 0 = d := ⟨_, rfl⟩
      rw [hd] at h0 hnx
      clear hd
      have d0 := ((grown_olds hu.grow).1 b o hB hbg).trans (by simpa using hc 0 _ h0)
      have d1 := ((grown_olds hu.grow).1 b (o + k) hB hbg).trans (hc k _ hx)
      have q0 : (0 : Int) ≤ (k : Int) := by omega
      have q1 : (k : Int) < (l.length : Int) := by omega
      have q2 : (0 : Int) < (l.length : Int) := by omega
      generalize l[k] = t at *
      have HH := Lib.hid (And.intro hu hnx)
      clear hu hnx hx h0 hc
      by_cases ht : t = d
      · have t1 : (t != d) = false := by simpa using ht
        have HT := Lib.hid ht
        clear ht
        go_wp2_with fail
        go_roundw
        case rel => exact ⟨k + 1, by go_num, by omega, HH.out.1.as (by rw [HH.out.2, if_pos HT.out])⟩
        case measure => simp [intOf]; omega
      · have t1 : (t != d) = true := by simpa using ht
        have HT := Lib.hid ht
        clear ht
        go_wp2_with fail
        refine (fail_any g _ _ 11 _ _ HH.out.1.own).mono ?_
        rintro _ w3 ⟨rfl, u3⟩
        have U3 := Lib.hid (HH.out.1.trans u3)
        clear u3
        go_wp2_with fail
        go_roundw
        case rel => exact ⟨k + 1, by go_num, by omega, U3.out.as (by rw [HH.out.2, if_neg HT.out]; rfl)⟩
        case measure => simp [intOf]; omega
    · have hk2 : k = l.length := by omega
      subst hk2
      have HH := Lib.hid hu
      clear hu
      go_wp2_with fail
      exact bodyPost_end (results_none rfl _ _ _) rfl ⟨rfl, HH.out.as (by simp [sameK, sameU])⟩
end Go.Proofs.Ytjidjpmdmcleoaa
namespace Go.Proofs.Ytjidjpmdmcleoaa
open Go Go.RowKit

def infK (f : Lx → Int → Int × Int) (ks : List Lx) (u : Int) : List Int × Int := ks.foldl (fun p k => (p.1 ++ [(f k p.2).1], (f k p.2).2)) ([], u)
/-- an expression's type, and the failure so far -/
def inf (sch : List Int) : Nat → Lx → Int → Int × Int
  | 0, _, u => (0, u)
  | n + 1, e, u =>
    if e.op = 1 then (if 0 ≤ e.col ∧ e.col < sch.length then (sch.getD e.col.toNat 0, u) else (0, fl u 1))
    else if e.op = 2 then (tyV e.c, u)
    else if e.op = 7 ∨ e.op = 8 then (1, sameU (infK (inf sch n) e.kids u).2 (infK (inf sch n) e.kids u).1)
    else if e.op = 12 then ((infK (inf sch n) e.kids u).1.getD 1 0, sameU (sameU (infK (inf sch n) e.kids u).2 [1, (infK (inf sch n) e.kids u).1.getD 0 0]) ((infK (inf sch n) e.kids u).1.drop 1))
    else (1, sameU (infK (inf sch n) e.kids u).2 ((infK (inf sch n) e.kids u).1 ++ [1]))
theorem infK_next {f : Lx → Int → Int × Int} {ks : List Lx} {u : Int} {k : Nat} {x : Lx} (h : ks[k]? = some x) :
    infK f (ks.take (k + 1)) u = ((infK f (ks.take k) u).1 ++ [(f x (infK f (ks.take k) u).2).1], (f x (infK f (ks.take k) u).2).2) := by
  unfold infK
  rw [List.take_add_one, h, List.foldl_append]
  rfl
theorem infK_len (f : Lx → Int → Int × Int) (ks : List Lx) (u : Int) : (infK f ks u).1.length = ks.length := by
  unfold infK
  suffices ∀ (ks : List Lx) (p : List Int × Int), (ks.foldl (fun p k => (p.1 ++ [(f k p.2).1], (f k p.2).2)) p).1.length = p.1.length + ks.length by
    have := this ks ([], u); simpa using this
  intro ks; induction ks with
  | nil => intro p; simp
  | cons k ks ih => intro p; rw [List.foldl_cons, ih]; simp; omega
structure TyIn (sch : List Int) (A : Option Addr) (w : World) (g : Nat) : Prop where
  tys : Tys w g A sch
  len : sch.length ≤ maxLen
theorem TyIn.past {sch : List Int} {A : Option Addr} {w w' : World} {g : Nat} (h : TyIn sch A w g) (hb : Below g w w') : TyIn sch A w' g := ⟨h.tys.past hb (Nat.le_refl _), h.len⟩
def InfC (sch : List Int) (A : Option Addr) (c : Nat) (n : Nat) : Prop := ∀ (e : Lx) (u : Int) (g : Nat) (w : World), Te n e w g → TyIn sch A w g → Own w g 66 (evL u A sch.length c) →
  Calls Try.prog 25 #[.pointer (some ⟨g, 0, none⟩), e.val] w fun x w' => x = .returned (.int .u8 (inf sch n e u).1) ∧ Upd w w' g 66 (evL (inf sch n e u).2 A sch.length c)
/-- an expression that is boxed in block N, those in it, and the types of the columns -/
structure Bt (sch : List Int) (A : Option Addr) (n : Nat) (e : Lx) (g N : Nat) (W : World) : Prop where
  box : Own W N 27 e.cells
  te : Te (n + 1) e W g
  row : TyIn sch A W g
  gN : g < N
section
variable {sch : List Int} {A : Option Addr} {n : Nat} {e : Lx} {g N : Nat} {W W' : World}
theorem Bt.past (h : Bt sch A n e g N W) (hb : Below (N + 1) W W') : Bt sch A n e g N W' := ⟨h.box.past hb (by omega), h.te.past (hb.mono (by have := h.gN; omega)), h.row.past (hb.mono (by have := h.gN; omega)), h.gN⟩
theorem Bt.next {t : TypeId} {l : List Value} (h : Bt sch A n e g N W) (k : Upd W W' g t l) : Bt sch A n e g N W' :=
  have hb := k.below (Nat.le_refl _) (by have := h.box.inside; have := h.gN; omega)
  ⟨k.other (by have := h.gN; omega) h.box, h.te.past hb, h.row.past hb, h.gN⟩
theorem Bt.six (h : Bt sch A n e g N W) : W.cell? ⟨N, 0, none⟩ = some (.int .u8 e.op) ∧ W.cell? ⟨N, 1, none⟩ = some (.int .i64 e.col) ∧ W.cell? ⟨N, 2, none⟩ = some (.bool e.c.t) ∧
      W.cell? ⟨N, 3, none⟩ = some (.int .i64 e.c.n) ∧ W.cell? ⟨N, 4, none⟩ = some (.string e.c.s) ∧ W.cell? ⟨N, 5, none⟩ = some (.slice e.A e.kids.length e.cap) := by
  have := (lxAt_own h.box).six
  simpa using this
theorem Bt.made {w : World} {c : Nat} {u : Int} (ht : Te (n + 1) e w g) (hr : TyIn sch A w g) (ho : Own w g 66 (evL u A sch.length c)) :
    ∃ W, W = w.alloc (.cells #[.int .u8 e.op, .int .i64 e.col, .bool e.c.t, .int .i64 e.c.n, .string e.c.s, .slice e.A e.kids.length e.cap] 27) ∧ Bt sch A n e g w.heap.size W ∧ Upd w W g 66 (evL u A sch.length c) ∧ W.heap.size = w.heap.size + 1 := by
  have hg := ho.inside
  obtain ⟨W, hW, fb, hs, fk⟩ := lxbox w e
  have fg := fb.mono (show g ≤ w.heap.size by omega)
  exact ⟨W, hW, ⟨fk, ht.past fg, hr.past fg, hg⟩, Upd.after fb (Upd.same (ho.past fb hg)), hs⟩
end
theorem Upd.pushed {w w' w'' : World} {g B : Nat} {t : TypeId} {l : List Value} (h : Upd w w' g t l) (hb : Below B w' w'') (hB : w.heap.size ≤ B) (hg : g < B) : Upd w w'' g t l :=
  ⟨h.own.past hb hg, ⟨hb.os.trans h.grow.os, hb.tape.trans h.grow.tape, hb.output.trans h.grow.output, Nat.le_trans h.grow.size hb.size, fun k hk hne => (hb.block k (by omega)).trans (h.grow.block k hk hne)⟩⟩
theorem ret_u8s {a b : Int} {u v : Int} {w w' : World} {g : Nat} {t : TypeId} {A : Option Addr} {n c : Nat} (h : a = b) (hu : u = v) (k : Upd w w' g t (evL u A n c)) : Ending.returned (.int .u8 a) = .returned (.int .u8 b) ∧ Upd w w' g t (evL v A n c) := by subst h hu; exact ⟨rfl, k⟩
set_option maxRecDepth 100000 in
set_option maxHeartbeats 3200000 in
theorem infer_leaf (sch : List Int) (A : Option Addr) (c n : Nat) (e : Lx) (hop : e.op = 1 ∨ e.op = 2) (u : Int) (g : Nat) (w : World) (ht : Te (n + 1) e w g) (hr : TyIn sch A w g) (ho : Own w g 66 (evL u A sch.length c)) :
    Calls Try.prog 25 #[.pointer (some ⟨g, 0, none⟩), e.val] w fun x w' => x = .returned (.int .u8 (inf sch (n + 1) e u).1) ∧ Upd w w' g 66 (evL (inf sch (n + 1) e u).2 A sch.length c) := by
  have hg := ho.inside
  have hlen := hr.len
  unfold maxLen at hlen
  obtain ⟨W, hW, hB, hU, hs⟩ := Bt.made ht hr ho
  obtain ⟨c0, c1, c2, c3, c4, c5⟩ := hB.six
  have d0 := hU.own.at_ 0
  have d1 := hU.own.at_ 1
  have hgW := hU.own.inside
  simp only [evL, List.getElem?_cons_zero, List.getElem?_cons_succ] at d0 d1
  have HU := Lib.hid hU
  rcases hop with h1 | h2
  · have hq : inf sch (n + 1) e u = (if 0 ≤ e.col ∧ e.col < sch.length then (sch.getD e.col.toNat 0, u) else (0, fl u 1)) := by unfold inf; rw [if_pos h1]
    rw [hq]
    have hti := hB.row.tys
    rw [h1] at c0
    clear hq ht hr ho hB hU
    unfold Lx.val
    rw [h1] at hW ⊢
    generalize e.col = col at *
    by_cases h0 : 0 ≤ col
    · by_cases hl : col < sch.length
      · rw [if_pos ⟨h0, hl⟩]
        obtain ⟨k, rfl⟩ : ∃ k : Nat, col = (k : Int) := ⟨col.toNat, by omega⟩
        have hk : k < sch.length := by omega
        have hx : sch[k]? = some sch[k] := List.getElem?_eq_getElem hk
        have hd : sch.getD (k : Int).toNat 0 = sch[k] := by rw [Int.toNat_natCast, List.getD_eq_getElem?_getD, hx]; rfl
        obtain ⟨b, o, rfl, hb, hc⟩ := hti (by omega)
        have x0 := hc k _ hx
        rw [hd]
        generalize sch[k] = t at *
        have t1 : decide ((k : Int) < 0) = false := by simp
        have t2 : decide ((sch.length : Int) ≤ (k : Int)) = false := by simp; omega
        have q0 : (0 : Int) ≤ (k : Int) := by omega
        have q1 : (k : Int) < (sch.length : Int) := hl
        clear hti hc hx hd h0
        go_enter Try.func25, Try.ntmps25
        go_upto_region 1 with fail
        rw [← hW]
        clear hW
        go_wp2_with fail
        go_quiet (fail)
        go_wp2_with fail
        go_quiet (fail)
        go_wp2_with fail
        go_ret
        exact ⟨rfl, (HU.out.quiet (below_draws (Below.refl _ _) _)).quiet (below_draws (Below.refl _ _) _)⟩
      · rw [if_neg (fun h => hl h.2)]
        have t1 : decide (col < 0) = false := by simpa using h0
        have t2 : decide ((sch.length : Int) ≤ col) = true := by simpa using hl
        clear h0 hl hti
        go_enter Try.func25, Try.ntmps25
        go_upto_region 1 with fail
        rw [← hW]
        clear hW
        go_wp2_with fail
        go_quiet (fail)
        go_wp2_with fail
        refine (fail_any g _ _ 1 _ _ (HU.out.quiet (below_draws (Below.refl _ _) nq)).own).mono ?_
        rintro _ w3 ⟨rfl, u3⟩
        have U3 := Lib.hid ((HU.out.quiet (below_draws (Below.refl _ _) nq)).trans u3)
        clear u3
        go_wp2_with fail
        go_ret
        exact ⟨rfl, U3.out⟩
    · rw [if_neg (fun h => h0 h.1)]
      have t1 : decide (col < 0) = true := by simpa using h0
      clear h0 hti
      go_enter Try.func25, Try.ntmps25
      go_upto_region 1 with fail
      rw [← hW]
      clear hW
      go_wp2_with fail
      go_quiet (fail)
      go_wp2_with fail
      refine (fail_any g _ _ 1 _ _ (HU.out.quiet (below_draws (Below.refl _ _) nq)).own).mono ?_
      rintro _ w3 ⟨rfl, u3⟩
      have U3 := Lib.hid ((HU.out.quiet (below_draws (Below.refl _ _) nq)).trans u3)
      clear u3
      go_wp2_with fail
      go_ret
      exact ⟨rfl, U3.out⟩
  · have hq : inf sch (n + 1) e u = (tyV e.c, u) := by unfold inf; rw [if_neg (by omega), if_pos h2]
    rw [hq]
    have hty := Lib.hid (typeOf_any e.c W)
    rw [h2] at c0
    clear hq ht hr ho hB hU
    unfold Lx.val
    rw [h2] at hW ⊢
    unfold Vl.val at hty
    generalize tyV e.c = t at *
    go_enter Try.func25, Try.ntmps25
    go_upto_region 1 with fail
    rw [← hW]
    clear hW
    go_wp2_with fail
    refine hty.out.mono ?_
    rintro _ w3 ⟨rfl, b3⟩
    go_wp2_with fail
    go_ret
    exact ⟨rfl, HU.out.quiet b3⟩
end Go.Proofs.Ytjidjpmdmcleoaa
