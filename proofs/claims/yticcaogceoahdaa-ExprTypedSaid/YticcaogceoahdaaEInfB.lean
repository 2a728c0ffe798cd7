/- The type of an expression. -/
import Derived.Test.YticcaogceoahdaaEInfA
namespace Go.Proofs.Yticcaogceoahdaa
open Go Go.RowKit

def infK (f : Lx → Int → Int × Int) (ks : List Lx) (u : Int) : List Int × Int := ks.foldl (fun p k => (p.1 ++ [(f k p.2).1], (f k p.2).2)) ([], u)
/-- an expression's type, and the failure so far -/
def inf (sch : List Int) : Nat → Lx → Int → Int × Int
  | 0, _, u => (0, u)
  | n + 1, e, u =>
    if e.op = 1 then (if 0 ≤ e.col ∧ e.col < sch.length then (sch.getD e.col.toNat 0, u) else (0, fl u 1))
    else if e.op = 2 then (tyV e.c, u)
    else if e.op = 7 ∨ e.op = 8 then (1, sameU (infK (inf sch n) e.kids u).2 (infK (inf sch n) e.kids u).1)
    else if e.op = 12 then ((infK (inf sch n) e.kids u).1.getD 1 0, sameU (sameU (infK (inf sch n) e.kids u).2 [1, (infK (inf sch n) e.kids u).1.getD 0 0]) ((infK (inf sch n) e.kids u).1.drop 1))
    else (1, sameU (infK (inf sch n) e.kids u).2 ((infK (inf sch n) e.kids u).1 ++ [1]))
theorem infK_next {f : Lx → Int → Int × Int} {ks : List Lx} {u : Int} {k : Nat} {x : Lx} (h : ks[k]? = some x) :
    infK f (ks.take (k + 1)) u = ((infK f (ks.take k) u).1 ++ [(f x (infK f (ks.take k) u).2).1], (f x (infK f (ks.take k) u).2).2) := by
  unfold infK
  rw [List.take_add_one, h, List.foldl_append]
  rfl
theorem infK_len (f : Lx → Int → Int × Int) (ks : List Lx) (u : Int) : (infK f ks u).1.length = ks.length := by
  unfold infK
  suffices ∀ (ks : List Lx) (p : List Int × Int), (ks.foldl (fun p k => (p.1 ++ [(f k p.2).1], (f k p.2).2)) p).1.length = p.1.length + ks.length by
    have := this ks ([], u); simpa using this
  intro ks; induction ks with
  | nil => intro p; simp
  | cons k ks ih => intro p; rw [List.foldl_cons, ih]; simp; omega
structure TyIn (sch : List Int) (A : Option Addr) (w : World) (g : Nat) : Prop where
  tys : Tys w g A sch
  len : sch.length ≤ maxLen
theorem TyIn.past {sch : List Int} {A : Option Addr} {w w' : World} {g : Nat} (h : TyIn sch A w g) (hb : Below g w w') : TyIn sch A w' g := ⟨h.tys.past hb (Nat.le_refl _), h.len⟩
def InfC (sch : List Int) (A : Option Addr) (c : Nat) (n : Nat) : Prop := ∀ (e : Lx) (u : Int) (g : Nat) (w : World), Te n e w g → TyIn sch A w g → Own w g 49 (evL u A sch.length c) →
  Calls Try.prog 14 #[.pointer (some ⟨g, 0, none⟩), e.val] w fun x w' => x = .returned (.int .u8 (inf sch n e u).1) ∧ Upd w w' g 49 (evL (inf sch n e u).2 A sch.length c)
/-- an expression that is boxed in block N, those in it, and the types of the columns -/
structure Bt (sch : List Int) (A : Option Addr) (n : Nat) (e : Lx) (g N : Nat) (W : World) : Prop where
  box : Own W N 27 e.cells
  te : Te (n + 1) e W g
  row : TyIn sch A W g
  gN : g < N
section
variable {sch : List Int} {A : Option Addr} {n : Nat} {e : Lx} {g N : Nat} {W W' : World}
theorem Bt.past (h : Bt sch A n e g N W) (hb : Below (N + 1) W W') : Bt sch A n e g N W' := ⟨h.box.past hb (by omega), h.te.past (hb.mono (by have := h.gN; omega)), h.row.past (hb.mono (by have := h.gN; omega)), h.gN⟩
theorem Bt.next {t : TypeId} {l : List Value} (h : Bt sch A n e g N W) (k : Upd W W' g t l) : Bt sch A n e g N W' :=
  have hb := k.below (Nat.le_refl _) (by have := h.box.inside; have := h.gN; omega)
  ⟨k.other (by have := h.gN; omega) h.box, h.te.past hb, h.row.past hb, h.gN⟩
theorem Bt.six (h : Bt sch A n e g N W) : W.cell? ⟨N, 0, none⟩ = some (.int .u8 e.op) ∧ W.cell? ⟨N, 1, none⟩ = some (.int .i64 e.col) ∧ W.cell? ⟨N, 2, none⟩ = some (.bool e.c.t) ∧
      W.cell? ⟨N, 3, none⟩ = some (.int .i64 e.c.n) ∧ W.cell? ⟨N, 4, none⟩ = some (.string e.c.s) ∧ W.cell? ⟨N, 5, none⟩ = some (.slice e.A e.kids.length e.cap) := by
  have := (lxAt_own h.box).six
  simpa using this
theorem Bt.made {w : World} {c : Nat} {u : Int} (ht : Te (n + 1) e w g) (hr : TyIn sch A w g) (ho : Own w g 49 (evL u A sch.length c)) :
    ∃ W, W = w.alloc (.cells #[.int .u8 e.op, .int .i64 e.col, .bool e.c.t, .int .i64 e.c.n, .string e.c.s, .slice e.A e.kids.length e.cap] 27) ∧ Bt sch A n e g w.heap.size W ∧ Upd w W g 49 (evL u A sch.length c) ∧ W.heap.size = w.heap.size + 1 := by
  have hg := ho.inside
  obtain ⟨W, hW, fb, hs, fk⟩ := lxbox w e
  have fg := fb.mono (show g ≤ w.heap.size by omega)
  exact ⟨W, hW, ⟨fk, ht.past fg, hr.past fg, hg⟩, Upd.after fb (Upd.same (ho.past fb hg)), hs⟩
end
theorem Upd.pushed {w w' w'' : World} {g B : Nat} {t : TypeId} {l : List Value} (h : Upd w w' g t l) (hb : Below B w' w'') (hB : w.heap.size ≤ B) (hg : g < B) : Upd w w'' g t l :=
  ⟨h.own.past hb hg, ⟨hb.os.trans h.grow.os, hb.tape.trans h.grow.tape, hb.output.trans h.grow.output, Nat.le_trans h.grow.size hb.size, fun k hk hne => (hb.block k (by omega)).trans (h.grow.block k hk hne)⟩⟩
theorem ret_u8s {a b : Int} {u v : Int} {w w' : World} {g : Nat} {t : TypeId} {A : Option Addr} {n c : Nat} (h : a = b) (hu : u = v) (k : Upd w w' g t (evL u A n c)) : Ending.returned (.int .u8 a) = .returned (.int .u8 b) ∧ Upd w w' g t (evL v A n c) := by subst h hu; exact ⟨rfl, k⟩
set_option maxRecDepth 100000 in
set_option maxHeartbeats 3200000 in
theorem infer_leaf (sch : List Int) (A : Option Addr) (c n : Nat) (e : Lx) (hop : e.op = 1 ∨ e.op = 2) (u : Int) (g : Nat) (w : World) (ht : Te (n + 1) e w g) (hr : TyIn sch A w g) (ho : Own w g 49 (evL u A sch.length c)) :
    Calls Try.prog 14 #[.pointer (some ⟨g, 0, none⟩), e.val] w fun x w' => x = .returned (.int .u8 (inf sch (n + 1) e u).1) ∧ Upd w w' g 49 (evL (inf sch (n + 1) e u).2 A sch.length c) := by
  have hg := ho.inside
  have hlen := hr.len
  unfold maxLen at hlen
  obtain ⟨W, hW, hB, hU, hs⟩ := Bt.made ht hr ho
  obtain ⟨c0, c1, c2, c3, c4, c5⟩ := hB.six
  have d0 := hU.own.at_ 0
  have d1 := hU.own.at_ 1
  have hgW := hU.own.inside
  simp only [evL, List.getElem?_cons_zero, List.getElem?_cons_succ] at d0 d1
  have HU := Lib.hid hU
  rcases hop with h1 | h2
  · have hq : inf sch (n + 1) e u = (if 0 ≤ e.col ∧ e.col < sch.length then (sch.getD e.col.toNat 0, u) else (0, fl u 1)) := by unfold inf; rw [if_pos h1]
    rw [hq]
    have hti := hB.row.tys
    rw [h1] at c0
    clear hq ht hr ho hB hU
    unfold Lx.val
    rw [h1] at hW ⊢
    generalize e.col = col at *
    by_cases h0 : 0 ≤ col
    · by_cases hl : col < sch.length
      · rw [if_pos ⟨h0, hl⟩]
        obtain ⟨k, rfl⟩ : ∃ k : Nat, col = (k : Int) := ⟨col.toNat, by omega⟩
        have hk : k < sch.length := by omega
        have hx : sch[k]? = some sch[k] := List.getElem?_eq_getElem hk
        have hd : sch.getD (k : Int).toNat 0 = sch[k] := by rw [Int.toNat_natCast, List.getD_eq_getElem?_getD, hx]; rfl
        obtain ⟨b, o, rfl, hb, hc⟩ := hti (by omega)
        have x0 := hc k _ hx
        rw [hd]
        generalize sch[k] = t at *
        have t1 : decide ((k : Int) < 0) = false := by simp
        have t2 : decide ((sch.length : Int) ≤ (k : Int)) = false := by simp; omega
        have q0 : (0 : Int) ≤ (k : Int) := by omega
        have q1 : (k : Int) < (sch.length : Int) := hl
        clear hti hc hx hd h0
        go_enter Try.func14, Try.ntmps14
        go_upto_region 1 with fail
        rw [← hW]
        clear hW
        go_wp2_with fail
        go_quiet (fail)
        go_wp2_with fail
        go_quiet (fail)
        go_wp2_with fail
        go_ret
        exact ⟨rfl, (HU.out.quiet (below_draws (Below.refl _ _) _)).quiet (below_draws (Below.refl _ _) _)⟩
      · rw [if_neg (fun h => hl h.2)]
        have t1 : decide (col < 0) = false := by simpa using h0
        have t2 : decide ((sch.length : Int) ≤ col) = true := by simpa using hl
        clear h0 hl hti
        go_enter Try.func14, Try.ntmps14
        go_upto_region 1 with fail
        rw [← hW]
        clear hW
        go_wp2_with fail
        go_quiet (fail)
        go_wp2_with fail
        refine (fail_any g _ _ 1 _ _ (HU.out.quiet (below_draws (Below.refl _ _) nq)).own).mono ?_
        rintro _ w3 ⟨rfl, u3⟩
        have U3 := Lib.hid ((HU.out.quiet (below_draws (Below.refl _ _) nq)).trans u3)
        clear u3
        go_wp2_with fail
        go_ret
        exact ⟨rfl, U3.out⟩
    · rw [if_neg (fun h => h0 h.1)]
      have t1 : decide (col < 0) = true := by simpa using h0
      clear h0 hti
      go_enter Try.func14, Try.ntmps14
      go_upto_region 1 with fail
      rw [← hW]
      clear hW
      go_wp2_with fail
      go_quiet (fail)
      go_wp2_with fail
      refine (fail_any g _ _ 1 _ _ (HU.out.quiet (below_draws (Below.refl _ _) nq)).own).mono ?_
      rintro _ w3 ⟨rfl, u3⟩
      have U3 := Lib.hid ((HU.out.quiet (below_draws (Below.refl _ _) nq)).trans u3)
      clear u3
      go_wp2_with fail
      go_ret
      exact ⟨rfl, U3.out⟩
  · have hq : inf sch (n + 1) e u = (tyV e.c, u) := by unfold inf; rw [if_neg (by omega), if_pos h2]
    rw [hq]
    have hty := Lib.hid (typeOf_any e.c W)
    rw [h2] at c0
    clear hq ht hr ho hB hU
    unfold Lx.val
    rw [h2] at hW ⊢
    unfold Vl.val at hty
    generalize tyV e.c = t at *
    go_enter Try.func14, Try.ntmps14
    go_upto_region 1 with fail
    rw [← hW]
    clear hW
    go_wp2_with fail
    refine hty.out.mono ?_
    rintro _ w3 ⟨rfl, b3⟩
    go_wp2_with fail
    go_ret
    exact ⟨rfl, HU.out.quiet b3⟩
end Go.Proofs.Yticcaogceoahdaa
