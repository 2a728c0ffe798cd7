/- The evaluation of an expression: a column, a number, what is carried along. -/
import Derived.Test.YtjidjpmdmcleoaaEChk
import Derived.Test.YtjidjpmdmcleoaaESm
import Derived.Deep.RegionHeld3
import Derived.Deep.CutRange
import Derived.Deep.DeepCutAuto
namespace Go.Proofs.Ytjidjpmdmcleoaa
open Go Go.RowKit

/-- what the block of one that evaluates holds -/
def evL (u : Int) (A : Option Addr) (n c : Nat) : List Value := [.int .i64 u, .slice A n c]
/-- an expression that is well-formed lies below block g, and so does the row -/
structure Te (n : Nat) (e : Lx) (w : World) (g : Nat) : Prop where
  gd : good n e = true
  ok : LxOk n e
  in_ : LxIn w g n e
structure RowIn (row : List Vl) (A : Option Addr) (w : World) (g : Nat) : Prop where
  vals : Vals w g A row
  len : row.length ≤ maxLen
  ok : ∀ v ∈ row, VOk v
theorem Te.past {n : Nat} {e : Lx} {w w' : World} {g : Nat} (h : Te n e w g) (hb : Below g w w') : Te n e w' g := ⟨h.gd, h.ok, h.in_.past hb (Nat.le_refl _)⟩
theorem RowIn.past {row : List Vl} {A : Option Addr} {w w' : World} {g : Nat} (h : RowIn row A w g) (hb : Below g w w') : RowIn row A w' g := ⟨h.vals.past hb (Nat.le_refl _), h.len, h.ok⟩
theorem Te.sub {n : Nat} {e : Lx} {w : World} {g i : Nat} (h : Te (n + 1) e w g) (hi : i < e.kids.length) : Te n (kid e i) w g := by
  have hk : kid e i ∈ e.kids := by unfold kid; rw [List.getD_eq_getElem?_getD, List.getElem?_eq_getElem hi]; exact List.getElem_mem hi
  have hg := h.gd
  simp only [good, Bool.and_eq_true, List.all_eq_true] at hg
  exact ⟨hg.2 _ hk, h.ok.2.2.2.2 _ hk, h.in_.2 _ hk⟩
theorem Te.node {n : Nat} {e : Lx} {w : World} {g : Nat} (h : Te (n + 1) e w g) : (e.kids.length : Int) = kidsOf e.op ∧ constOk e.op e.c = true := by
  have hg := h.gd
  simp only [good, Bool.and_eq_true, nodeOk, beq_iff_eq] at hg
  exact ⟨hg.1.1, hg.1.2.2⟩
/-- where the i-th of those in an expression lies -/
theorem Te.at_ {n : Nat} {e : Lx} {w : World} {g i : Nat} (h : Te (n + 1) e w g) (hi : i < e.kids.length) : ∃ b o, e.A = some ⟨b, o, none⟩ ∧ b < g ∧ LxAt w b (o + i * 6) (kid e i) := by
  obtain ⟨b, o, hA, hb, hx⟩ := lies_lx h.in_.1 (by omega)
  refine ⟨b, o, hA, hb, hx i _ ?_⟩
  unfold kid
  rw [List.getD_eq_getElem?_getD, List.getElem?_eq_getElem hi]
  rfl
/-- the contract of the evaluation, n deep -/
def EvC (row : List Vl) (A : Option Addr) (c : Nat) (n : Nat) : Prop := ∀ (e : Lx) (u : Int) (g : Nat) (w : World), Te n e w g → RowIn row A w g → Own w g 71 (evL u A row.length c) →
  Calls Try.prog 28 #[.pointer (some ⟨g, 0, none⟩), e.val] w fun x w' => x = .returned (ev row n e u).1.val ∧ Upd w w' g 71 (evL (ev row n e u).2 A row.length c)
theorem vbox (w : World) (x : Vl) : ∃ W, W = w.alloc (.cells #[.bool x.t, .int .i64 x.n, .string x.s] 24) ∧ Below w.heap.size w W ∧ W.heap.size = w.heap.size + 1 ∧ Own W w.heap.size 24 x.cells :=
  ⟨_, rfl, (Below.refl _ _).alloc (Nat.le_refl _) _, by simp, by have := Own.made w 24 x.cells; simpa [Vl.cells] using this⟩

theorem Upd.put {w w' : World} {g : Nat} {t : TypeId} {l : List Value} (h : Upd w w' g t l) {p : Addr} (hp : w.heap.size ≤ p.block) (hg : g < w.heap.size) (u : Value) : Upd w (w'.setCell p u) g t l :=
  ⟨h.own.other (by omega) u, ⟨h.grow.os, h.grow.tape, h.grow.output, by simpa using h.grow.size, fun k hk hne => (Below.heap_setCell w' p u k (by omega)).trans (h.grow.block k hk hne)⟩⟩
theorem Upd.put3 {w w' : World} {g N : Nat} {t : TypeId} {l : List Value} (h : Upd w w' g t l) (hp : w.heap.size ≤ N) (hg : g < w.heap.size) (x y z : Value) : Upd w (((w'.setCell ⟨N, 0, none⟩ x).setCell ⟨N, 1, none⟩ y).setCell ⟨N, 2, none⟩ z) g t l :=
  ((h.put (p := ⟨N, 0, none⟩) hp hg x).put (p := ⟨N, 1, none⟩) hp hg y).put (p := ⟨N, 2, none⟩) hp hg z

set_option maxRecDepth 100000 in
set_option maxHeartbeats 1600000 in
theorem column_any (row : List Vl) (A : Option Addr) (c : Nat) (u col : Int) (g : Nat) (w : World) (hr : RowIn row A w g) (ho : Own w g 71 (evL u A row.length c)) :
    Calls Try.prog 39 #[.pointer (some ⟨g, 0, none⟩), .int .i64 col] w fun x w' =>
      x = .returned ((if 0 ≤ col ∧ col < row.length then row.getD col.toNat default else Vl.zero).val) ∧ Upd w w' g 71 (evL (if 0 ≤ col ∧ col < row.length then u else fl u 1) A row.length c) := by
  have c0 := ho.at_ 0
  have c1 := ho.at_ 1
  have hg := ho.inside
  have hlen := hr.len
  unfold maxLen at hlen
  simp only [evL, List.getElem?_cons_zero, List.getElem?_cons_succ] at c0 c1
  obtain ⟨W, hW, fb, hs, fz⟩ := vbox w Vl.zero
  dsimp only [Vl.zero] at hW
  replace c0 := (fb.cell (p := ⟨g, 0, none⟩) hg).trans c0
  replace c1 := (fb.cell (p := ⟨g, 1, none⟩) hg).trans c1
  have z0 := fz.open_ 0
  have z1 := fz.open_ 1
  have z2 := fz.open_ 2
  have y0 := fz.at_ 0
  have y1 := fz.at_ 1
  have y2 := fz.at_ 2
  simp only [Vl.cells, Vl.zero, List.getElem?_cons_zero, List.getElem?_cons_succ] at y0 y1 y2
  have hzi := fz.inside
  have HW := Lib.hid (And.intro (Upd.after fb (Upd.same (ho.past fb hg))) fz)
  have hgw : g < W.heap.size := by omega
  by_cases h0 : 0 ≤ col
  · by_cases h1 : col < row.length
    · rw [if_pos ⟨h0, h1⟩, if_pos ⟨h0, h1⟩]
      obtain ⟨k, rfl⟩ : ∃ k : Nat, col = (k : Int) := ⟨col.toNat, by omega⟩
      have hk : k < row.length := by omega
      have hx : row[k]? = some row[k] := List.getElem?_eq_getElem hk
      have hd : row.getD (k : Int).toNat default = row[k] := by rw [Int.toNat_natCast, List.getD_eq_getElem?_getD, hx]; rfl
      obtain ⟨b, o, rfl, hB, hl⟩ := hr.vals (by omega)
      obtain ⟨d0, d1, d2⟩ := (hl k _ hx).past fb (by omega)
      have t1 : decide ((k : Int) < 0) = false := by simp
      have t2 : decide ((row.length : Int) ≤ (k : Int)) = false := by simp; omega
      rw [hd]
      generalize row[k] = x at *
      clear hr ho hx hd hl h0 fb fz
      unfold Vl.val
      go_enter Try.func39, Try.ntmps39
      go_upto_region 1 with fail
      rw [← hW]
      clear hW
      go_wp2_with fail
      obtain ⟨e0, e1, e2⟩ := HW.out.2.stored3 (.bool x.t) (.int .i64 x.n) (.string x.s)
      exact bodyPost_ret (v := .agg #[.bool x.t, .int .i64 x.n, .string x.s]) (by simp [results, Try.results39, go_sem, e0, e1, e2]) rfl ⟨rfl, HW.out.1.put3 (Nat.le_refl _) hg _ _ _⟩
    · have t1 : decide (col < 0) = false := by simpa using h0
      have t2 : decide ((row.length : Int) ≤ col) = true := by simpa using h1
      rw [if_neg (fun h => h1 h.2), if_neg (fun h => h1 h.2)]
      clear ho hr h0 h1 fb fz
      unfold Vl.val Vl.zero
      go_enter Try.func39, Try.ntmps39
      go_upto_region 1 with fail
      rw [← hW]
      clear hW
      go_wp2_with fail
      refine (fail_any g _ _ 1 _ _ HW.out.1.own).mono ?_
      rintro _ w3 ⟨rfl, u3⟩
      have y0 := (u3.other (k := w.heap.size) (by omega) HW.out.2).at_ 0
      have y1 := (u3.other (k := w.heap.size) (by omega) HW.out.2).at_ 1
      have y2 := (u3.other (k := w.heap.size) (by omega) HW.out.2).at_ 2
      have z0 := (u3.other (k := w.heap.size) (by omega) HW.out.2).open_ 0
      have z1 := (u3.other (k := w.heap.size) (by omega) HW.out.2).open_ 1
      have z2 := (u3.other (k := w.heap.size) (by omega) HW.out.2).open_ 2
      simp only [Vl.cells, Vl.zero, List.getElem?_cons_zero, List.getElem?_cons_succ] at y0 y1 y2
      have U3 := Lib.hid (And.intro (HW.out.1.trans u3) (u3.other (k := w.heap.size) (by omega) HW.out.2))
      clear u3 c0 c1
      go_wp2_with fail
      obtain ⟨e0, e1, e2⟩ := U3.out.2.stored3 (.bool false) (.int .i64 0) (.string ⟨#[]⟩)
      exact bodyPost_ret (v := .agg #[.bool false, .int .i64 0, .string ⟨#[]⟩]) (by simp [results, Try.results39, go_sem, e0, e1, e2]) rfl ⟨rfl, U3.out.1.put3 (Nat.le_refl _) hg _ _ _⟩
  · have t1 : decide (col < 0) = true := by simpa using h0
    rw [if_neg (fun h => h0 h.1), if_neg (fun h => h0 h.1)]
    clear ho hr h0 fb fz
    unfold Vl.val Vl.zero
    go_enter Try.func39, Try.ntmps39
    go_upto_region 1 with fail
    rw [← hW]
    clear hW
    go_wp2_with fail
    refine (fail_any g _ _ 1 _ _ HW.out.1.own).mono ?_
    rintro _ w3 ⟨rfl, u3⟩
    have y0 := (u3.other (k := w.heap.size) (by omega) HW.out.2).at_ 0
    have y1 := (u3.other (k := w.heap.size) (by omega) HW.out.2).at_ 1
    have y2 := (u3.other (k := w.heap.size) (by omega) HW.out.2).at_ 2
    have z0 := (u3.other (k := w.heap.size) (by omega) HW.out.2).open_ 0
    have z1 := (u3.other (k := w.heap.size) (by omega) HW.out.2).open_ 1
    have z2 := (u3.other (k := w.heap.size) (by omega) HW.out.2).open_ 2
    simp only [Vl.cells, Vl.zero, List.getElem?_cons_zero, List.getElem?_cons_succ] at y0 y1 y2
    have U3 := Lib.hid (And.intro (HW.out.1.trans u3) (u3.other (k := w.heap.size) (by omega) HW.out.2))
    clear u3 c0 c1
    go_wp2_with fail
    obtain ⟨e0, e1, e2⟩ := U3.out.2.stored3 (.bool false) (.int .i64 0) (.string ⟨#[]⟩)
    exact bodyPost_ret (v := .agg #[.bool false, .int .i64 0, .string ⟨#[]⟩]) (by simp [results, Try.results39, go_sem, e0, e1, e2]) rfl ⟨rfl, U3.out.1.put3 (Nat.le_refl _) hg _ _ _⟩
end Go.Proofs.Ytjidjpmdmcleoaa
namespace Go.Proofs.Ytjidjpmdmcleoaa
open Go Go.RowKit

theorem Upd.more {w w' : World} {g : Nat} {t : TypeId} {l : List Value} (h : Upd w w' g t l) (o : Obj) : Upd w (w'.alloc o) g t l := h.quiet ((Below.refl _ _).alloc (Nat.le_refl _) _)
theorem Upd.drew {w w' : World} {g : Nat} {t : TypeId} {l : List Value} (h : Upd w w' g t l) : Upd w w'.drew g t l := h.quiet (Below.refl _ _).drew
theorem ret_i64s {a b : Int} {u v : Int} {w w' : World} {g : Nat} {t : TypeId} {A : Option Addr} {n c : Nat} (h : a = b) (hu : u = v) (k : Upd w w' g t (evL u A n c)) : Ending.returned (.int .i64 a) = .returned (.int .i64 b) ∧ Upd w w' g t (evL v A n c) := by subst h hu; exact ⟨rfl, k⟩
set_option maxRecDepth 100000 in
set_option maxHeartbeats 1600000 in
theorem number2_any (row : List Vl) (A : Option Addr) (c n : Nat) (hE : EvC row A c n) (k : Lx) (u : Int) (g : Nat) (w : World) (ht : Te n k w g) (hr : RowIn row A w g) (ho : Own w g 71 (evL u A row.length c)) :
    Calls Try.prog 40 #[.pointer (some ⟨g, 0, none⟩), k.val] w fun x w' =>
      x = .returned (.int .i64 (nm (ev row n) k u).1) ∧ Upd w w' g 71 (evL (nm (ev row n) k u).2 A row.length c) := by
  have hg := ho.inside
  obtain ⟨W, hW, fb, hs, fk⟩ := lxbox w k
  have hcall := Lib.hid (hE k u g W (ht.past (fb.mono (by omega))) (hr.past (fb.mono (by omega))) (ho.past fb hg))
  have HW := Lib.hid (Upd.after fb (Upd.same (ho.past fb hg)))
  clear ht hr ho hE fk
  unfold nm
  unfold Lx.val at *
  unfold Vl.val at hcall
  generalize ev row n k u = p at *
  obtain ⟨⟨t, m, s⟩, u'⟩ := p
  dsimp only at *
  cases t
  all_goals
    go_enter Try.func40, Try.ntmps40
    go_wp2_with fail
    rw [← hW]
    refine hcall.out.mono ?_
    rintro _ w2 ⟨rfl, u2⟩
    have U2 := Lib.hid (HW.out.trans u2)
    clear u2
    have hg2 := U2.out.own.inside
    go_wp2_with fail
  · go_ret
    exact ret_i64s rfl (by simp) (U2.out.more _)
  · have U3 := Lib.hid (U2.out.more (.cells #[.bool true, .int .i64 m, .string s] 24))
    have fv := Own.made w2 24 [.bool true, .int .i64 m, .string s]
    refine (fail_any g _ _ 11 _ _ U3.out.own).mono ?_
    rintro _ w3 ⟨rfl, u3⟩
    have fv3 := u3.other (k := w2.heap.size) (by omega) fv
    have d1 := fv3.at_ 1
    simp only [List.getElem?_cons_zero, List.getElem?_cons_succ] at d1
    have U4 := Lib.hid (U3.out.trans u3)
    clear u3 fv fv3
    go_wp2_with fail
    go_ret
    exact ret_i64s rfl (by simp) U4.out
end Go.Proofs.Ytjidjpmdmcleoaa
