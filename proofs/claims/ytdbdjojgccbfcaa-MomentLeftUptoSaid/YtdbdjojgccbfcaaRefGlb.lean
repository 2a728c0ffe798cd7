/- The reference's bounds of a list of times. -/
import Derived.Test.YtdbdjojgccbfcaaBound
import Derived.Handy
namespace Go.Proofs.Ytdbdjojgccbfcaa
open Go Go.RowKit

theorem inf_self (x : Tm) : x.inf x = x := by simp [Tm.inf]
theorem glb_all (x : Tm) (l : List Tm) : (x :: l).foldl Tm.inf x = glb (x :: l) := by
  simp [glb, inf_self]

set_option maxRecDepth 100000 in
set_option maxHeartbeats 3200000 in
theorem refGlb_from (b o c : Nat) (x : Tm) (l : List Tm) (w : World) (hx0 : TmAt w b o x) (hB : b < w.heap.size) (hpos : 0 < l.length) (hl : ∀ (i : Nat) (t : Tm), l[i]? = some t → TmAt w b (o + i * 3) t) (hn : l.length ≤ maxLen) :
    Calls Try.prog 23 #[.slice (some ⟨b, o, none⟩) l.length c] w fun e w' => e = .returned (l.foldl Tm.inf x).val ∧ Below w.heap.size w w' := by
  have h00 : ((l.length : Int) == 0) = false := by simp; intro h; subst h; simp at hpos
  obtain ⟨x0, x1, x2⟩ := hx0
  have hz : (0 : Int) < (l.length : Int) := by omega
  unfold maxLen at hn
  have Hl := Lib.hid hl
  clear hl
  have i0 : ∀ (b c : Nat) w, (Instr.index 24 (.agg #[.int .u64 (b : Int), .int .u64 (c : Int)]) (.int .i64 0)).run Try.prog w = .ok (.int .u64 (b : Int)) w := fun _ _ _ => by kernel_rfl
  have i1 : ∀ (b c : Nat) w, (Instr.index 24 (.agg #[.int .u64 (b : Int), .int .u64 (c : Int)]) (.int .i64 1)).run Try.prog w = .ok (.int .u64 (c : Int)) w := fun _ _ _ => by kernel_rfl
  go_enter Try.func23, Try.ntmps23
  go_wp2_with fail
  go_loopw [17] (fun i wr => ∃ k : Nat, i = .int .i64 (k : Int) ∧ k ≤ l.length ∧ Below w.heap.size w wr ∧
      Own wr w.heap.size 26 [.int .u64 0, .int .u64 0, .int .u64 0] ∧ Own wr (w.heap.size + 1) 26 ((l.take k).foldl Tm.inf x).cells)
    (fun i _ => l.length - (intOf i).toNat)
  case atStart =>
    exact ⟨0, rfl, by omega, ((Below.refl _ _).alloc (Nat.le_refl _) _).alloc (by simp) _, (Own.made w _ _).more _, by have := Own.made (w.alloc (.cells #[.int .u64 0, .int .u64 0, .int .u64 0] 26)) 26 x.cells; simpa [Tm.cells] using this⟩
  case round =>
    obtain ⟨k, rfl, hk, hb, hr, hf⟩ := hrel
    have hs := hf.inside
    by_cases hlt : k < l.length
    · have hx : l[k]? = some l[k] := List.getElem?_eq_getElem hlt
      obtain ⟨c0, c1, c2⟩ := (Hl.out k _ hx).past hb hB
      have hsn := fold_take Tm.inf x _ l k hx
      generalize l[k] = s at *
      generalize hg : (l.take k).foldl Tm.inf x = g at *
      have f0 := hf.at_ 0
      have f1 := hf.at_ 1
      have f2 := hf.at_ 2
      have g0 := hf.open_ 0
      have g1 := hf.open_ 1
      have g2 := hf.open_ 2
      simp only [Tm.cells, List.getElem?_cons_zero, List.getElem?_cons_succ] at f0 f1 f2
      have HH := Lib.hid (And.intro hb (And.intro hr (And.intro hf (And.intro hsn (And.intro hx hg)))))
      have hB2 : b < wr.heap.size := by omega
      clear hb hr hf hsn hx hg
      go_wp2_with fail
      all_goals (go_rounds 3)
      all_goals
        obtain ⟨hb, hr, hf, hsn, hx, hg⟩ := HH.out
        go_roundw
        case rel =>
          refine ⟨k + 1, by go_num, by omega, ?_, ?_, ?_⟩
          · refine Below.alloc ?_ (by first | omega | (simp; omega)) _
            first | with_reducible exact hb | with_reducible exact hb.setCell (by simp) _ | with_reducible exact (hb.setCell (by simp) _).setCell (by simp) _ | with_reducible exact ((hb.setCell (by simp) _).setCell (by simp) _).setCell (by simp) _
          · refine Own.more ?_ _
            first | with_reducible exact hr | with_reducible exact hr.other (by simp) _ | with_reducible exact (hr.other (by simp) _).other (by simp) _ | with_reducible exact ((hr.other (by simp) _).other (by simp) _).other (by simp) _
          · rw [hsn]
            refine Own.more ?_ _
            apply own_of
            · first | with_reducible exact hf | with_reducible exact hf.set_ _ _ | with_reducible exact (hf.set_ _ _).set_ _ _ | with_reducible exact ((hf.set_ _ _).set_ _ _).set_ _ _
            · simp [Tm.cells, Tm.inf, List.set]; omega
        case measure => simp [intOf]; omega
    · have hk2 : k = l.length := by omega
      have f0 := hf.at_ 0
      have f1 := hf.at_ 1
      have f2 := hf.at_ 2
      have g0 := hr.open_ 0
      have g1 := hr.open_ 1
      have g2 := hr.open_ 2
      have e0 := hr.at_ 0
      have e1 := hr.at_ 1
      have e2 := hr.at_ 2
      subst hk2
      rw [List.take_length] at *
      generalize hg : l.foldl Tm.inf x = g at *
      obtain ⟨d0, d1, d2⟩ := hr.stored3 (.int .u64 (g.e : Int)) (.int .u64 (g.a : Int)) (.int .u64 (g.b : Int))
      have H1 := Lib.hid (And.intro hg (And.intro hb (And.intro d0 (And.intro d1 d2))))
      simp only [Tm.cells, List.getElem?_cons_zero, List.getElem?_cons_succ] at f0 f1 f2 e0 e1 e2
      clear hr hf hb d0 d1 d2 hg
      go_wp2_with fail
      obtain ⟨hg, hb, d0, d1, d2⟩ := H1.out
      refine bodyPost_ret (v := g.val) (by simp [results, Try.results23, go_sem, d0, d1, d2, Tm.val]) rfl ⟨congrArg (fun g : Tm => Ending.returned g.val) hg.symm, below_set3 hb (Nat.le_refl _) _ _ _⟩

set_option maxRecDepth 100000 in
set_option maxHeartbeats 400000 in
theorem refGlb_nil (A : Option Addr) (c : Nat) (w : World) :
    Calls Try.prog 23 #[.slice A 0 c] w fun e w' => e = .returned (Tm.mk 0 0 0).val ∧ Below w.heap.size w w' := by
  unfold Tm.val
  go_enter Try.func23, Try.ntmps23
  go_wp2_with fail
  refine bodyPost_ret (v := .agg #[.int .u64 0, .int .u64 0, .int .u64 0]) (by simp [results, Try.results23, go_sem]) rfl ⟨rfl, (Below.refl _ _).alloc (Nat.le_refl _) _⟩
theorem refGlb_any (A : Option Addr) (c : Nat) (l : List Tm) (w : World) (hl : Times w w.heap.size A l) (hn : l.length ≤ maxLen) :
    Calls Try.prog 23 #[.slice A l.length c] w fun e w' => e = .returned (glb l).val ∧ Below w.heap.size w w' := by
  cases l with
  | nil => exact refGlb_nil A c w
  | cons x l =>
    obtain ⟨b, o, rfl, hB, ht⟩ := hl (by simp)
    have := refGlb_from b o c x (x :: l) w (by simpa using ht 0 x rfl) hB (by simp) ht hn
    rwa [glb_all] at this
end Go.Proofs.Ytdbdjojgccbfcaa
