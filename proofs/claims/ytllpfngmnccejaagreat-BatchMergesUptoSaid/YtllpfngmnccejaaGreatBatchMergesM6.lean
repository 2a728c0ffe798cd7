/- Part 6 of the texts on which BatchMerges rests: facts and contracts. -/
import Derived.Test.YtllpfngmnccejaaGreatBatchMergesM5
import Derived.Handy
import Derived.Deep.AppendLies
import Derived.Deep.DeepCutAuto
import Derived.Shelf.SlSortCmp.NoneTotal
import Derived.Test.YtllpfngmnccejaaGreatSort
import Derived.BigQuiet
import Derived.Deep.QuietTactic
namespace Go.Proofs.YtllpfngmnccejaaGreat
open Go Go.RowKit

theorem fold_take {α : Type} (f : α → α → α) (x s : α) (l : List α) (k : Nat) (h : l[k]? = some s) : (l.take (k + 1)).foldl f x = f ((l.take k).foldl f x) s := by
  rw [List.take_add_one, h, List.foldl_append]; rfl

set_option maxRecDepth 100000 in
set_option maxHeartbeats 1600000 in
theorem bound_sup (b o c : Nat) (x : Tm) (l : List Tm) (w : World) (hx : TmAt w b o x) (hB : b < w.heap.size) (hl : ∀ (i : Nat) (t : Tm), l[i]? = some t → TmAt w b (o + 3 + i * 3) t) (hc : l.length + 1 ≤ c) (hn : c ≤ maxLen) :
    Calls Tryz.prog 167 #[.slice (some ⟨b, o, none⟩) (l.length + 1) c, .func (.func 104) #[] #[]] w
      fun e w' => e = .returned (l.foldl Tm.sup x).val ∧ Below w.heap.size w w' := by
  unfold maxLen at hn
  have Hl := Lib.hid hl
  clear hl
  obtain ⟨x0, x1, x2⟩ := hx
  have hcall := fun (s t : Tm) (W : World) => Lib.hid (each_greater s.a s.b t.a t.b W)
  have hB' : b < w.heap.size + 1 := by omega
  have hne0 : ¬ b = w.heap.size := by omega
  by_cases hc1 : c = 1
  · have hl0 : l = [] := List.eq_nil_of_length_eq_zero (by omega)
    subst hl0 hc1
    simp only [List.length_nil, Nat.zero_add, List.foldl_nil]
    unfold Tm.val
    go_enter Tryz.func167, Tryz.ntmps167
    go_wp2_with fail
    go_rounds 1
    refine bodyPost_ret (v := .agg #[.int .u64 (x.e : Int), .int .u64 (x.a : Int), .int .u64 (x.b : Int)]) (by simp [results, Tryz.results167, go_sem]) rfl ⟨rfl, ((Below.refl _ _).alloc (Nat.le_refl _) _).alloc (by simp) _⟩
  · have h10 : ((l.length : Int) + 1 == 0) = false := by simp; omega
    go_enter Tryz.func167, Tryz.ntmps167
    go_wp2_with fail
    go_loopw [18] (fun i wr => ∃ k : Nat, i = .int .i64 (k : Int) ∧ k ≤ l.length ∧ Below w.heap.size w wr ∧
        Own wr w.heap.size 46 [.int .u64 0, .int .u64 0, .int .u64 0] ∧ Own wr (w.heap.size + 1) 46 ((l.take k).foldl Tm.sup x).cells)
      (fun i _ => l.length - (intOf i).toNat)
    case atStart =>
      exact ⟨0, rfl, by omega, ((Below.refl _ _).alloc (Nat.le_refl _) _).alloc (by simp) _, (Own.made w _ _).more _, by have := Own.made (w.alloc (.cells #[.int .u64 0, .int .u64 0, .int .u64 0] 46)) 46 x.cells; simpa [Tm.cells] using this⟩
    case round =>
      obtain ⟨k, rfl, hk, hb, hr, hf⟩ := hrel
      have hs := hf.inside
      by_cases hlt : k < l.length
      · have hx : l[k]? = some l[k] := List.getElem?_eq_getElem hlt
        obtain ⟨c0, c1, c2⟩ := (Hl.out k _ hx).past hb hB
        have hsn := fold_take Tm.sup x _ l k hx
        generalize l[k] = s at *
        generalize hg : (l.take k).foldl Tm.sup x = g at *
        have f0 := hf.at_ 0
        have f1 := hf.at_ 1
        have f2 := hf.at_ 2
        have g0 := hf.open_ 0
        have g1 := hf.open_ 1
        have g2 := hf.open_ 2
        simp only [Tm.cells, List.getElem?_cons_zero, List.getElem?_cons_succ] at f0 f1 f2
        have HH := Lib.hid (And.intro hb (And.intro hr (And.intro hf (And.intro hsn (And.intro hx hg)))))
        clear hb hr hf hsn hx hg
        go_wp2_with fail
        refine (greater_any _ _ _).mono ?_
        rintro e w1 ⟨rfl, rfl⟩
        go_wp2_with fail
        refine (each_greater _ _ _ _ _).mono ?_
        rintro e w1 ⟨rfl, h1⟩
        have hf1 : Own w1 (w.heap.size + 1) 46 [.int .u64 ((max g.e s.e : Nat) : Int), .int .u64 (g.a : Int), .int .u64 (g.b : Int)] := ((HH.out.2.2.1.set_ 0 _).more _).past h1 (by simp; omega)
        have hr1 : Own w1 w.heap.size 46 [.int .u64 0, .int .u64 0, .int .u64 0] := ((HH.out.2.1.other (p := ⟨w.heap.size + 1, 0, none⟩) (by simp) _).more _).past h1 (by simp; omega)
        have hb1 : Below w.heap.size w w1 := ((HH.out.1.setCell (p := ⟨w.heap.size + 1, 0, none⟩) (by simp) _).alloc (by simp; omega) _).trans (h1.mono (by simp; omega))
        have k1 := hf1.open_ 1
        have k2 := hf1.open_ 2
        have k3 := hf1.at_ 1
        have k4 := hf1.at_ 2
        simp only [List.getElem?_cons_zero, List.getElem?_cons_succ] at k3 k4
        have H1 := Lib.hid (And.intro hf1 (And.intro hr1 hb1))
        clear hf1 hr1 hb1 h1
        go_wp2_with fail
        obtain ⟨hf1, hr1, hb1⟩ := H1.out
        obtain ⟨hb, hr, hf, hsn, hx, hg⟩ := HH.out
        go_roundw
        case rel => exact ⟨k + 1, by go_num, by omega, (hb1.setCell (p := ⟨w.heap.size + 1, 1, none⟩) (by simp) _).setCell (p := ⟨w.heap.size + 1, 2, none⟩) (by simp) _, (hr1.other (p := ⟨w.heap.size + 1, 1, none⟩) (by simp) _).other (p := ⟨w.heap.size + 1, 2, none⟩) (by simp) _, by rw [hsn]; exact (hf1.set_ 1 _).set_ 2 _⟩
        case measure => simp [intOf]; omega
      · have hk2 : k = l.length := by omega
        have f0 := hf.at_ 0
        have f1 := hf.at_ 1
        have f2 := hf.at_ 2
        have g0 := hr.open_ 0
        have g1 := hr.open_ 1
        have g2 := hr.open_ 2
        have e0 := hr.at_ 0
        have e1 := hr.at_ 1
        have e2 := hr.at_ 2
        subst hk2
        rw [List.take_length] at *
        generalize hg : l.foldl Tm.sup x = g at *
        obtain ⟨d0, d1, d2⟩ := hr.stored3 (.int .u64 (g.e : Int)) (.int .u64 (g.a : Int)) (.int .u64 (g.b : Int))
        have H1 := Lib.hid (And.intro hg (And.intro hb (And.intro d0 (And.intro d1 d2))))
        simp only [Tm.cells, List.getElem?_cons_zero, List.getElem?_cons_succ] at f0 f1 f2 e0 e1 e2
        clear hr hf hb d0 d1 d2 hg
        go_wp2_with fail
        obtain ⟨hg, hb, d0, d1, d2⟩ := H1.out
        refine bodyPost_ret (v := g.val) (by simp [results, Tryz.results167, go_sem, d0, d1, d2, Tm.val]) rfl ⟨congrArg (fun g : Tm => Ending.returned g.val) hg.symm, below_set3 hb (Nat.le_refl _) _ _ _⟩

set_option maxRecDepth 100000 in
set_option maxHeartbeats 1600000 in
theorem bound_inf (b o c : Nat) (x : Tm) (l : List Tm) (w : World) (hx : TmAt w b o x) (hB : b < w.heap.size) (hl : ∀ (i : Nat) (t : Tm), l[i]? = some t → TmAt w b (o + 3 + i * 3) t) (hc : l.length + 1 ≤ c) (hn : c ≤ maxLen) :
    Calls Tryz.prog 167 #[.slice (some ⟨b, o, none⟩) (l.length + 1) c, .func (.func 168) #[] #[]] w
      fun e w' => e = .returned (l.foldl Tm.inf x).val ∧ Below w.heap.size w w' := by
  unfold maxLen at hn
  have Hl := Lib.hid hl
  clear hl
  obtain ⟨x0, x1, x2⟩ := hx
  have hcall := fun (s t : Tm) (W : World) => Lib.hid (each_smaller s.a s.b t.a t.b W)
  have hB' : b < w.heap.size + 1 := by omega
  have hne0 : ¬ b = w.heap.size := by omega
  by_cases hc1 : c = 1
  · have hl0 : l = [] := List.eq_nil_of_length_eq_zero (by omega)
    subst hl0 hc1
    simp only [List.length_nil, Nat.zero_add, List.foldl_nil]
    unfold Tm.val
    go_enter Tryz.func167, Tryz.ntmps167
    go_wp2_with fail
    go_rounds 1
    refine bodyPost_ret (v := .agg #[.int .u64 (x.e : Int), .int .u64 (x.a : Int), .int .u64 (x.b : Int)]) (by simp [results, Tryz.results167, go_sem]) rfl ⟨rfl, ((Below.refl _ _).alloc (Nat.le_refl _) _).alloc (by simp) _⟩
  · have h10 : ((l.length : Int) + 1 == 0) = false := by simp; omega
    go_enter Tryz.func167, Tryz.ntmps167
    go_wp2_with fail
    go_loopw [18] (fun i wr => ∃ k : Nat, i = .int .i64 (k : Int) ∧ k ≤ l.length ∧ Below w.heap.size w wr ∧
        Own wr w.heap.size 46 [.int .u64 0, .int .u64 0, .int .u64 0] ∧ Own wr (w.heap.size + 1) 46 ((l.take k).foldl Tm.inf x).cells)
      (fun i _ => l.length - (intOf i).toNat)
    case atStart =>
      exact ⟨0, rfl, by omega, ((Below.refl _ _).alloc (Nat.le_refl _) _).alloc (by simp) _, (Own.made w _ _).more _, by have := Own.made (w.alloc (.cells #[.int .u64 0, .int .u64 0, .int .u64 0] 46)) 46 x.cells; simpa [Tm.cells] using this⟩
    case round =>
      obtain ⟨k, rfl, hk, hb, hr, hf⟩ := hrel
      have hs := hf.inside
      by_cases hlt : k < l.length
      · have hx : l[k]? = some l[k] := List.getElem?_eq_getElem hlt
        obtain ⟨c0, c1, c2⟩ := (Hl.out k _ hx).past hb hB
        have hsn := fold_take Tm.inf x _ l k hx
        generalize l[k] = s at *
        generalize hg : (l.take k).foldl Tm.inf x = g at *
        have f0 := hf.at_ 0
        have f1 := hf.at_ 1
        have f2 := hf.at_ 2
        have g0 := hf.open_ 0
        have g1 := hf.open_ 1
        have g2 := hf.open_ 2
        simp only [Tm.cells, List.getElem?_cons_zero, List.getElem?_cons_succ] at f0 f1 f2
        have HH := Lib.hid (And.intro hb (And.intro hr (And.intro hf (And.intro hsn (And.intro hx hg)))))
        clear hb hr hf hsn hx hg
        go_wp2_with fail
        refine (smaller_any _ _ _).mono ?_
        rintro e w1 ⟨rfl, rfl⟩
        go_wp2_with fail
        refine (each_smaller _ _ _ _ _).mono ?_
        rintro e w1 ⟨rfl, h1⟩
        have hf1 : Own w1 (w.heap.size + 1) 46 [.int .u64 ((min g.e s.e : Nat) : Int), .int .u64 (g.a : Int), .int .u64 (g.b : Int)] := ((HH.out.2.2.1.set_ 0 _).more _).past h1 (by simp; omega)
        have hr1 : Own w1 w.heap.size 46 [.int .u64 0, .int .u64 0, .int .u64 0] := ((HH.out.2.1.other (p := ⟨w.heap.size + 1, 0, none⟩) (by simp) _).more _).past h1 (by simp; omega)
        have hb1 : Below w.heap.size w w1 := ((HH.out.1.setCell (p := ⟨w.heap.size + 1, 0, none⟩) (by simp) _).alloc (by simp; omega) _).trans (h1.mono (by simp; omega))
        have k1 := hf1.open_ 1
        have k2 := hf1.open_ 2
        have k3 := hf1.at_ 1
        have k4 := hf1.at_ 2
        simp only [List.getElem?_cons_zero, List.getElem?_cons_succ] at k3 k4
        have H1 := Lib.hid (And.intro hf1 (And.intro hr1 hb1))
        clear hf1 hr1 hb1 h1
        go_wp2_with fail
        obtain ⟨hf1, hr1, hb1⟩ := H1.out
        obtain ⟨hb, hr, hf, hsn, hx, hg⟩ := HH.out
        go_roundw
        case rel => exact ⟨k + 1, by go_num, by omega, (hb1.setCell (p := ⟨w.heap.size + 1, 1, none⟩) (by simp) _).setCell (p := ⟨w.heap.size + 1, 2, none⟩) (by simp) _, (hr1.other (p := ⟨w.heap.size + 1, 1, none⟩) (by simp) _).other (p := ⟨w.heap.size + 1, 2, none⟩) (by simp) _, by rw [hsn]; exact (hf1.set_ 1 _).set_ 2 _⟩
        case measure => simp [intOf]; omega
      · have hk2 : k = l.length := by omega
        have f0 := hf.at_ 0
        have f1 := hf.at_ 1
        have f2 := hf.at_ 2
        have g0 := hr.open_ 0
        have g1 := hr.open_ 1
        have g2 := hr.open_ 2
        have e0 := hr.at_ 0
        have e1 := hr.at_ 1
        have e2 := hr.at_ 2
        subst hk2
        rw [List.take_length] at *
        generalize hg : l.foldl Tm.inf x = g at *
        obtain ⟨d0, d1, d2⟩ := hr.stored3 (.int .u64 (g.e : Int)) (.int .u64 (g.a : Int)) (.int .u64 (g.b : Int))
        have H1 := Lib.hid (And.intro hg (And.intro hb (And.intro d0 (And.intro d1 d2))))
        simp only [Tm.cells, List.getElem?_cons_zero, List.getElem?_cons_succ] at f0 f1 f2 e0 e1 e2
        clear hr hf hb d0 d1 d2 hg
        go_wp2_with fail
        obtain ⟨hg, hb, d0, d1, d2⟩ := H1.out
        refine bodyPost_ret (v := g.val) (by simp [results, Tryz.results167, go_sem, d0, d1, d2, Tm.val]) rfl ⟨congrArg (fun g : Tm => Ending.returned g.val) hg.symm, below_set3 hb (Nat.le_refl _) _ _ _⟩
/-- the least upper, the greatest lower bound of a list -/
def lub : List Tm → Tm | [] => ⟨0, 0, 0⟩ | x :: l => l.foldl Tm.sup x
def glb : List Tm → Tm | [] => ⟨0, 0, 0⟩ | x :: l => l.foldl Tm.inf x

set_option maxRecDepth 100000 in
set_option maxHeartbeats 400000 in
theorem bound_nil_lub (A : Option Addr) (c : Nat) (w : World) :
    Calls Tryz.prog 167 #[.slice A 0 c, .func (.func 104) #[] #[]] w fun e w' => e = .returned (Tm.mk 0 0 0).val ∧ Below w.heap.size w w' := by
  unfold Tm.val
  go_enter Tryz.func167, Tryz.ntmps167
  go_wp2_with fail
  refine bodyPost_ret (v := .agg #[.int .u64 0, .int .u64 0, .int .u64 0]) (by simp [results, Tryz.results167, go_sem]) rfl ⟨rfl, (Below.refl _ _).alloc (Nat.le_refl _) _⟩
theorem bound_any_lub (A : Option Addr) (c : Nat) (l : List Tm) (w : World) (hl : Times w w.heap.size A l) (hc : l.length ≤ c) (hn : c ≤ maxLen) :
    Calls Tryz.prog 167 #[.slice A l.length c, .func (.func 104) #[] #[]] w fun e w' => e = .returned (lub l).val ∧ Below w.heap.size w w' := by
  cases l with
  | nil => exact bound_nil_lub A c w
  | cons x l =>
    obtain ⟨b, o, rfl, hB, ht⟩ := hl (by simp)
    exact bound_sup b o c x l w (by simpa using ht 0 x rfl) hB (fun i t h => by have := ht (i + 1) t (by simpa using h); rwa [Nat.add_mul, Nat.one_mul, ← Nat.add_assoc, Nat.add_right_comm] at this) (by simpa using hc) hn
set_option maxRecDepth 100000 in
set_option maxHeartbeats 400000 in
theorem lub_any (A : Option Addr) (c : Nat) (l : List Tm) (w : World) (hl : Times w w.heap.size A l) (hc : l.length ≤ c) (hn : c ≤ maxLen) :
    Calls Tryz.prog 136 #[.slice A l.length c] w fun e w' => e = .returned (lub l).val ∧ Below w.heap.size w w' := by
  have hcall := Lib.hid (fun W h => bound_any_lub A c l W h hc hn)
  have Hl := Lib.hid hl
  clear hl
  generalize hr : lub l = r at hcall
  unfold Tm.val at hcall ⊢
  go_enter Tryz.func136, Tryz.ntmps136
  go_wp2_with fail
  refine (hcall.out _ ?_).mono ?_
  · exact (Hl.out.past ((Below.refl _ _).alloc (Nat.le_refl _) _) (Nat.le_refl _)).wide (by simp)
  rintro e w1 ⟨rfl, h1⟩
  have hr1 : Own w1 w.heap.size 46 [.int .u64 0, .int .u64 0, .int .u64 0] := (Own.made w _ _).past h1 (by simp)
  have g0 := hr1.open_ 0
  have g1 := hr1.open_ 1
  have g2 := hr1.open_ 2
  have e0 := hr1.at_ 0
  have e1 := hr1.at_ 1
  have e2 := hr1.at_ 2
  obtain ⟨d0, d1, d2⟩ := hr1.stored3 (.int .u64 (r.e : Int)) (.int .u64 (r.a : Int)) (.int .u64 (r.b : Int))
  simp only [List.getElem?_cons_zero, List.getElem?_cons_succ] at e0 e1 e2
  have H1 := Lib.hid (And.intro hr (And.intro h1 (And.intro d0 (And.intro d1 d2))))
  clear hr1 h1 d0 d1 d2 hr hcall
  go_wp2_with fail
  obtain ⟨hr, h1, d0, d1, d2⟩ := H1.out
  refine bodyPost_ret (v := r.val) (by simp [results, Tryz.results136, go_sem, d0, d1, d2, Tm.val]) rfl ⟨rfl, below_set3 (((Below.refl _ _).alloc (Nat.le_refl _) _).trans (h1.mono (by simp))) (Nat.le_refl _) _ _ _⟩

set_option maxRecDepth 100000 in
set_option maxHeartbeats 400000 in
theorem bound_nil_glb (A : Option Addr) (c : Nat) (w : World) :
    Calls Tryz.prog 167 #[.slice A 0 c, .func (.func 168) #[] #[]] w fun e w' => e = .returned (Tm.mk 0 0 0).val ∧ Below w.heap.size w w' := by
  unfold Tm.val
  go_enter Tryz.func167, Tryz.ntmps167
  go_wp2_with fail
  refine bodyPost_ret (v := .agg #[.int .u64 0, .int .u64 0, .int .u64 0]) (by simp [results, Tryz.results167, go_sem]) rfl ⟨rfl, (Below.refl _ _).alloc (Nat.le_refl _) _⟩
theorem bound_any_glb (A : Option Addr) (c : Nat) (l : List Tm) (w : World) (hl : Times w w.heap.size A l) (hc : l.length ≤ c) (hn : c ≤ maxLen) :
    Calls Tryz.prog 167 #[.slice A l.length c, .func (.func 168) #[] #[]] w fun e w' => e = .returned (glb l).val ∧ Below w.heap.size w w' := by
  cases l with
  | nil => exact bound_nil_glb A c w
  | cons x l =>
    obtain ⟨b, o, rfl, hB, ht⟩ := hl (by simp)
    exact bound_inf b o c x l w (by simpa using ht 0 x rfl) hB (fun i t h => by have := ht (i + 1) t (by simpa using h); rwa [Nat.add_mul, Nat.one_mul, ← Nat.add_assoc, Nat.add_right_comm] at this) (by simpa using hc) hn
set_option maxRecDepth 100000 in
set_option maxHeartbeats 400000 in
theorem glb_any (A : Option Addr) (c : Nat) (l : List Tm) (w : World) (hl : Times w w.heap.size A l) (hc : l.length ≤ c) (hn : c ≤ maxLen) :
    Calls Tryz.prog 137 #[.slice A l.length c] w fun e w' => e = .returned (glb l).val ∧ Below w.heap.size w w' := by
  have hcall := Lib.hid (fun W h => bound_any_glb A c l W h hc hn)
  have Hl := Lib.hid hl
  clear hl
  generalize hr : glb l = r at hcall
  unfold Tm.val at hcall ⊢
  go_enter Tryz.func137, Tryz.ntmps137
  go_wp2_with fail
  refine (hcall.out _ ?_).mono ?_
  · exact (Hl.out.past ((Below.refl _ _).alloc (Nat.le_refl _) _) (Nat.le_refl _)).wide (by simp)
  rintro e w1 ⟨rfl, h1⟩
  have hr1 : Own w1 w.heap.size 46 [.int .u64 0, .int .u64 0, .int .u64 0] := (Own.made w _ _).past h1 (by simp)
  have g0 := hr1.open_ 0
  have g1 := hr1.open_ 1
  have g2 := hr1.open_ 2
  have e0 := hr1.at_ 0
  have e1 := hr1.at_ 1
  have e2 := hr1.at_ 2
  obtain ⟨d0, d1, d2⟩ := hr1.stored3 (.int .u64 (r.e : Int)) (.int .u64 (r.a : Int)) (.int .u64 (r.b : Int))
  simp only [List.getElem?_cons_zero, List.getElem?_cons_succ] at e0 e1 e2
  have H1 := Lib.hid (And.intro hr (And.intro h1 (And.intro d0 (And.intro d1 d2))))
  clear hr1 h1 d0 d1 d2 hr hcall
  go_wp2_with fail
  obtain ⟨hr, h1, d0, d1, d2⟩ := H1.out
  refine bodyPost_ret (v := r.val) (by simp [results, Tryz.results137, go_sem, d0, d1, d2, Tm.val]) rfl ⟨rfl, below_set3 (((Below.refl _ _).alloc (Nat.le_refl _) _).trans (h1.mono (by simp))) (Nat.le_refl _) _ _ _⟩
end Go.Proofs.YtllpfngmnccejaaGreat
namespace Go.Proofs.YtllpfngmnccejaaGreat
open Go Go.RowKit

theorem lub_zero (l : List Tm) : l.foldl Tm.sup ⟨0, 0, 0⟩ = lub l := by
  cases l with
  | nil => rfl
  | cons x l => simp [lub, Tm.sup]
set_option maxRecDepth 100000 in
set_option maxHeartbeats 3200000 in
theorem refLub_any (A : Option Addr) (c : Nat) (l : List Tm) (w : World) (hl : Times w w.heap.size A l) (hn : l.length ≤ maxLen) :
    Calls Tryz.prog 129 #[.slice A l.length c] w fun e w' => e = .returned (lub l).val ∧ Below w.heap.size w w' := by
  rw [← lub_zero]
  unfold maxLen at hn
  have Hl := Lib.hid hl
  clear hl
  have i0 : ∀ (b c : Nat) w, (Instr.index 44 (.agg #[.int .u64 (b : Int), .int .u64 (c : Int)]) (.int .i64 0)).run Tryz.prog w = .ok (.int .u64 (b : Int)) w := fun _ _ _ => by kernel_rfl
  have i1 : ∀ (b c : Nat) w, (Instr.index 44 (.agg #[.int .u64 (b : Int), .int .u64 (c : Int)]) (.int .i64 1)).run Tryz.prog w = .ok (.int .u64 (c : Int)) w := fun _ _ _ => by kernel_rfl
  go_enter Tryz.func129, Tryz.ntmps129
  go_wp2_with fail
  go_loopw [11] (fun i wr => ∃ k : Nat, i = .int .i64 (k : Int) ∧ k ≤ l.length ∧ Below w.heap.size w wr ∧
      Own wr w.heap.size 46 [.int .u64 0, .int .u64 0, .int .u64 0] ∧ Own wr (w.heap.size + 1) 46 ((l.take k).foldl Tm.sup ⟨0, 0, 0⟩).cells)
    (fun i _ => l.length - (intOf i).toNat)
  case atStart =>
    exact ⟨0, rfl, by omega, ((Below.refl _ _).alloc (Nat.le_refl _) _).alloc (by simp) _, (Own.made w _ _).more _, by have := Own.made (w.alloc (.cells #[.int .u64 0, .int .u64 0, .int .u64 0] 46)) 46 [.int .u64 0, .int .u64 0, .int .u64 0]; simpa [Tm.cells] using this⟩
  case round =>
    obtain ⟨k, rfl, hk, hb, hr, hf⟩ := hrel
    have hs := hf.inside
    by_cases hlt : k < l.length
    · have hx : l[k]? = some l[k] := List.getElem?_eq_getElem hlt
      obtain ⟨b, o, rfl, hB, hl⟩ := Hl.out (by omega)
      obtain ⟨c0, c1, c2⟩ := (hl k _ hx).past hb hB
      have hsn := fold_take Tm.sup ⟨0, 0, 0⟩ _ l k hx
      generalize l[k] = s at *
      generalize hg : (l.take k).foldl Tm.sup ⟨0, 0, 0⟩ = g at *
      have f0 := hf.at_ 0
      have f1 := hf.at_ 1
      have f2 := hf.at_ 2
      have g0 := hf.open_ 0
      have g1 := hf.open_ 1
      have g2 := hf.open_ 2
      simp only [Tm.cells, List.getElem?_cons_zero, List.getElem?_cons_succ] at f0 f1 f2
      have HH := Lib.hid (And.intro hb (And.intro hr (And.intro hf (And.intro hsn (And.intro hx hg)))))
      have hB2 : b < wr.heap.size := by omega
      clear hb hr hf hsn hx hg hl
      go_wp2_with fail
      all_goals (go_rounds 3)
      all_goals
        obtain ⟨hb, hr, hf, hsn, hx, hg⟩ := HH.out
        go_roundw
        case rel =>
          refine ⟨k + 1, by go_num, by omega, ?_, ?_, ?_⟩
          · refine Below.alloc ?_ (by first | omega | (simp; omega)) _
            first | with_reducible exact hb | with_reducible exact hb.setCell (by simp) _ | with_reducible exact (hb.setCell (by simp) _).setCell (by simp) _ | with_reducible exact ((hb.setCell (by simp) _).setCell (by simp) _).setCell (by simp) _
          · refine Own.more ?_ _
            first | with_reducible exact hr | with_reducible exact hr.other (by simp) _ | with_reducible exact (hr.other (by simp) _).other (by simp) _ | with_reducible exact ((hr.other (by simp) _).other (by simp) _).other (by simp) _
          · rw [hsn]
            refine Own.more ?_ _
            apply own_of
            · first | with_reducible exact hf | with_reducible exact hf.set_ _ _ | with_reducible exact (hf.set_ _ _).set_ _ _ | with_reducible exact ((hf.set_ _ _).set_ _ _).set_ _ _
            · simp [Tm.cells, Tm.sup, List.set]; omega
        case measure => simp [intOf]; omega
    · have hk2 : k = l.length := by omega
      have f0 := hf.at_ 0
      have f1 := hf.at_ 1
      have f2 := hf.at_ 2
      have g0 := hr.open_ 0
      have g1 := hr.open_ 1
      have g2 := hr.open_ 2
      have e0 := hr.at_ 0
      have e1 := hr.at_ 1
      have e2 := hr.at_ 2
      subst hk2
      rw [List.take_length] at *
      generalize hg : l.foldl Tm.sup ⟨0, 0, 0⟩ = g at *
      obtain ⟨d0, d1, d2⟩ := hr.stored3 (.int .u64 (g.e : Int)) (.int .u64 (g.a : Int)) (.int .u64 (g.b : Int))
      have H1 := Lib.hid (And.intro hg (And.intro hb (And.intro d0 (And.intro d1 d2))))
      simp only [Tm.cells, List.getElem?_cons_zero, List.getElem?_cons_succ] at f0 f1 f2 e0 e1 e2
      clear hr hf hb d0 d1 d2 hg
      go_wp2_with fail
      obtain ⟨hg, hb, d0, d1, d2⟩ := H1.out
      refine bodyPost_ret (v := g.val) (by simp [results, Tryz.results129, go_sem, d0, d1, d2, Tm.val]) rfl ⟨congrArg (fun g : Tm => Ending.returned g.val) hg.symm, below_set3 hb (Nat.le_refl _) _ _ _⟩

end Go.Proofs.YtllpfngmnccejaaGreat
namespace Go.Proofs.YtllpfngmnccejaaGreat
open Go Go.RowKit

theorem inf_self (x : Tm) : x.inf x = x := by simp [Tm.inf]
theorem glb_all (x : Tm) (l : List Tm) : (x :: l).foldl Tm.inf x = glb (x :: l) := by
  simp [glb, inf_self]

set_option maxRecDepth 100000 in
set_option maxHeartbeats 3200000 in
theorem refGlb_from (b o c : Nat) (x : Tm) (l : List Tm) (w : World) (hx0 : TmAt w b o x) (hB : b < w.heap.size) (hpos : 0 < l.length) (hl : ∀ (i : Nat) (t : Tm), l[i]? = some t → TmAt w b (o + i * 3) t) (hn : l.length ≤ maxLen) :
    Calls Tryz.prog 130 #[.slice (some ⟨b, o, none⟩) l.length c] w fun e w' => e = .returned (l.foldl Tm.inf x).val ∧ Below w.heap.size w w' := by
  have h00 : ((l.length : Int) == 0) = false := by simp; intro h; subst h; simp at hpos
  obtain ⟨x0, x1, x2⟩ := hx0
  have hz : (0 : Int) < (l.length : Int) := by omega
  unfold maxLen at hn
  have Hl := Lib.hid hl
  clear hl
  have i0 : ∀ (b c : Nat) w, (Instr.index 44 (.agg #[.int .u64 (b : Int), .int .u64 (c : Int)]) (.int .i64 0)).run Tryz.prog w = .ok (.int .u64 (b : Int)) w := fun _ _ _ => by kernel_rfl
  have i1 : ∀ (b c : Nat) w, (Instr.index 44 (.agg #[.int .u64 (b : Int), .int .u64 (c : Int)]) (.int .i64 1)).run Tryz.prog w = .ok (.int .u64 (c : Int)) w := fun _ _ _ => by kernel_rfl
  go_enter Tryz.func130, Tryz.ntmps130
  go_wp2_with fail
  go_loopw [17] (fun i wr => ∃ k : Nat, i = .int .i64 (k : Int) ∧ k ≤ l.length ∧ Below w.heap.size w wr ∧
      Own wr w.heap.size 46 [.int .u64 0, .int .u64 0, .int .u64 0] ∧ Own wr (w.heap.size + 1) 46 ((l.take k).foldl Tm.inf x).cells)
    (fun i _ => l.length - (intOf i).toNat)
  case atStart =>
    exact ⟨0, rfl, by omega, ((Below.refl _ _).alloc (Nat.le_refl _) _).alloc (by simp) _, (Own.made w _ _).more _, by have := Own.made (w.alloc (.cells #[.int .u64 0, .int .u64 0, .int .u64 0] 46)) 46 x.cells; simpa [Tm.cells] using this⟩
  case round =>
    obtain ⟨k, rfl, hk, hb, hr, hf⟩ := hrel
    have hs := hf.inside
    by_cases hlt : k < l.length
    · have hx : l[k]? = some l[k] := List.getElem?_eq_getElem hlt
      obtain ⟨c0, c1, c2⟩ := (Hl.out k _ hx).past hb hB
      have hsn := fold_take Tm.inf x _ l k hx
      generalize l[k] = s at *
      generalize hg : (l.take k).foldl Tm.inf x = g at *
      have f0 := hf.at_ 0
      have f1 := hf.at_ 1
      have f2 := hf.at_ 2
      have g0 := hf.open_ 0
      have g1 := hf.open_ 1
      have g2 := hf.open_ 2
      simp only [Tm.cells, List.getElem?_cons_zero, List.getElem?_cons_succ] at f0 f1 f2
      have HH := Lib.hid (And.intro hb (And.intro hr (And.intro hf (And.intro hsn (And.intro hx hg)))))
      have hB2 : b < wr.heap.size := by omega
      clear hb hr hf hsn hx hg
      go_wp2_with fail
      all_goals (go_rounds 3)
      all_goals
        obtain ⟨hb, hr, hf, hsn, hx, hg⟩ := HH.out
        go_roundw
        case rel =>
          refine ⟨k + 1, by go_num, by omega, ?_, ?_, ?_⟩
          · refine Below.alloc ?_ (by first | omega | (simp; omega)) _
            first | with_reducible exact hb | with_reducible exact hb.setCell (by simp) _ | with_reducible exact (hb.setCell (by simp) _).setCell (by simp) _ | with_reducible exact ((hb.setCell (by simp) _).setCell (by simp) _).setCell (by simp) _
          · refine Own.more ?_ _
            first | with_reducible exact hr | with_reducible exact hr.other (by simp) _ | with_reducible exact (hr.other (by simp) _).other (by simp) _ | with_reducible exact ((hr.other (by simp) _).other (by simp) _).other (by simp) _
          · rw [hsn]
            refine Own.more ?_ _
            apply own_of
            · first | with_reducible exact hf | with_reducible exact hf.set_ _ _ | with_reducible exact (hf.set_ _ _).set_ _ _ | with_reducible exact ((hf.set_ _ _).set_ _ _).set_ _ _
            · simp [Tm.cells, Tm.inf, List.set]; omega
        case measure => simp [intOf]; omega
    · have hk2 : k = l.length := by omega
      have f0 := hf.at_ 0
      have f1 := hf.at_ 1
      have f2 := hf.at_ 2
      have g0 := hr.open_ 0
      have g1 := hr.open_ 1
      have g2 := hr.open_ 2
      have e0 := hr.at_ 0
      have e1 := hr.at_ 1
      have e2 := hr.at_ 2
      subst hk2
      rw [List.take_length] at *
      generalize hg : l.foldl Tm.inf x = g at *
      obtain ⟨d0, d1, d2⟩ := hr.stored3 (.int .u64 (g.e : Int)) (.int .u64 (g.a : Int)) (.int .u64 (g.b : Int))
      have H1 := Lib.hid (And.intro hg (And.intro hb (And.intro d0 (And.intro d1 d2))))
      simp only [Tm.cells, List.getElem?_cons_zero, List.getElem?_cons_succ] at f0 f1 f2 e0 e1 e2
      clear hr hf hb d0 d1 d2 hg
      go_wp2_with fail
      obtain ⟨hg, hb, d0, d1, d2⟩ := H1.out
      refine bodyPost_ret (v := g.val) (by simp [results, Tryz.results130, go_sem, d0, d1, d2, Tm.val]) rfl ⟨congrArg (fun g : Tm => Ending.returned g.val) hg.symm, below_set3 hb (Nat.le_refl _) _ _ _⟩

set_option maxRecDepth 100000 in
set_option maxHeartbeats 400000 in
theorem refGlb_nil (A : Option Addr) (c : Nat) (w : World) :
    Calls Tryz.prog 130 #[.slice A 0 c] w fun e w' => e = .returned (Tm.mk 0 0 0).val ∧ Below w.heap.size w w' := by
  unfold Tm.val
  go_enter Tryz.func130, Tryz.ntmps130
  go_wp2_with fail
  refine bodyPost_ret (v := .agg #[.int .u64 0, .int .u64 0, .int .u64 0]) (by simp [results, Tryz.results130, go_sem]) rfl ⟨rfl, (Below.refl _ _).alloc (Nat.le_refl _) _⟩
theorem refGlb_any (A : Option Addr) (c : Nat) (l : List Tm) (w : World) (hl : Times w w.heap.size A l) (hn : l.length ≤ maxLen) :
    Calls Tryz.prog 130 #[.slice A l.length c] w fun e w' => e = .returned (glb l).val ∧ Below w.heap.size w w' := by
  cases l with
  | nil => exact refGlb_nil A c w
  | cons x l =>
    obtain ⟨b, o, rfl, hB, ht⟩ := hl (by simp)
    have := refGlb_from b o c x (x :: l) w (by simpa using ht 0 x rfl) hB (by simp) ht hn
    rwa [glb_all] at this
end Go.Proofs.YtllpfngmnccejaaGreat
namespace Go.Proofs.YtllpfngmnccejaaGreat
open Go Go.RowKit
attribute [local go_sem ↓] Go.wp_at_zero Go.wp_at_succ

/-- t advanced to l -/
def adv (t : Tm) (l : List Tm) : Tm := match l with | [] => t | x :: l => l.foldl (fun a y => a.inf (t.sup y)) (t.sup x)
theorem adv_glb (t : Tm) (l : List Tm) (h : 0 < l.length) : adv t l = glb (l.map (t.sup ·)) := by
  cases l with
  | nil => simp at h
  | cons x l => simp [adv, glb, List.foldl_map]
/-- two times laid one behind the other in a block of their own -/
theorem times_two (w : World) (s t : Tm) : Times (w.alloc (.cells #[.int .u64 (s.e : Int), .int .u64 (s.a : Int), .int .u64 (s.b : Int), .int .u64 (t.e : Int), .int .u64 (t.a : Int), .int .u64 (t.b : Int)] 46)) (w.heap.size + 1) (some ⟨w.heap.size, 0, none⟩) [s, t] := by
  intro _
  refine ⟨_, _, rfl, by omega, fun i x hx => ?_⟩
  match i, hx with
  | 0, hx => obtain rfl : s = x := by simpa using hx
             exact ⟨by simp [go_sem], by simp [go_sem], by simp [go_sem]⟩
  | 1, hx => obtain rfl : t = x := by simpa using hx
             exact ⟨by simp [go_sem], by simp [go_sem], by simp [go_sem]⟩
theorem times_two' {w : World} {N : Nat} (s t : Tm) (hN : w.heap.size = N) : Times (w.alloc (.cells #[.int .u64 (s.e : Int), .int .u64 (s.a : Int), .int .u64 (s.b : Int), .int .u64 (t.e : Int), .int .u64 (t.a : Int), .int .u64 (t.b : Int)] 46)) (N + 1) (some ⟨N, 0, none⟩) [s, t] := hN ▸ times_two w s t
theorem fold_take2 {α β : Type} (f : β → α → β) (x : β) (s : α) (l : List α) (k : Nat) (h : l[k]? = some s) : (l.take (k + 1)).foldl f x = f ((l.take k).foldl f x) s := by
  rw [List.take_add_one, h, List.foldl_append]; rfl
theorem own_set3_other {w : World} {g h : Nat} {t : TypeId} {l : List Value} (o : Own w g t l) (hg : h ≠ g) (x y z : Value) : Own (((w.setCell ⟨h, 0, none⟩ x).setCell ⟨h, 1, none⟩ y).setCell ⟨h, 2, none⟩ z) g t l :=
  ((o.other (p := ⟨h, 0, none⟩) hg _).other (p := ⟨h, 1, none⟩) hg _).other (p := ⟨h, 2, none⟩) hg _
theorem own_drew {w : World} {g : Nat} {t : TypeId} {l : List Value} (o : Own w g t l) : Own w.drew g t l := o
theorem times_keep {a b : World} {A : Option Addr} {l : List Tm} (h : Times a a.heap.size A l) (hb : Below a.heap.size a b) : Times b b.heap.size A l := (h.past hb (Nat.le_refl _)).wide hb.size
theorem times_here {W : World} {B C : Nat} {A : Option Addr} {l : List Tm} (h : Times W B A l) (hB : B ≤ C) : Times W C A l := h.wide hB
theorem times_later {W : World} {o : Obj} {B C : Nat} {A : Option Addr} {l : List Tm} (h : Times W B A l) (hB : B ≤ C ∧ B ≤ W.heap.size) : Times (W.alloc o) C A l :=
  (h.past ((Below.refl _ _).alloc (Nat.le_refl _) _) hB.2).wide hB.1
theorem times_one (w : World) (s : Tm) : Times (w.alloc (.cells #[.int .u64 (s.e : Int), .int .u64 (s.a : Int), .int .u64 (s.b : Int)] 46)) (w.heap.size + 1) (some ⟨w.heap.size, 0, none⟩) [s] := by
  intro _
  refine ⟨_, _, rfl, by omega, fun i x hx => ?_⟩
  match i, hx with
  | 0, hx => obtain rfl : s = x := by simpa using hx
             exact ⟨by simp [go_sem], by simp [go_sem], by simp [go_sem]⟩

set_option maxRecDepth 100000 in
set_option maxHeartbeats 1600000 in
theorem advance_any (t : Tm) (A : Option Addr) (c : Nat) (l : List Tm) (w : World) (hl : Times w w.heap.size A l) (hc : l.length ≤ c) (hn : c ≤ maxLen) :
    Calls Tryz.prog 92 #[t.val, .slice A l.length c] w fun e w' => e = .returned (adv t l).val ∧ Below w.heap.size w w' := by
  cases l with
  | nil =>
    unfold Tm.val adv
    go_enter Tryz.func92, Tryz.ntmps92
    go_wp2_with fail
    refine bodyPost_ret (v := .agg #[.int .u64 (t.e : Int), .int .u64 (t.a : Int), .int .u64 (t.b : Int)]) (by simp [results, Tryz.results92, go_sem]) rfl ⟨rfl, ?_⟩
    exact ((Below.refl _ _).alloc (Nat.le_refl _) _).alloc (by simp) _
  | cons x l =>
    obtain ⟨b, o, rfl, hB, hl⟩ := hl (by simp)
    obtain ⟨x0, x1, x2⟩ := hl 0 x rfl
    rw [Nat.zero_mul, Nat.add_zero] at x0 x1 x2
    unfold maxLen at hn
    rw [List.length_cons] at hc ⊢
    have h10 : ((l.length : Int) + 1 == 0) = false := by simp; omega
    have hz : (0 : Int) < (l.length : Int) + 1 := by omega
    have Hl := Lib.hid hl
    clear hl
    have hglb := fun (s t : Tm) A W h => Lib.hid (glb_any A 2 [s, t] W h (by simp) (by unfold maxLen; omega))
    have hlub := fun (s t : Tm) A W h => Lib.hid (lub_any A 2 [s, t] W h (by simp) (by unfold maxLen; omega))
    unfold Tm.val at hlub hglb ⊢
    go_enter Tryz.func92, Tryz.ntmps92
    go_upto_region 3 with fail
    go_cut [5] (fun s5 wx => ∃ G : Nat, s5 = .pointer (some ⟨G, 0, none⟩) ∧ Below w.heap.size w wx ∧ Own wx w.heap.size 46 t.cells ∧ Own wx (w.heap.size + 1) 46 [.int .u64 0, .int .u64 0, .int .u64 0] ∧
        Own wx G 46 (t.sup x).cells ∧ w.heap.size + 1 < G)
    case first =>
      have f : Below w.heap.size w ((w.alloc (.cells #[.int .u64 (t.e : Int), .int .u64 (t.a : Int), .int .u64 (t.b : Int)] 46)).alloc (.cells #[.int .u64 0, .int .u64 0, .int .u64 0] 46)) ∧
          Own ((w.alloc (.cells #[.int .u64 (t.e : Int), .int .u64 (t.a : Int), .int .u64 (t.b : Int)] 46)).alloc (.cells #[.int .u64 0, .int .u64 0, .int .u64 0] 46)) w.heap.size 46 t.cells ∧
          Own ((w.alloc (.cells #[.int .u64 (t.e : Int), .int .u64 (t.a : Int), .int .u64 (t.b : Int)] 46)).alloc (.cells #[.int .u64 0, .int .u64 0, .int .u64 0] 46)) (w.heap.size + 1) 46 [.int .u64 0, .int .u64 0, .int .u64 0] :=
        ⟨((Below.refl _ _).alloc (Nat.le_refl _) _).alloc (by simp) _, by have := (Own.made w 46 t.cells).more (.cells #[.int .u64 0, .int .u64 0, .int .u64 0] 46); simpa [Tm.cells] using this, by
          have := Own.made (w.alloc (.cells #[.int .u64 (t.e : Int), .int .u64 (t.a : Int), .int .u64 (t.b : Int)] 46)) 46 [.int .u64 0, .int .u64 0, .int .u64 0]; simpa using this⟩
      generalize (w.alloc (.cells #[.int .u64 (t.e : Int), .int .u64 (t.a : Int), .int .u64 (t.b : Int)] 46)).alloc (.cells #[.int .u64 0, .int .u64 0, .int .u64 0] 46) = W at f ⊢
      obtain ⟨fb, ft, fr⟩ := f
      replace x0 := (fb.cell (p := ⟨b, o, none⟩) hB).trans x0
      replace x1 := (fb.cell (p := ⟨b, o + 1, none⟩) hB).trans x1
      replace x2 := (fb.cell (p := ⟨b, o + 2, none⟩) hB).trans x2
      have t0 := ft.at_ 0
      have t1 := ft.at_ 1
      have t2 := ft.at_ 2
      simp only [Tm.cells, List.getElem?_cons_zero, List.getElem?_cons_succ] at t0 t1 t2
      have hsz := fr.inside
      have ne1 := World.new_ne W _ x0
      have ne2 := World.new_ne W _ x1
      have ne3 := World.new_ne W _ x2
      have ne4 := World.new_ne W _ t0
      have ne5 := World.new_ne W _ t1
      have ne6 := World.new_ne W _ t2
      have HH := Lib.hid (And.intro fb (And.intro ft fr))
      have hB0 := hB
      have hBW : b < W.heap.size := by omega
      have hNW : w.heap.size < W.heap.size := by omega
      clear fb ft fr
      go_region_held3 (fun w' => w'.cell? ⟨w.heap.size, 0, none⟩ = some (.int .u64 (t.e : Int)) ∧ w'.cell? ⟨w.heap.size, 1, none⟩ = some (.int .u64 (t.a : Int)) ∧ w'.cell? ⟨w.heap.size, 2, none⟩ = some (.int .u64 (t.b : Int)) ∧
          w'.cell? ⟨b, o, none⟩ = some (.int .u64 (x.e : Int)) ∧ w'.cell? ⟨b, o + 1, none⟩ = some (.int .u64 (x.a : Int)) ∧ w'.cell? ⟨b, o + 2, none⟩ = some (.int .u64 (x.b : Int)))
        (first | go_keep | (((try dsimp only); (repeat' apply And.intro)) <;> (refine (Below.cell (w := W) (B := W.heap.size) ?_ (by first | exact hNW | exact hBW)).trans (by assumption); repeat (first | exact Below.refl _ _ | refine Below.drew ?_ | refine Below.alloc ?_ (by first | (simp; done) | (simp; omega) | (have hz := hb.size; simp at hz; simp; omega) | (have hz := hb.size; simp at hz; omega)) _ | refine Below.setCell ?_ (by first | (simp; done) | (simp; omega) | (have hz := hb.size; simp at hz; simp; omega) | (have hz := hb.size; simp at hz; omega)) _ | refine below_then ?_ (by first | (simp; done) | (simp; omega) | (have hz := hb.size; simp at hz; simp; omega) | (have hz := hb.size; simp at hz; omega)) hb))))
        (first | (go_at_call 136; refine (hlub t x _ _ ?_).out.mono ?_; (first | exact times_here (times_two' _ _ (by simp)) (by simp) | exact times_later (times_two' _ _ (by simp)) (by simp)); rintro e w1 ⟨rfl, hb⟩; obtain ⟨hcc, hff⟩ := olds hb))
      all_goals
        go_wp2_with fail
        go_meet
        have h1 : Below W.heap.size W w1 := by
          refine below_then ?_ (by simp) hb
          repeat (first | exact Below.refl _ _ | refine Below.drew ?_ | refine Below.alloc ?_ (by first | (simp; done) | (simp; omega)) _)
        obtain ⟨fb, ft, fr⟩ := HH.out
        have hbW : Below w.heap.size w w1 := fb.trans (h1.mono (by omega))
        have ft' := ft.past h1 hNW
        have fr' := fr.past h1 hsz
        have hz1 := h1.size
      · exact ⟨_, rfl, hbW.alloc hbW.size _, ft'.more _, fr'.more _, Own.made w1 _ (t.sup x).cells, by omega⟩
      · have hg : Own w1 (W.heap.size + 1) 46 [.int .u64 0, .int .u64 0, .int .u64 0] := by
          refine Own.past ?_ hb (by simp)
          have := (Own.made (W.alloc (.cells #[.int .u64 (t.e : Int), .int .u64 (t.a : Int), .int .u64 (t.b : Int), .int .u64 (x.e : Int), .int .u64 (x.a : Int), .int .u64 (x.b : Int)] 46)) 46 [.int .u64 0, .int .u64 0, .int .u64 0])
          simp only [World.size_alloc] at this
          exact this.draws 1
        exact ⟨_, rfl, below_set3 hbW (by omega) _ _ _, own_set3_other ft' (by omega) _ _ _, own_set3_other fr' (by omega) _ _ _, ((hg.set_ 0 _).set_ 1 _).set_ 2 _, by omega⟩
      · have hg : Own w1 W.heap.size 46 [.int .u64 0, .int .u64 0, .int .u64 0] := by
          refine Own.past ?_ hb (by simp; omega)
          exact ((Own.made W 46 [.int .u64 0, .int .u64 0, .int .u64 0]).more _).draws 1
        exact ⟨_, rfl, below_set3 hbW (by omega) _ _ _, own_set3_other ft' (by omega) _ _ _, own_set3_other fr' (by omega) _ _ _, ((hg.set_ 0 _).set_ 1 _).set_ 2 _, by omega⟩
    case rest =>
      obtain ⟨G, rfl, fb, ft, fr, fg, hG⟩ := hcut
      by_cases hc1 : c = 1
      · have hl0 : l = [] := List.eq_nil_of_length_eq_zero (by omega)
        subst hl0 hc1
        have f0 := fg.at_ 0
        have f1 := fg.at_ 1
        have f2 := fg.at_ 2
        have g0 := fr.open_ 0
        have g1 := fr.open_ 1
        have g2 := fr.open_ 2
        have e0 := fr.at_ 0
        have e1 := fr.at_ 1
        have e2 := fr.at_ 2
        generalize hg : t.sup x = g at *
        obtain ⟨d0, d1, d2⟩ := fr.stored3 (.int .u64 (g.e : Int)) (.int .u64 (g.a : Int)) (.int .u64 (g.b : Int))
        have H1 := Lib.hid (And.intro hg (And.intro fb (And.intro d0 (And.intro d1 d2))))
        simp only [Tm.cells, List.getElem?_cons_zero, List.getElem?_cons_succ] at f0 f1 f2 e0 e1 e2
        clear ft fr fg fb d0 d1 d2 hg
        go_wp2_with fail
        go_rounds 1
        obtain ⟨hg, hb, d0, d1, d2⟩ := H1.out
        refine bodyPost_ret (v := g.val) (by simp [results, Tryz.results92, go_sem, d0, d1, d2, Tm.val]) rfl ⟨congrArg (fun g : Tm => Ending.returned g.val) hg.symm, below_set3 hb (by omega) _ _ _⟩
      · have HH := Lib.hid (And.intro fb (And.intro ft (And.intro fr fg)))
        clear fb ft fr fg
        go_wp2_with fail
        go_loopw [21] (fun i wr => ∃ k : Nat, i = .int .i64 (k : Int) ∧ k ≤ l.length ∧ Below w.heap.size w wr ∧ Own wr w.heap.size 46 t.cells ∧ Own wr (w.heap.size + 1) 46 [.int .u64 0, .int .u64 0, .int .u64 0] ∧
            Own wr G 46 ((l.take k).foldl (fun a y => a.inf (t.sup y)) (t.sup x)).cells)
          (fun i _ => l.length - (intOf i).toNat)
        case atStart =>
          obtain ⟨fb, ft, fr, fg⟩ := HH.out
          exact ⟨0, rfl, by omega, fb, ft, fr, fg⟩
        case round =>
          obtain ⟨k, rfl, hk, fb, ft, fr, fg⟩ := hrel
          have hsz := fg.inside
          by_cases hlt : k < l.length
          · have hx : l[k]? = some l[k] := List.getElem?_eq_getElem hlt
            obtain ⟨c0, c1, c2⟩ := (Hl.out (k + 1) l[k] (by rw [List.getElem?_cons_succ]; exact hx)).past fb hB
            rw [show o + (k + 1) * 3 = o + 3 + k * 3 by omega] at c0 c1 c2
            have hsn := fold_take2 (fun a y => Tm.inf a (t.sup y)) (t.sup x) _ l k hx
            generalize l[k] = y at *
            generalize hg : (l.take k).foldl (fun a y => Tm.inf a (t.sup y)) (t.sup x) = g at *
            have t0 := ft.at_ 0
            have t1 := ft.at_ 1
            have t2 := ft.at_ 2
            have f0 := fg.at_ 0
            have f1 := fg.at_ 1
            have f2 := fg.at_ 2
            have g0 := fg.open_ 0
            have g1 := fg.open_ 1
            have g2 := fg.open_ 2
            simp only [Tm.cells, List.getElem?_cons_zero, List.getElem?_cons_succ] at t0 t1 t2 f0 f1 f2
            have HR := Lib.hid (And.intro fb (And.intro ft (And.intro fr (And.intro fg (And.intro hsn (And.intro hx hg))))))
            have hB2 : b < wr.heap.size := by have := fb.size; omega
            have hN2 : w.heap.size < wr.heap.size := by omega
            clear fb ft fr fg hsn hx hg
            go_wp2_with fail
            go_region_with (first | (go_at_call 136; refine (hlub t y _ _ ?_).out.mono ?_; (exact times_here (times_two' _ _ (by simp)) (by simp)); rintro e w1 ⟨rfl, hb⟩; have hz1 := hb.size; simp only [World.size_alloc, World.size_drew] at hz1; obtain ⟨hcc, hff⟩ := olds hb; have hf1 : Own w1 G 46 g.cells := (by refine Own.past ?_ hb (by simp; omega); repeat (first | exact HR.out.2.2.2.1 | refine own_drew ?_ | refine Own.more ?_ _)); have r0 := hf1.at_ 0; have r1 := hf1.at_ 1; have r2 := hf1.at_ 2; simp only [Tm.cells, List.getElem?_cons_zero, List.getElem?_cons_succ] at r0 r1 r2; have hf1 := Lib.hid hf1) | (go_at_call 137; refine (hglb g (lub [t, y]) _ _ ?_).out.mono ?_; (exact times_here (times_two' _ _ (by simp)) (by simp)); rintro e w2 ⟨rfl, hb2⟩; have hf2 : Own w2 G 46 g.cells := (by refine Own.past ?_ hb2 (by simp; omega); repeat (first | exact hf1.out | refine own_drew ?_ | refine Own.more ?_ _)); have s0 := hf2.open_ 0; have s1 := hf2.open_ 1; have s2 := hf2.open_ 2; have r0 := hf2.at_ 0; have r1 := hf2.at_ 1; have r2 := hf2.at_ 2; simp only [Tm.cells, List.getElem?_cons_zero, List.getElem?_cons_succ] at r0 r1 r2; have hf2 := Lib.hid hf2))
            all_goals
              go_wp2_with fail
              obtain ⟨fb, ft, fr, fg, hsn, hx, hg⟩ := HR.out
              have h1 : Below wr.heap.size wr w1 := by
                refine below_then ?_ (by simp) hb
                repeat (first | exact Below.refl _ _ | refine Below.drew ?_ | refine Below.alloc ?_ (by first | (simp; done) | (simp; omega)) _)
              have h2 : Below wr.heap.size wr w2 := by
                refine below_then ?_ (by simp) hb2
                repeat (first | exact h1 | refine Below.drew ?_ | refine Below.alloc ?_ (by first | exact h1.size | (simp; done) | (simp; omega)) _)
              go_roundw
              case rel => exact ⟨k + 1, by go_num, by omega, below_set3 (fb.trans (h2.mono fb.size)) (by omega) _ _ _, own_set3_other (ft.past h2 (by omega)) (by omega) _ _ _, own_set3_other (fr.past h2 (by omega)) (by omega) _ _ _, by rw [hsn]; exact ((hf2.out.set_ 0 _).set_ 1 _).set_ 2 _⟩
              case measure => simp [intOf]; omega
          · have hk2 : k = l.length := by omega
            have f0 := fg.at_ 0
            have f1 := fg.at_ 1
            have f2 := fg.at_ 2
            have g0 := fr.open_ 0
            have g1 := fr.open_ 1
            have g2 := fr.open_ 2
            have e0 := fr.at_ 0
            have e1 := fr.at_ 1
            have e2 := fr.at_ 2
            subst hk2
            rw [List.take_length] at *
            generalize hg : l.foldl (fun a y => Tm.inf a (t.sup y)) (t.sup x) = g at *
            obtain ⟨d0, d1, d2⟩ := fr.stored3 (.int .u64 (g.e : Int)) (.int .u64 (g.a : Int)) (.int .u64 (g.b : Int))
            have H1 := Lib.hid (And.intro hg (And.intro fb (And.intro d0 (And.intro d1 d2))))
            simp only [Tm.cells, List.getElem?_cons_zero, List.getElem?_cons_succ] at f0 f1 f2 e0 e1 e2
            clear ft fr fg fb d0 d1 d2 hg
            go_wp2_with fail
            obtain ⟨hg, hb, d0, d1, d2⟩ := H1.out
            refine bodyPost_ret (v := g.val) (by simp [results, Tryz.results92, go_sem, d0, d1, d2, Tm.val]) rfl ⟨congrArg (fun g : Tm => Ending.returned g.val) hg.symm, below_set3 hb (by omega) _ _ _⟩
end Go.Proofs.YtllpfngmnccejaaGreat
namespace Go.Proofs.YtllpfngmnccejaaGreat
open Go Go.RowKit

theorem infoTm : (Tryz.prog.info? 46).map (fun i => (i.zero, i.size, i.bytes)) = some (some (Tm.mk 0 0 0).val, 3, 24) := by kernel_rfl
theorem flat_at : ∀ (l : List Tm) (i : Nat) (t : Tm), l[i]? = some t → (l.flatMap Tm.cells)[i * 3]? = some (.int .u64 (t.e : Int)) ∧ (l.flatMap Tm.cells)[i * 3 + 1]? = some (.int .u64 (t.a : Int)) ∧ (l.flatMap Tm.cells)[i * 3 + 2]? = some (.int .u64 (t.b : Int))
  | [], i, t, h => by simp at h
  | x :: l, 0, t, h => by
    obtain rfl : x = t := by simpa using h
    simp [Tm.cells]
  | x :: l, i + 1, t, h => by
    have ih := flat_at l i t (by simpa using h)
    simp only [List.flatMap_cons, Tm.cells, show (i + 1) * 3 = i * 3 + 3 by omega, show i * 3 + 3 + 1 = i * 3 + 1 + 3 by omega, show i * 3 + 3 + 2 = i * 3 + 2 + 3 by omega]
    simpa using ih
theorem flat_len (l : List Tm) : (l.flatMap Tm.cells).length = l.length * 3 := by
  induction l with
  | nil => rfl
  | cons x l ih => rw [List.flatMap_cons, List.length_append, ih, List.length_cons]; simp [Tm.cells]; omega
theorem flatT_snoc (l : List Tm) (t : Tm) : l.flatMap Tm.cells ++ #[Value.int .u64 (t.e : Int), .int .u64 (t.a : Int), .int .u64 (t.b : Int)].toList = (l ++ [t]).flatMap Tm.cells := by
  simp [Tm.cells]
theorem times_of_own {w : World} {base : Nat} {v : Value} {l : List Tm} {n : Nat} (hn : n = l.length) (h : w.ownsRow base 46 3 v n (l.flatMap Tm.cells)) :
    ∃ A c, v = .slice A l.length c ∧ l.length ≤ c ∧ c ≤ maxLen ∧ Times w w.heap.size A l := by
  subst hn
  rcases h.2 with ⟨rfl, h0⟩ | ⟨g, cap, cur, rfl, hb, hg, h1, h2, h3, h4⟩
  · exact ⟨none, 0, by rw [h0], by omega, by omega, fun h => by omega⟩
  · refine ⟨_, cap, rfl, h1, h2, fun _ => ⟨g, 0, rfl, (Array.getElem?_eq_some_iff.1 hg).1, fun i t hi => ?_⟩⟩
    have hil : i < l.length := (List.getElem?_eq_some_iff.1 hi).1
    obtain ⟨a0, a1, a2⟩ := flat_at l i t hi
    have hc : ∀ j, j < l.length * 3 → w.cell? ⟨g, 0 + j, none⟩ = (l.flatMap Tm.cells)[j]? := fun j hj => by rw [Nat.zero_add]; exact h.cellAt j hj
    exact ⟨(hc _ (by omega)).trans a0, by rw [Nat.add_assoc]; exact (hc _ (by omega)).trans a1, by rw [Nat.add_assoc]; exact (hc _ (by omega)).trans a2⟩
end Go.Proofs.YtllpfngmnccejaaGreat
namespace Go.Proofs.YtllpfngmnccejaaGreat
open Go Go.RowKit Go.Sort Go.Lib

theorem ltT (x y : Tm) : ltOf Tm.cmp x y = decide (x.e < y.e ∨ x.e = y.e ∧ (x.a < y.a ∨ x.a = y.a ∧ x.b < y.b)) := by
  unfold ltOf Tm.cmp Tm.cmpN
  rw [decide_eq_decide]
  repeat' split
  all_goals omega
theorem swoT : SWO (ltOf Tm.cmp) where
  irrefl x := by rw [ltT]; simp
  trans x y z h1 h2 := by rw [ltT] at *; simp at *; omega
  ntrans x y z h1 h2 := by rw [ltT] at *; simp at *; omega
theorem totT (x y : Tm) (h1 : ltOf Tm.cmp x y = false) (h2 : ltOf Tm.cmp y x = false) : x = y := by
  rw [ltT] at *
  simp at *
  obtain ⟨a, b, c⟩ := x
  obtain ⟨d, e, f⟩ := y
  simp at *
  omega
/-- sorted in the line of times -/
def sortT (l : List Tm) : List Tm := l.mergeSort fun x y => !(ltOf Tm.cmp) y x
theorem sortT_len (l : List Tm) : (sortT l).length = l.length := List.length_mergeSort _
theorem mem_sortT {l : List Tm} {t : Tm} : t ∈ sortT l ↔ t ∈ l := List.mem_mergeSort
theorem sortT_sorted (l : List Tm) : (sortT l).Pairwise fun x y => ltOf Tm.cmp y x = false := by
  have h := List.pairwise_mergeSort (le := fun x y => !(ltOf Tm.cmp) y x) (fun a b c h1 h2 => by
    simp only [Bool.not_eq_true'] at *; exact swoT.ntrans _ _ _ h2 h1) (fun a b => by
    simp only [Bool.or_eq_true, Bool.not_eq_true', ltT]; simp; omega) l
  exact h.imp fun h => by simpa using h
end Go.Proofs.YtllpfngmnccejaaGreat
namespace Go.Proofs.YtllpfngmnccejaaGreat
open Go Go.RowKit Go.Sort Go.Lib

theorem flat_inv : ∀ (l : List Tm) (j : Nat) (u : Value), (l.flatMap Tm.cells)[j]? = some u → ∃ i t, l[i]? = some t ∧ ((j = i * 3 ∧ u = .int .u64 (t.e : Int)) ∨ (j = i * 3 + 1 ∧ u = .int .u64 (t.a : Int)) ∨ (j = i * 3 + 2 ∧ u = .int .u64 (t.b : Int)))
  | [], j, u, h => by simp at h
  | x :: l, 0, u, h => ⟨0, x, rfl, .inl ⟨rfl, by simpa [Tm.cells] using h.symm⟩⟩
  | x :: l, 1, u, h => ⟨0, x, rfl, .inr (.inl ⟨rfl, by simpa [Tm.cells] using h.symm⟩)⟩
  | x :: l, 2, u, h => ⟨0, x, rfl, .inr (.inr ⟨rfl, by simpa [Tm.cells] using h.symm⟩)⟩
  | x :: l, j + 3, u, h => by
    obtain ⟨i, t, hi, hc⟩ := flat_inv l j u (by simpa [Tm.cells] using h)
    refine ⟨i + 1, t, by simpa using hi, ?_⟩
    rcases hc with ⟨h1, h2⟩ | ⟨h1, h2⟩ | ⟨h1, h2⟩
    · exact .inl ⟨by omega, h2⟩
    · exact .inr (.inl ⟨by omega, h2⟩)
    · exact .inr (.inr ⟨by omega, h2⟩)
theorem flat_one (l : List Tm) : ∀ u ∈ l.flatMap Tm.cells, u.oneCell' = true := by
  intro u hu
  obtain ⟨t, _, ht⟩ := List.mem_flatMap.1 hu
  simp [Tm.cells] at ht
  rcases ht with rfl | rfl | rfl <;> rfl
theorem times_news {w : World} {B : Nat} {ad : Addr} {l : List Tm} (h : Times w B (some ad) l) : ∀ j u, (l.flatMap Tm.cells)[j]? = some u → w.cell? (ad.add j) = some u := by
  intro j u hu
  obtain ⟨i, t, hi, hc⟩ := flat_inv l j u hu
  have hpos : 0 < l.length := by have := (List.getElem?_eq_some_iff.1 hi).1; omega
  obtain ⟨b, o, e, _, ht⟩ := h hpos
  obtain rfl : ad = ⟨b, o, none⟩ := by injection e
  obtain ⟨a0, a1, a2⟩ := ht i t hi
  have ea : (⟨b, o, none⟩ : Addr).add j = ⟨b, o + j, none⟩ := by unfold Addr.add; split <;> simp_all
  rw [ea]
  rcases hc with ⟨rfl, rfl⟩ | ⟨rfl, rfl⟩ | ⟨rfl, rfl⟩
  · exact a0
  · rw [← Nat.add_assoc]; exact a1
  · rw [← Nat.add_assoc]; exact a2

set_option maxRecDepth 100000 in
set_option maxHeartbeats 800000 in
theorem clone_any (A : Option Addr) (c : Nat) (l : List Tm) (w : World) (hl : Times w w.heap.size A l) (hn : l.length * 24 ≤ 140737488351232) :
    Calls Tryz.prog 131 #[.slice A l.length c] w fun e w' => ∃ v, e = .returned v ∧ w'.ownsRow w.heap.size 46 3 v l.length (l.flatMap Tm.cells) ∧ Below w.heap.size w w' := by
  have q26 := fun (w : World) (a : Option Addr) (n c n' c' : Nat) => Lib.run_eql_slice_nil (P := Tryz.prog) w _ _ a n c n' c' Tryz.underlying23
  have hU := Tryz.underlying23
  obtain ⟨i0, hi, hz0, hz1, hz2⟩ := info_parts infoTm
  cases A with
  | none =>
    have h0 : l = [] := by
      cases l with
      | nil => rfl
      | cons x l => obtain ⟨_, _, e, _⟩ := hl (by simp); cases e
    subst h0
    clear hl
    go_enter Tryz.func131, Tryz.ntmps131
    go_wp2_with fail
    go_ret
    exact ⟨_, rfl, World.ownsRow_nil _ _ _ _, Below.refl _ _⟩
  | some ad =>
    have hnews := times_news hl
    have HN := Lib.hid hnews
    clear hnews hl
    go_enter Tryz.func131, Tryz.ntmps131
    go_wp2_with (at_builtin; refine wpList_append_own_at _ rfl _ _ 23 rfl w.heap.size 46 i0 _ 3 24 hU hi hz0 hz1 hz2 rfl (by decide) _ _ _ rfl (World.ownsRow_made w #[] 0 (Nat.le_refl _) (Nat.zero_le _) rfl) ad l.length c (l.flatMap Tm.cells) rfl ?c1 ?c2 ?c3 ?c4 ?c5 ?c6 ?_)
    case c1 => rw [flat_len]
    case c2 => exact fun j u hu => (World.cell?_alloc_some _ _ _ (by rw [HN.out j u hu]; rfl)).trans (HN.out j u hu)
    case c3 => exact flat_one l
    case c4 => unfold maxLen; omega
    case c5 => omega
    case c6 => simp
    intro v' w' ho' hg' _ _
    have hb : Below w.heap.size w w' := ((Below.refl _ _).alloc (Nat.le_refl _) _).grown hg' (by simp) (by simp [Value.ownBlock])
    go_wp2
    go_ret
    exact ⟨_, rfl, ho', hb⟩

theorem getElem!_some {l : List Tm} {i : Nat} {t : Tm} (h : l[i]? = some t) : l.toArray[i]! = t := by
  obtain ⟨hi, h⟩ := List.getElem?_eq_some_iff.1 h
  rw [getElem!_pos _ i (by simpa using hi)]
  simpa using h
/-- the row sorted in place; blocks below it are as they were -/
theorem sort_any (g c : Nat) (l : List Tm) (w : World) (base : Nat) (h : w.ownsRow base 46 3 (.slice (some ⟨g, 0, none⟩) l.length c) l.length (l.flatMap Tm.cells)) (hn : l.length * 24 ≤ 140737488351232) :
    Calls Tryz.prog 132 #[.slice (some ⟨g, 0, none⟩) l.length c, .func (.func 69) #[] #[]] w fun e w' => e = .returned (.tuple #[]) ∧ Times w' w'.heap.size (some ⟨g, 0, none⟩) (sortT l) ∧ Below g w w' := by
  have eg : ∀ args w, (callFunc 69 args).run Tryz.prog w = .ok (.enter 69 args) w := enters_of Tryz.func69 (by kernel_rfl) rfl
  have hg : g < w.heap.size := by
    rcases h.2 with ⟨h, _⟩ | ⟨g', _, _, e, _, hg, _⟩
    · simp at h
    · injection e with e _ _
      injection e with e
      injection e with e
      subst e
      exact (Array.getElem?_eq_some_iff.1 hg).1
  have hcell : ∀ i c, i < l.length → c < 3 → w.cell? ⟨g, 0 + (i * 3 + c), none⟩ = some (Tm.cells l.toArray[i]!)[c]! ∧ w.frozen? ⟨g, 0 + (i * 3 + c), none⟩ = false := by
    intro i c hi hc
    refine ⟨?_, h.frozenAt _⟩
    rw [Nat.zero_add, h.cellAt _ (by omega)]
    have hx : l[i]? = some l[i] := List.getElem?_eq_getElem hi
    obtain ⟨a0, a1, a2⟩ := flat_at l i _ hx
    rw [getElem!_some hx]
    rcases (by omega : c = 0 ∨ c = 1 ∨ c = 2) with rfl | rfl | rfl
    · simpa [Tm.cells] using a0
    · simpa [Tm.cells] using a1
    · simpa [Tm.cells] using a2
  have hH : HoldsK Tm.cells 3 w g 0 l.toArray := by
    intro j hj
    rw [size_flatK] at hj
    rw [get_flatK _ _ _ _ hj]
    have hs : l.toArray.size = l.length := by simp
    have := hcell (j / 3) (j % 3) (by omega) (by omega)
    rwa [Nat.div_add_mod' j 3] at this
  have hcon := AnyQ.slices_SortFunc_total Tryz.sortTm 3 Tryz.isAgg46 Tryz.sizeOf46 Tm.cells (fun _ => rfl) (fun x v hv => by simp [Tm.cells] at hv; rcases hv with rfl | rfl | rfl <;> rfl) Tm.cmp swoT 69 #[] g 0 c l.toArray w eg
    (fun m os dk _ x y => compare_grows x y _) hH hg (by simp; omega) totT
  change Calls Tryz.prog 132 _ _ _ at hcon
  simp only [List.size_toArray] at hcon
  refine hcon.mono ?_
  rintro e w' ⟨rfl, n, os, rfl⟩
  have hlen : (sortT l).toArray.size = l.toArray.size := by simp [sortT_len]
  have hH' := holdsK_sortWorldK_c Tm.cells 3 w g 0 l.toArray (sortT l).toArray n os hH hg hlen
  refine ⟨rfl, fun _ => ⟨g, 0, rfl, Nat.lt_of_lt_of_le hg (size_sortWorldK_c Tm.cells 3 w g 0 n _ os), fun i t hi => ?_⟩, ?_⟩
  · have hil := (List.getElem?_eq_some_iff.1 hi).1
    have hq := fun c hc => (HoldsK.cell hH' (i := i) (c := c) (by simpa using hil) hc).1
    rw [getElem!_some hi] at hq
    exact ⟨hq 0 (by omega), hq 1 (by omega), hq 2 (by omega)⟩
  · unfold sortWorldK putRowK putRow mapBlock
    refine ⟨rfl, rfl, rfl, by simp [grow, ahead], fun k hk => ?_⟩
    show (_ ++ os)[k]? = _
    rw [Array.getElem?_append_left (by simp [ahead]; omega), Array.getElem?_modify, if_neg (by omega)]
    rfl
end Go.Proofs.YtllpfngmnccejaaGreat
namespace Go.Proofs.YtllpfngmnccejaaGreat
open Go Go.RowKit

set_option maxRecDepth 100000 in
set_option maxHeartbeats 800000 in
theorem refAhead_any (s t : Tm) (w : World) :
    Calls Tryz.prog 135 #[s.val, t.val] w fun e w' => e = .returned (.bool (s.le t)) ∧ Below w.heap.size w w' := by
  obtain ⟨a, b, c⟩ := s
  obtain ⟨x, y, z⟩ := t
  unfold Tm.val Tm.le
  dsimp only
  have i0 : ∀ w, (Instr.index 44 (.agg #[.int .u64 (b : Int), .int .u64 (c : Int)]) (.int .i64 0)).run Tryz.prog w = .ok (.int .u64 (b : Int)) w := fun _ => by kernel_rfl
  have i1 : ∀ w, (Instr.index 44 (.agg #[.int .u64 (b : Int), .int .u64 (c : Int)]) (.int .i64 1)).run Tryz.prog w = .ok (.int .u64 (c : Int)) w := fun _ => by kernel_rfl
  have hB := fun (o1 o2 : Obj) => (((Below.refl w.heap.size w).alloc (Nat.le_refl _) o1).alloc (by simp) o2)
  have HB := Lib.hid hB
  clear hB
  go_enter Tryz.func135, Tryz.ntmps135
  go_wp2_with fail
  go_rounds 3
  all_goals
    go_ret
    refine ⟨ret_bool ?_, HB.out _ _⟩
    rw [Bool.eq_iff_iff]; simp only [Bool.and_eq_true, decide_eq_true_eq, Bool.false_eq_true, true_iff, false_iff, iff_true, iff_false]; omega
end Go.Proofs.YtllpfngmnccejaaGreat
namespace Go.Proofs.YtllpfngmnccejaaGreat
open Go Go.RowKit

/-- one of l is ahead of t -/
def beyond (l : List Tm) (t : Tm) : Bool := l.any (·.le t)
theorem beyond_snoc {l : List Tm} {t s : Tm} {k : Nat} (h : l[k]? = some s) : beyond (l.take (k + 1)) t = (beyond (l.take k) t || s.le t) := by
  unfold beyond
  rw [List.take_add_one, h]
  simp
theorem beyond_hit {l : List Tm} {t s : Tm} {k : Nat} (h : l[k]? = some s) (hs : s.le t = true) : beyond l t = true := by
  unfold beyond
  rw [List.any_eq_true]
  exact ⟨s, List.mem_of_getElem? h, hs⟩

set_option maxRecDepth 100000 in
set_option maxHeartbeats 800000 in
theorem beyond_any (A : Option Addr) (c : Nat) (l : List Tm) (t : Tm) (w : World) (hl : Times w w.heap.size A l) (hn : l.length ≤ maxLen) :
    Calls Tryz.prog 84 #[.slice A l.length c, t.val] w fun e w' => e = .returned (.bool (beyond l t)) ∧ Below w.heap.size w w' := by
  unfold maxLen at hn
  have hcall := fun (s : Tm) (W : World) => Lib.hid (ahead_any s t W)
  unfold Tm.val at hcall ⊢
  have Hl := Lib.hid hl
  clear hl
  go_enter Tryz.func84, Tryz.ntmps84
  go_wp2_with fail
  go_loopw [9] (fun i wr => ∃ k : Nat, i = .int .i64 (k : Int) ∧ k ≤ l.length ∧ beyond (l.take k) t = false ∧ Below w.heap.size w wr ∧ w.heap.size < wr.heap.size ∧ TmAt wr w.heap.size 0 t)
    (fun i _ => l.length - (intOf i).toNat)
  case atStart =>
    exact ⟨0, rfl, by omega, rfl, (Below.refl _ _).alloc (Nat.le_refl _) _, by simp, by simp [TmAt, go_sem]⟩
  case round =>
    obtain ⟨k, rfl, hk, hno, hb, hs, ht⟩ := hrel
    obtain ⟨t0, t1, t2⟩ := ht
    by_cases hlt : k < l.length
    · have hx : l[k]? = some l[k] := List.getElem?_eq_getElem hlt
      obtain ⟨b, o, rfl, hB, hc⟩ := Hl.out (by omega)
      obtain ⟨c0, c1, c2⟩ := (hc k _ hx).past hb hB
      have hsn := beyond_snoc (t := t) hx
      have hhit := fun h => beyond_hit (t := t) hx h
      generalize l[k] = s at *
      have hbs : b < w.heap.size := hB
      have HH := Lib.hid (And.intro hno (And.intro hsn (And.intro hhit (And.intro hx (And.intro hb (And.intro t0 (And.intro t1 t2)))))))
      clear hno hsn hhit hx hc hB hb
      by_cases hle : s.le t = true
      · have hcall := fun W => hcall s W
        simp only [hle] at hcall
        have HL := Lib.hid hle
        clear hle
        go_wp2_with fail
        refine (hcall _).out.mono ?_
        rintro e w1 ⟨rfl, h1⟩
        go_wp2_with fail
        go_ret
        obtain ⟨hno, hsn, hhit, hx, hb, t0, t1, t2⟩ := HH.out
        exact ⟨ret_bool (hhit HL.out).symm, hb.trans (((Below.refl _ _).alloc (by omega) _).trans (h1.mono (by simp; omega)))⟩
      · have hle : s.le t = false := by simpa using hle
        have hcall := fun W => hcall s W
        simp only [hle] at hcall
        have HL := Lib.hid hle
        clear hle
        go_wp2_with fail
        refine (hcall _).out.mono ?_
        rintro e w1 ⟨rfl, h1⟩
        go_wp2_with fail
        obtain ⟨hno, hsn, hhit, hx, hb, t0, t1, t2⟩ := HH.out
        have h2 : Below w.heap.size w w1 := hb.trans (((Below.refl _ _).alloc (by omega) _).trans (h1.mono (by simp; omega)))
        have h3 : Below wr.heap.size wr w1 := ((Below.refl _ _).alloc (Nat.le_refl _) _).trans (h1.mono (by simp))
        go_roundw
        case rel => exact ⟨k + 1, by go_num, by omega, by rw [hsn, hno, HL.out]; rfl, h2, by have := h3.size; omega, (TmAt.past ⟨t0, t1, t2⟩ h3 hs)⟩
        case measure => simp [intOf]; omega
    · have hk2 : k = l.length := by omega
      have HH := Lib.hid (And.intro hno (And.intro hb hk2))
      clear hno hb hk2
      go_wp2_with fail
      go_ret
      obtain ⟨hno, hb, rfl⟩ := HH.out
      exact ⟨ret_bool (by rw [← hno]; simp), hb⟩

set_option maxRecDepth 100000 in
set_option maxHeartbeats 800000 in
theorem refBeyond_any (A : Option Addr) (c : Nat) (l : List Tm) (t : Tm) (w : World) (hl : Times w w.heap.size A l) (hn : l.length ≤ maxLen) :
    Calls Tryz.prog 90 #[.slice A l.length c, t.val] w fun e w' => e = .returned (.bool (beyond l t)) ∧ Below w.heap.size w w' := by
  unfold maxLen at hn
  have hcall := fun (s : Tm) (W : World) => Lib.hid (refAhead_any s t W)
  unfold Tm.val at hcall ⊢
  have Hl := Lib.hid hl
  clear hl
  go_enter Tryz.func90, Tryz.ntmps90
  go_wp2_with fail
  go_loopw [9] (fun i wr => ∃ k : Nat, i = .int .i64 (k : Int) ∧ k ≤ l.length ∧ beyond (l.take k) t = false ∧ Below w.heap.size w wr ∧ w.heap.size < wr.heap.size ∧ TmAt wr w.heap.size 0 t)
    (fun i _ => l.length - (intOf i).toNat)
  case atStart =>
    exact ⟨0, rfl, by omega, rfl, (Below.refl _ _).alloc (Nat.le_refl _) _, by simp, by simp [TmAt, go_sem]⟩
  case round =>
    obtain ⟨k, rfl, hk, hno, hb, hs, ht⟩ := hrel
    obtain ⟨t0, t1, t2⟩ := ht
    by_cases hlt : k < l.length
    · have hx : l[k]? = some l[k] := List.getElem?_eq_getElem hlt
      obtain ⟨b, o, rfl, hB, hc⟩ := Hl.out (by omega)
      obtain ⟨c0, c1, c2⟩ := (hc k _ hx).past hb hB
      have hsn := beyond_snoc (t := t) hx
      have hhit := fun h => beyond_hit (t := t) hx h
      generalize l[k] = s at *
      have hbs : b < w.heap.size := hB
      have HH := Lib.hid (And.intro hno (And.intro hsn (And.intro hhit (And.intro hx (And.intro hb (And.intro t0 (And.intro t1 t2)))))))
      clear hno hsn hhit hx hc hB hb
      by_cases hle : s.le t = true
      · have hcall := fun W => hcall s W
        simp only [hle] at hcall
        have HL := Lib.hid hle
        clear hle
        go_wp2_with fail
        refine (hcall _).out.mono ?_
        rintro e w1 ⟨rfl, h1⟩
        go_wp2_with fail
        go_ret
        obtain ⟨hno, hsn, hhit, hx, hb, t0, t1, t2⟩ := HH.out
        exact ⟨ret_bool (hhit HL.out).symm, hb.trans (((Below.refl _ _).alloc (by omega) _).trans (h1.mono (by simp; omega)))⟩
      · have hle : s.le t = false := by simpa using hle
        have hcall := fun W => hcall s W
        simp only [hle] at hcall
        have HL := Lib.hid hle
        clear hle
        go_wp2_with fail
        refine (hcall _).out.mono ?_
        rintro e w1 ⟨rfl, h1⟩
        go_wp2_with fail
        obtain ⟨hno, hsn, hhit, hx, hb, t0, t1, t2⟩ := HH.out
        have h2 : Below w.heap.size w w1 := hb.trans (((Below.refl _ _).alloc (by omega) _).trans (h1.mono (by simp; omega)))
        have h3 : Below wr.heap.size wr w1 := ((Below.refl _ _).alloc (Nat.le_refl _) _).trans (h1.mono (by simp))
        go_roundw
        case rel => exact ⟨k + 1, by go_num, by omega, by rw [hsn, hno, HL.out]; rfl, h2, by have := h3.size; omega, (TmAt.past ⟨t0, t1, t2⟩ h3 hs)⟩
        case measure => simp [intOf]; omega
    · have hk2 : k = l.length := by omega
      have HH := Lib.hid (And.intro hno (And.intro hb hk2))
      clear hno hb hk2
      go_wp2_with fail
      go_ret
      obtain ⟨hno, hb, rfl⟩ := HH.out
      exact ⟨ret_bool (by rw [← hno]; simp), hb⟩
end Go.Proofs.YtllpfngmnccejaaGreat
namespace Go.Proofs.YtllpfngmnccejaaGreat
open Go Go.RowKit Go.Sort Go.Lib

/-- what is kept of the first k -/
def keepStep (f : List Tm) (t : Tm) : List Tm := if beyond f t = true then f else f ++ [t]
def frontTo (s : List Tm) (k : Nat) : List Tm := (s.take k).foldl keepStep []
def frontL (l : List Tm) : List Tm := frontTo (sortT l) (sortT l).length
theorem frontTo_snoc {s : List Tm} {t : Tm} {k : Nat} (h : s[k]? = some t) : frontTo s (k + 1) = keepStep (frontTo s k) t := by
  unfold frontTo; rw [List.take_add_one, h, List.foldl_append]; rfl
theorem frontTo_len (s : List Tm) : ∀ k, k ≤ s.length → (frontTo s k).length ≤ k
  | 0, _ => by simp [frontTo]
  | k + 1, h => by
    have := frontTo_len s k (by omega)
    rw [frontTo_snoc (List.getElem?_eq_getElem (by omega))]
    unfold keepStep
    split
    · omega
    · rw [List.length_append]; simp; omega

end Go.Proofs.YtllpfngmnccejaaGreat
namespace Go.Proofs.YtllpfngmnccejaaGreat
open Go Go.RowKit Go.Sort Go.Lib

theorem sort_all (v : Value) (n : Nat) (l : List Tm) (w : World) (base : Nat) (hnl : n = l.length) (h : w.ownsRow base 46 3 v n (l.flatMap Tm.cells)) (hn : l.length * 24 ≤ 140737488351232) :
    ∃ A c, v = .slice A l.length c ∧ Calls Tryz.prog 132 #[.slice A l.length c, .func (.func 69) #[] #[]] w fun e w' => e = .returned (.tuple #[]) ∧ Times w' w'.heap.size A (sortT l) ∧ Below base w w' := by
  subst hnl
  cases l with
  | nil =>
    rcases h.2 with ⟨rfl, _⟩ | ⟨g, cap, cur, rfl, _⟩
    · refine ⟨_, _, rfl, (AnyF.slices_SortFunc_none Tryz.sortTm _ _ _ w).mono fun e w' ⟨he, hw⟩ => ?_⟩
      subst hw
      exact ⟨he, fun h => by simp [sortT] at h, Below.refl _ _⟩
    · refine ⟨_, _, rfl, (AnyF.slices_SortFunc_none Tryz.sortTm _ _ _ w).mono fun e w' ⟨he, hw⟩ => ?_⟩
      subst hw
      exact ⟨he, fun h => by simp [sortT] at h, Below.refl _ _⟩
  | cons x l =>
    rcases h.2 with ⟨_, h0⟩ | ⟨g, cap, cur, rfl, hb, _⟩
    · simp at h0
    · exact ⟨_, _, rfl, (sort_any g cap (x :: l) w base h hn).mono fun e w' ⟨he, ht, hbe⟩ => ⟨he, ht, hbe.mono hb⟩⟩

set_option maxRecDepth 100000 in
set_option maxHeartbeats 1600000 in
theorem front_any (A : Option Addr) (c : Nat) (l : List Tm) (w : World) (hl : Times w w.heap.size A l) (hn : l.length * 24 ≤ 140737488351232) :
    Calls Tryz.prog 82 #[.slice A l.length c] w fun e w' => ∃ v, e = .returned v ∧ w'.ownsRow w.heap.size 46 3 v (frontL l).length ((frontL l).flatMap Tm.cells) ∧ Below w.heap.size w w' := by
  obtain ⟨i0, hi, hz0, hz1, hz2⟩ := info_parts infoTm
  have hU := Tryz.underlying23
  have Hl := Lib.hid hl
  have hbey := fun A c l t W h hn => Lib.hid (beyond_any A c l t W h hn)
  unfold Tm.val maxLen at hbey
  clear hl
  go_enter Tryz.func82, Tryz.ntmps82
  go_wp2_with fail
  refine (clone_any A c l _ Hl.out hn).mono ?_
  rintro e w1 ⟨v, rfl, ho1, hb1⟩
  obtain ⟨A', c', rfl, hsort⟩ := sort_all v _ l w1 _ rfl ho1 hn
  have HS := Lib.hid hsort
  have H1 := Lib.hid hb1
  clear hsort hb1 ho1
  go_wp2_with fail
  refine HS.out.mono ?_
  rintro e w0 ⟨rfl, ht0, hb0⟩
  have hlen := sortT_len l
  have HT := Lib.hid (And.intro ht0 (And.intro (H1.out.trans hb0) hlen))
  clear ht0 hb0 hlen HS
  go_wp2_with fail
  go_loopw [3, 12] (fun v i wr => ∃ k : Nat, i = .int .i64 (k : Int) ∧ k ≤ l.length ∧ Below w0.heap.size w0 wr ∧ wr.ownsRow w0.heap.size 46 3 v (frontTo (sortT l) k).length ((frontTo (sortT l) k).flatMap Tm.cells))
    (fun _ i _ => l.length - (intOf i).toNat)
  case atStart => exact ⟨0, rfl, by omega, Below.refl _ _, World.ownsRow_nil _ _ _ _⟩
  case round =>
    obtain ⟨k, rfl, hk, fb, hown⟩ := hrel
    obtain ⟨ht0, hb0, hlen⟩ := HT.out
    have hfl := frontTo_len (sortT l) k (by omega)
    obtain ⟨Af, cf, rfl, hcf, hcm, htf⟩ := times_of_own rfl hown
    by_cases hlt : k < l.length
    · have hx : (sortT l)[k]? = some (sortT l)[k] := List.getElem?_eq_getElem (by omega)
      obtain ⟨b, o, rfl, hB, hl⟩ := ht0 (by omega)
      obtain ⟨c0, c1, c2⟩ := (hl k _ hx).past fb hB
      have hsn := frontTo_snoc hx
      generalize (sortT l)[k] = y at *
      generalize frontTo (sortT l) k = f at *
      have hB2 : b < wr.heap.size := by have := fb.size; omega
      have hcall := fun o => hbey Af cf f y (wr.alloc o) ((htf.past ((Below.refl _ _).alloc (Nat.le_refl _) _) (Nat.le_refl _)).wide (by simp)) (by omega)
      have HR := Lib.hid (And.intro fb (And.intro hown (And.intro hsn hx)))
      have hz := fb.size
      clear fb hown hsn hx hl htf ht0 hb0 hlen hbey
      by_cases hbe : beyond f y = true
      · simp only [hbe] at hcall
        have HE := Lib.hid hbe
        clear hbe
        go_wp2_with fail
        refine (hcall _).out.mono ?_
        rintro e w2 ⟨rfl, h2⟩
        obtain ⟨fb, hown, hsn, hx⟩ := HR.out
        have h3 : Below wr.heap.size wr w2 := below_then ((Below.refl _ _).alloc (Nat.le_refl _) _) (by simp) h2
        have H3 := Lib.hid (And.intro h3 (And.intro fb (And.intro hown hsn)))
        clear fb hown hsn hx h2 h3
        go_wp2_with fail
        obtain ⟨h3, fb, hown, hsn⟩ := H3.out
        go_roundw
        case rel => exact ⟨k + 1, by go_num, by omega, fb.trans (h3.mono fb.size), by rw [hsn]; unfold keepStep; rw [if_pos HE.out]; exact own_below hown h3⟩
        case measure => simp [intOf]; omega
      · have hbf : beyond f y = false := by simpa using hbe
        simp only [hbf] at hcall
        have HE := Lib.hid hbe
        clear hbe hbf
        go_wp2_with fail
        refine (hcall _).out.mono ?_
        rintro e w2 ⟨rfl, h2⟩
        obtain ⟨fb, hown, hsn, hx⟩ := HR.out
        have h3 : Below wr.heap.size wr w2 := below_then ((Below.refl _ _).alloc (Nat.le_refl _) _) (by simp) h2
        have hown2 := own_below hown h3
        have d0 : w2.cell? ⟨wr.heap.size, 0, none⟩ = some (.int .u64 (y.e : Int)) := (h2.cell (p := ⟨wr.heap.size, 0, none⟩) (by simp)).trans (by simp [go_sem])
        have d1 : w2.cell? ⟨wr.heap.size, 1, none⟩ = some (.int .u64 (y.a : Int)) := (h2.cell (p := ⟨wr.heap.size, 1, none⟩) (by simp)).trans (by simp [go_sem])
        have d2 : w2.cell? ⟨wr.heap.size, 2, none⟩ = some (.int .u64 (y.b : Int)) := (h2.cell (p := ⟨wr.heap.size, 2, none⟩) (by simp)).trans (by simp [go_sem])
        have hz2 := h3.size
        have H3 := Lib.hid (And.intro (fb.trans (h3.mono fb.size)) hsn)
        clear fb hown hsn hx h2 h3
        go_wp2_with (at_builtin; refine wpList_push _ rfl _ _ 23 rfl w0.heap.size 46 i0 _ 3 24 hU hi hz0 hz1 ‹i0.bytes = 24› rfl (by decide) _ _ _ rfl hown2 _ rfl rfl ?c1 ?c2 ?c3 ?c4 ?_)
        case c1 => exact ⟨rfl, rfl, rfl⟩
        case c2 => unfold maxLen; omega
        case c3 => omega
        case c4 => omega
        intro v' w' ho' hb' _ _
        obtain ⟨fb, hsn⟩ := H3.out
        have H4 := Lib.hid (And.intro (fb.trans hb') (And.intro hsn ho'))
        clear fb hsn ho' hb' hown2
        go_wp2
        obtain ⟨fb, hsn, ho'⟩ := H4.out
        go_roundw
        case rel =>
          refine ⟨k + 1, by go_num, by omega, fb, ?_⟩
          rw [hsn]
          unfold keepStep
          rw [if_neg HE.out, ← flatT_snoc, List.length_append]
          exact ho'
        case measure => simp [intOf]; omega
    · have hk2 : k = l.length := by omega
      have hfin : frontTo (sortT l) k = frontL l := by unfold frontL; rw [hk2, hlen]
      rw [hfin] at hown ⊢
      have HR := Lib.hid (And.intro fb (And.intro hown (And.intro hb0 hk2)))
      clear fb hown hb0 hk2 hfin hfl hlen ht0 htf
      go_wp2_with fail
      go_ret
      obtain ⟨fb, hown, hb0, hk2⟩ := HR.out
      refine ⟨_, rfl, ?_, hb0.trans (fb.mono hb0.size)⟩
      exact ⟨hown.1, hown.2.imp id fun ⟨g, cap, cur, e, hbg, r⟩ => ⟨g, cap, cur, e, Nat.le_trans hb0.size hbg, r⟩⟩
end Go.Proofs.YtllpfngmnccejaaGreat
namespace Go.Proofs.YtllpfngmnccejaaGreat
open Go Go.RowKit
attribute [local go_sem ↓] Go.wp_at_zero Go.wp_at_succ

end Go.Proofs.YtllpfngmnccejaaGreat
namespace Go.Proofs.YtllpfngmnccejaaGreat
open Go Go.RowKit
attribute [local go_sem ↓] Go.wp_at_zero Go.wp_at_succ

theorem sort_fixed : sortT [⟨2, 0, 1⟩, ⟨1, 0, 2⟩, ⟨3, 0, 2⟩] = [⟨1, 0, 2⟩, ⟨2, 0, 1⟩, ⟨3, 0, 2⟩] := by
  simp [sortT, List.mergeSort, List.MergeSort.Internal.splitInTwo, List.merge, ltT]
theorem front_fixed : frontL [⟨2, 0, 1⟩, ⟨1, 0, 2⟩, ⟨3, 0, 2⟩] = [⟨1, 0, 2⟩, ⟨2, 0, 1⟩] := by
  unfold frontL; rw [sort_fixed]; decide
theorem below_new {a b : World} (h : Below a.heap.size a b) (o : Obj) : Below a.heap.size a (b.alloc o) := h.alloc h.size o
theorem times_one' {w : World} {N : Nat} (s : Tm) (hN : w.heap.size = N) : Times (w.alloc (.cells #[.int .u64 (s.e : Int), .int .u64 (s.a : Int), .int .u64 (s.b : Int)] 46)) (N + 1) (some ⟨N, 0, none⟩) [s] := hN ▸ times_one w s
theorem keep3 {a b : World} {g o : Nat} {x y z : Value} (hB : g < a.heap.size) (h0 : a.cell? ⟨g, o, none⟩ = some x) (h1 : a.cell? ⟨g, o + 1, none⟩ = some y) (h2 : a.cell? ⟨g, o + 2, none⟩ = some z) (h : Below a.heap.size a b) :
    Below a.heap.size a b ∧ b.cell? ⟨g, o, none⟩ = some x ∧ b.cell? ⟨g, o + 1, none⟩ = some y ∧ b.cell? ⟨g, o + 2, none⟩ = some z :=
  ⟨h, (h.cell (p := ⟨g, o, none⟩) hB).trans h0, (h.cell (p := ⟨g, o + 1, none⟩) hB).trans h1, (h.cell (p := ⟨g, o + 2, none⟩) hB).trans h2⟩
theorem times_lit3 {w : World} {N : Nat} (s t u : Tm) (hN : w.heap.size = N) : Times (w.alloc (.cells #[.int .u64 (s.e : Int), .int .u64 (s.a : Int), .int .u64 (s.b : Int), .int .u64 (t.e : Int), .int .u64 (t.a : Int), .int .u64 (t.b : Int), .int .u64 (u.e : Int), .int .u64 (u.a : Int), .int .u64 (u.b : Int)] 46)) (N + 1) (some ⟨N, 0, none⟩) [s, t, u] := by
  subst hN
  intro _
  refine ⟨_, _, rfl, by omega, fun i x hx => ?_⟩
  match i, hx with
  | 0, hx => obtain rfl : s = x := by simpa using hx
             exact ⟨by simp [go_sem], by simp [go_sem], by simp [go_sem]⟩
  | 1, hx => obtain rfl : t = x := by simpa using hx
             exact ⟨by simp [go_sem], by simp [go_sem], by simp [go_sem]⟩
  | 2, hx => obtain rfl : u = x := by simpa using hx
             exact ⟨by simp [go_sem], by simp [go_sem], by simp [go_sem]⟩

end Go.Proofs.YtllpfngmnccejaaGreat
namespace Go.Proofs.YtllpfngmnccejaaGreat
open Go Go.RowKit

theorem boxes1 (w : World) (s : Tm) : ∃ W, W = w.alloc (.cells #[.int .u64 (s.e : Int), .int .u64 (s.a : Int), .int .u64 (s.b : Int)] 46) ∧ Below w.heap.size w W ∧ Own W w.heap.size 46 s.cells :=
  ⟨_, rfl, (Below.refl _ _).alloc (Nat.le_refl _) _, by have := Own.made w 46 s.cells; simpa [Tm.cells] using this⟩
theorem boxes2 (w : World) (s t : Tm) : ∃ W, W = (w.alloc (.cells #[.int .u64 (s.e : Int), .int .u64 (s.a : Int), .int .u64 (s.b : Int)] 46)).alloc (.cells #[.int .u64 (t.e : Int), .int .u64 (t.a : Int), .int .u64 (t.b : Int)] 46) ∧
    Below w.heap.size w W ∧ Own W w.heap.size 46 s.cells ∧ Own W (w.heap.size + 1) 46 t.cells := by
  obtain ⟨W, hW, fb, f0⟩ := boxes1 w s
  have h1 : W.heap.size = w.heap.size + 1 := by rw [hW]; simp
  rw [← hW]
  obtain ⟨V, hV, gb, g0⟩ := boxes1 W t
  rw [← hV]
  rw [h1] at g0
  exact ⟨V, rfl, fb.trans (gb.mono (by omega)), f0.past gb f0.inside, g0⟩
theorem boxes3 (w : World) (s t u : Tm) : ∃ W, W = ((w.alloc (.cells #[.int .u64 (s.e : Int), .int .u64 (s.a : Int), .int .u64 (s.b : Int)] 46)).alloc (.cells #[.int .u64 (t.e : Int), .int .u64 (t.a : Int), .int .u64 (t.b : Int)] 46)).alloc (.cells #[.int .u64 (u.e : Int), .int .u64 (u.a : Int), .int .u64 (u.b : Int)] 46) ∧
    Below w.heap.size w W ∧ Own W w.heap.size 46 s.cells ∧ Own W (w.heap.size + 1) 46 t.cells ∧ Own W (w.heap.size + 1 + 1) 46 u.cells := by
  obtain ⟨W, hW, fb, f0, f1⟩ := boxes2 w s t
  have h1 : W.heap.size = w.heap.size + 1 + 1 := by rw [hW]; simp
  rw [← hW]
  obtain ⟨V, hV, gb, g0⟩ := boxes1 W u
  rw [← hV]
  rw [h1] at g0
  exact ⟨V, rfl, fb.trans (gb.mono (by omega)), f0.past gb f0.inside, f1.past gb f1.inside, g0⟩
theorem own_cells {a b : World} {g : Nat} {t : Tm} (h : Own a g 46 t.cells) (hb : Below a.heap.size a b) :
    b.cell? ⟨g, 0, none⟩ = some (.int .u64 (t.e : Int)) ∧ b.cell? ⟨g, 1, none⟩ = some (.int .u64 (t.a : Int)) ∧ b.cell? ⟨g, 2, none⟩ = some (.int .u64 (t.b : Int)) := by
  have h2 := h.past hb h.inside
  exact ⟨h2.at_ 0, h2.at_ 1, h2.at_ 2⟩
theorem keepB1 {a b : World} {g : Nat} {s : Tm} (h : Own a g 46 s.cells) (hb : Below a.heap.size a b) :
    Below a.heap.size a b ∧ b.cell? ⟨g, 0, none⟩ = some (.int .u64 (s.e : Int)) ∧ b.cell? ⟨g, 1, none⟩ = some (.int .u64 (s.a : Int)) ∧ b.cell? ⟨g, 2, none⟩ = some (.int .u64 (s.b : Int)) := ⟨hb, own_cells h hb⟩
theorem keepB2 {a b : World} {g g' : Nat} {s t : Tm} (h : Own a g 46 s.cells) (h' : Own a g' 46 t.cells) (hb : Below a.heap.size a b) :
    Below a.heap.size a b ∧ b.cell? ⟨g, 0, none⟩ = some (.int .u64 (s.e : Int)) ∧ b.cell? ⟨g, 1, none⟩ = some (.int .u64 (s.a : Int)) ∧ b.cell? ⟨g, 2, none⟩ = some (.int .u64 (s.b : Int)) ∧
      b.cell? ⟨g', 0, none⟩ = some (.int .u64 (t.e : Int)) ∧ b.cell? ⟨g', 1, none⟩ = some (.int .u64 (t.a : Int)) ∧ b.cell? ⟨g', 2, none⟩ = some (.int .u64 (t.b : Int)) := by
  obtain ⟨a0, a1, a2⟩ := own_cells h hb
  exact ⟨hb, a0, a1, a2, own_cells h' hb⟩
theorem keepB3 {a b : World} {g g' g'' : Nat} {s t u : Tm} (h : Own a g 46 s.cells) (h' : Own a g' 46 t.cells) (h'' : Own a g'' 46 u.cells) (hb : Below a.heap.size a b) :
    Below a.heap.size a b ∧ b.cell? ⟨g, 0, none⟩ = some (.int .u64 (s.e : Int)) ∧ b.cell? ⟨g, 1, none⟩ = some (.int .u64 (s.a : Int)) ∧ b.cell? ⟨g, 2, none⟩ = some (.int .u64 (s.b : Int)) ∧
      b.cell? ⟨g', 0, none⟩ = some (.int .u64 (t.e : Int)) ∧ b.cell? ⟨g', 1, none⟩ = some (.int .u64 (t.a : Int)) ∧ b.cell? ⟨g', 2, none⟩ = some (.int .u64 (t.b : Int)) ∧
      b.cell? ⟨g'', 0, none⟩ = some (.int .u64 (u.e : Int)) ∧ b.cell? ⟨g'', 1, none⟩ = some (.int .u64 (u.a : Int)) ∧ b.cell? ⟨g'', 2, none⟩ = some (.int .u64 (u.b : Int)) := by
  obtain ⟨a0, a1, a2⟩ := own_cells h hb
  obtain ⟨b0, b1, b2⟩ := own_cells h' hb
  exact ⟨hb, a0, a1, a2, b0, b1, b2, own_cells h'' hb⟩
end Go.Proofs.YtllpfngmnccejaaGreat
namespace Go.Proofs.YtllpfngmnccejaaGreat
open Go Go.RowKit

theorem foldl_inf (t : Tm) : ∀ (l : List Tm) (a s : Tm), s.le (l.foldl (fun a y => a.inf (t.sup y)) a) = (s.le a && l.all fun y => s.le (t.sup y))
  | [], a, s => by simp
  | x :: l, a, s => by
    rw [List.foldl_cons, foldl_inf t l, List.all_cons]
    have : s.le (a.inf (t.sup x)) = (s.le a && s.le (t.sup x)) := by
      rw [Bool.eq_iff_iff, Bool.and_eq_true, Tm.le_iff, Tm.le_iff, Tm.le_iff]
      simp only [Tm.inf]
      omega
    rw [this, Bool.and_assoc]
/-- what is ahead of an advanced time -/
theorem le_adv (s t : Tm) (l : List Tm) (h : l ≠ []) : s.le (adv t l) = l.all fun y => s.le (t.sup y) := by
  cases l with
  | nil => exact absurd rfl h
  | cons x l => simp [adv, foldl_inf]
theorem le_refl' (t : Tm) : t.le t = true := Tm.le_iff.2 ⟨Nat.le_refl _, Nat.le_refl _, Nat.le_refl _⟩
theorem le_anti {s t : Tm} (h : s.le t = true) (k : t.le s = true) : s = t := by
  rw [Tm.le_iff] at h k
  obtain ⟨a, b, c⟩ := s
  obtain ⟨d, e, f⟩ := t
  simp at *
  omega
theorem le_trans' {a b c : Tm} (h : a.le b = true) (k : b.le c = true) : a.le c = true := by
  rw [Tm.le_iff] at *; omega
/-- a time advanced to a list, then to a later one, is advanced to the later one -/
theorem adv_later (t : Tm) (f g : List Tm) (hg : g ≠ []) (h : ∀ x ∈ g, beyond f x = true) : adv (adv t f) g = adv t g := by
  have key : ∀ s : Tm, s.le (adv (adv t f) g) = s.le (adv t g) := by
    intro s
    rw [le_adv _ _ _ hg, le_adv _ _ _ hg, Bool.eq_iff_iff, List.all_eq_true, List.all_eq_true]
    have hsup : ∀ y ∈ g, (adv t f).sup y = t.sup y := by
      intro y hy
      by_cases hf : f = []
      · subst hf; simp [beyond] at h; exact absurd hy (by intro hy; exact (h y hy))
      obtain ⟨x, hx, hxy⟩ := List.any_eq_true.1 (h y hy)
      have h1 : t.le (adv t f) = true := by
        rw [le_adv _ _ _ hf, List.all_eq_true]; intro z _; rw [Tm.le_iff]; simp only [Tm.sup]; omega
      have h2 : (adv t f).le (t.sup x) = true := by
        have := le_refl' (adv t f)
        rw [le_adv _ _ _ hf, List.all_eq_true] at this
        exact this x hx
      rw [Tm.le_iff] at h1 h2 hxy
      simp only [Tm.sup] at h2 ⊢
      simp only [Tm.mk.injEq]
      omega
    constructor
    · intro k y hy; rw [← hsup y hy]; exact k y hy
    · intro k y hy; rw [hsup y hy]; exact k y hy
  exact le_anti (by rw [← key]; exact le_refl' _) (by rw [key]; exact le_refl' _)

attribute [local go_sem ↓] Go.wp_at_zero Go.wp_at_succ
theorem beyond_all {f g : List Tm} (h : ∀ (k : Nat) (x : Tm), g[k]? = some x → beyond f x = true) : ∀ x ∈ g, beyond f x = true := fun x hx => by
  obtain ⟨k, hk⟩ := List.mem_iff_getElem?.1 hx
  exact h k x hk

end Go.Proofs.YtllpfngmnccejaaGreat
namespace Go.Proofs.YtllpfngmnccejaaGreat
open Go Go.RowKit Go.Sort Go.Lib

/-- two of a frontier, the earlier one first -/
def Apart (x y : Tm) : Prop := ltOf Tm.cmp x y = true ∧ x.le y = false ∧ y.le x = false
theorem le_not_lt {x y : Tm} (h : x.le y = true) : ltOf Tm.cmp y x = false := by
  rw [Tm.le_iff] at h; rw [ltT]; simp; omega
theorem beyond_iff {l : List Tm} {t : Tm} : beyond l t = true ↔ ∃ x ∈ l, x.le t = true := by unfold beyond; rw [List.any_eq_true]
theorem sorted_unique' {R : Tm → Tm → Prop} (hi : ∀ x, ¬ R x x) (ha : ∀ x y, R x y → ¬ R y x) : ∀ l m : List Tm, l.Pairwise R → m.Pairwise R → (∀ x, x ∈ l ↔ x ∈ m) → l = m
  | [], [], _, _, _ => rfl
  | [], y :: m, _, _, h => absurd ((h y).2 List.mem_cons_self) (by simp)
  | x :: l, [], _, _, h => absurd ((h x).1 List.mem_cons_self) (by simp)
  | x :: l, y :: m, hl, hm, h => by
    rw [List.pairwise_cons] at hl hm
    have hxy : x = y := by
      rcases List.mem_cons.1 ((h x).1 List.mem_cons_self) with e | e
      · exact e
      · rcases List.mem_cons.1 ((h y).2 List.mem_cons_self) with e' | e'
        · exact e'.symm
        · exact absurd (hl.1 y e') (ha _ _ (hm.1 x e))
    subst hxy
    congr 1
    refine sorted_unique' hi ha l m hl.2 hm.2 fun z => ?_
    constructor
    · intro hz
      rcases List.mem_cons.1 ((h z).1 (List.mem_cons_of_mem _ hz)) with e | e
      · subst e; exact absurd (hl.1 z hz) (hi z)
      · exact e
    · intro hz
      rcases List.mem_cons.1 ((h z).2 (List.mem_cons_of_mem _ hz)) with e | e
      · subst e; exact absurd (hm.1 z hz) (hi z)
      · exact e
theorem frontTo_facts (s : List Tm) (hs : s.Pairwise fun x y => ltOf Tm.cmp y x = false) : ∀ k, k ≤ s.length →
    (frontTo s k).Pairwise Apart ∧ (∀ x ∈ frontTo s k, x ∈ s.take k) ∧ ∀ t, beyond (frontTo s k) t = beyond (s.take k) t
  | 0, _ => ⟨by simp [frontTo], by simp [frontTo], by simp [frontTo]⟩
  | k + 1, h => by
    obtain ⟨h1, h2, h3⟩ := frontTo_facts s hs k (by omega)
    have hx : s[k]? = some s[k] := List.getElem?_eq_getElem (by omega)
    have htk : s.take (k + 1) = s.take k ++ [s[k]] := by rw [List.take_add_one, hx]; rfl
    have hpw : ∀ x ∈ s.take k, ltOf Tm.cmp s[k] x = false := by
      have := hs.sublist (List.take_sublist (k + 1) s)
      rw [htk, List.pairwise_append] at this
      exact fun x hxk => this.2.2 x hxk _ (by simp)
    rw [frontTo_snoc hx, htk]
    generalize s[k] = t at *
    generalize frontTo s k = f at *
    unfold keepStep
    have hbs : ∀ u, beyond (s.take k ++ [t]) u = (beyond (s.take k) u || t.le u) := fun u => by simp [beyond]
    by_cases hb : beyond f t = true
    · rw [if_pos hb]
      refine ⟨h1, fun x hxf => List.mem_append_left _ (h2 x hxf), fun u => ?_⟩
      rw [hbs, h3]
      cases htu : t.le u with
      | false => simp
      | true =>
        obtain ⟨x, hxf, hxt⟩ := beyond_iff.1 hb
        rw [← h3, beyond_iff.2 ⟨x, hxf, le_trans' hxt htu⟩]; rfl
    · rw [if_neg hb]
      refine ⟨?_, fun x hxf => ?_, fun u => ?_⟩
      · rw [List.pairwise_append]
        refine ⟨h1, by simp, fun x hxf y hy => ?_⟩
        obtain rfl : y = t := by simpa using hy
        have hxt : x.le y = false := by
          cases hq : x.le y with
          | false => rfl
          | true => exact absurd (beyond_iff.2 ⟨x, hxf, hq⟩) hb
        have hlt : ltOf Tm.cmp x y = true := by
          cases hq : ltOf Tm.cmp x y with
          | true => rfl
          | false =>
            have := totT x y hq (hpw x (h2 x hxf))
            subst this
            rw [le_refl'] at hxt; cases hxt
        refine ⟨hlt, hxt, ?_⟩
        cases hq : y.le x with
        | false => rfl
        | true => have := le_not_lt hq; rw [hlt] at this; cases this
      · rcases List.mem_append.1 hxf with h | h
        · exact List.mem_append_left _ (h2 x h)
        · exact List.mem_append_right _ h
      · rw [hbs, ← h3]; simp [beyond]
theorem frontL_facts (l : List Tm) : (frontL l).Pairwise Apart ∧ (∀ x ∈ frontL l, x ∈ l) ∧ ∀ t, beyond (frontL l) t = beyond l t := by
  obtain ⟨h1, h2, h3⟩ := frontTo_facts (sortT l) (sortT_sorted l) (sortT l).length (Nat.le_refl _)
  rw [List.take_length] at h2 h3
  refine ⟨h1, fun x hx => mem_sortT.1 (h2 x hx), fun t => (h3 t).trans ?_⟩
  rw [Bool.eq_iff_iff, beyond_iff, beyond_iff]
  simp only [mem_sortT]
theorem apart_irrefl (x : Tm) : ¬ Apart x x := fun h => by have := h.2.1; rw [le_refl'] at this; cases this
theorem apart_asymm (x y : Tm) (h : Apart x y) : ¬ Apart y x := fun k => by
  have := swoT.trans _ _ _ h.1 k.1
  rw [swoT.irrefl] at this; cases this
/-- of two apart each is beyond itself alone -/
theorem mem_apart {f : List Tm} (hf : f.Pairwise Apart) {x y : Tm} (hx : x ∈ f) (hy : y ∈ f) (h : x.le y = true) : x = y := by
  by_cases e : x = y
  · exact e
  · have hs : ∀ (l : List Tm), l.Pairwise Apart → x ∈ l → y ∈ l → Apart x y ∨ Apart y x := by
      intro l
      induction l with
      | nil => intro _ h; simp at h
      | cons z l ih =>
        intro hp hx hy
        rw [List.pairwise_cons] at hp
        rcases List.mem_cons.1 hx with ex | hx'
        · rcases List.mem_cons.1 hy with ey | hy'
          · exact absurd (ex.trans ey.symm) e
          · exact .inl (ex ▸ hp.1 y hy')
        · rcases List.mem_cons.1 hy with ey | hy'
          · exact .inr (ey ▸ hp.1 x hx')
          · exact ih hp.2 hx' hy'
    rcases hs f hf hx hy with h' | h'
    · rw [h'.2.1] at h; cases h
    · rw [h'.2.2] at h; cases h
theorem apart_unique {f g : List Tm} (hf : f.Pairwise Apart) (hg : g.Pairwise Apart) (h : ∀ t, beyond f t = beyond g t) : f = g := by
  have key : ∀ {f g : List Tm}, f.Pairwise Apart → g.Pairwise Apart → (∀ t, beyond f t = beyond g t) → ∀ x, x ∈ f → x ∈ g := by
    intro f g hf hg h x hx
    obtain ⟨y, hy, hyx⟩ := beyond_iff.1 ((h x).symm.trans (beyond_iff.2 ⟨x, hx, le_refl' x⟩))
    obtain ⟨z, hz, hzy⟩ := beyond_iff.1 ((h y).trans (beyond_iff.2 ⟨y, hy, le_refl' y⟩))
    have := mem_apart hf hz hx (le_trans' hzy hyx)
    subst this
    rw [← le_anti hyx hzy]
    exact hy
  exact sorted_unique' apart_irrefl apart_asymm f g hf hg fun x => ⟨key hf hg h x, key hg hf (fun t => (h t).symm) x⟩
theorem front_congr {l m : List Tm} (h : ∀ t, beyond l t = beyond m t) : frontL l = frontL m :=
  apart_unique (frontL_facts l).1 (frontL_facts m).1 fun t => by rw [(frontL_facts l).2.2, (frontL_facts m).2.2, h]
theorem front_front (l : List Tm) : frontL (frontL l) = frontL l := front_congr (frontL_facts l).2.2
theorem front_nil {l : List Tm} (h : frontL l = []) : l = [] := by
  cases l with
  | nil => rfl
  | cons x l =>
    have := (frontL_facts (x :: l)).2.2 x
    rw [h, beyond_iff.2 ⟨x, List.mem_cons_self, le_refl' x⟩] at this
    simp [beyond] at this
theorem le_adv_t (t : Tm) (l : List Tm) : t.le (adv t l) = true := by
  by_cases h : l = []
  · subst h; exact le_refl' t
  · rw [le_adv _ _ _ h, List.all_eq_true]; intro z _; rw [Tm.le_iff]; simp only [Tm.sup]; omega
theorem sup_le {t x s : Tm} (h : t.le s = true) (k : x.le s = true) : (t.sup x).le s = true := by
  rw [Tm.le_iff] at *; simp only [Tm.sup]; omega
theorem adv_le {t x : Tm} {l : List Tm} (h : x ∈ l) : (adv t l).le (t.sup x) = true := by
  have := le_refl' (adv t l)
  rw [le_adv _ _ _ (by intro e; rw [e] at h; simp at h), List.all_eq_true] at this
  exact this x h
theorem adv_same (t s : Tm) (l : List Tm) (h : beyond l s = true) : t.le s = (adv t l).le s := by
  obtain ⟨x, hx, hxs⟩ := beyond_iff.1 h
  rw [Bool.eq_iff_iff]
  exact ⟨fun hts => le_trans' (adv_le hx) (sup_le hts hxs), fun h => le_trans' (le_adv_t t l) h⟩
theorem adv_again (t : Tm) (l : List Tm) : adv (adv t l) l = adv t l := by
  by_cases h : l = []
  · subst h; rfl
  · exact adv_later t l l h fun x hx => beyond_iff.2 ⟨x, hx, le_refl' x⟩
theorem adv_front (t : Tm) (l : List Tm) : adv t (frontL l) = adv t l := by
  by_cases h : l = []
  · subst h
    have : frontL [] = [] := by
      cases hq : frontL [] with
      | nil => rfl
      | cons x r => have := (frontL_facts []).2.1 x (by rw [hq]; exact List.mem_cons_self); simp at this
    rw [this]
  have h' : frontL l ≠ [] := fun e => h (front_nil e)
  have key : ∀ s : Tm, s.le (adv t (frontL l)) = s.le (adv t l) := by
    intro s
    rw [le_adv _ _ _ h', le_adv _ _ _ h, Bool.eq_iff_iff, List.all_eq_true, List.all_eq_true]
    constructor
    · intro k y hy
      obtain ⟨x, hx, hxy⟩ := beyond_iff.1 (((frontL_facts l).2.2 y).trans (beyond_iff.2 ⟨y, hy, le_refl' y⟩))
      refine le_trans' (k x hx) ?_
      rw [Tm.le_iff] at *; simp only [Tm.sup]; omega
    · intro k y hy; exact k y ((frontL_facts l).2.1 y hy)
  exact le_anti (by rw [← key]; exact le_refl' _) (by rw [key]; exact le_refl' _)
end Go.Proofs.YtllpfngmnccejaaGreat
namespace Go.Proofs.YtllpfngmnccejaaGreat
open Go Go.RowKit Go.Sort Go.Lib

/-- another one of l is ahead of t -/
def blocked (l : List Tm) (t : Tm) : Bool := l.any fun u => !eqT u t && u.le t
def holdsT (l : List Tm) (t : Tm) : Bool := l.any fun u => eqT u t
def before (t x : Tm) : Bool := decide (x.cmp t < 0)
def putIn (l : List Tm) (t : Tm) : List Tm := l.takeWhile (before t) ++ t :: l.dropWhile (before t)
def refStep (l out : List Tm) (t : Tm) : List Tm := if (blocked l t || holdsT out t) = true then out else putIn out t
def refTo (l : List Tm) (k : Nat) : List Tm := (l.take k).foldl (refStep l) []
theorem refTo_snoc {l : List Tm} {t : Tm} {k : Nat} (h : l[k]? = some t) : refTo l (k + 1) = refStep l (refTo l k) t := by
  unfold refTo; rw [List.take_add_one, h, List.foldl_append]; rfl
theorem before_lt (t x : Tm) : before t x = ltOf Tm.cmp x t := rfl
theorem holdsT_iff {l : List Tm} {t : Tm} : holdsT l t = true ↔ t ∈ l := by
  unfold holdsT; rw [List.any_eq_true]
  exact ⟨fun ⟨x, hx, h⟩ => eqT_iff.1 h ▸ hx, fun h => ⟨t, h, eqT_iff.2 rfl⟩⟩
theorem mem_putIn {l : List Tm} {t x : Tm} : x ∈ putIn l t ↔ x = t ∨ x ∈ l := by
  unfold putIn
  rw [List.mem_append, List.mem_cons]
  have := List.takeWhile_append_dropWhile (p := before t) (l := l)
  constructor
  · rintro (h | h | h)
    · exact .inr (this ▸ List.mem_append_left _ h)
    · exact .inl h
    · exact .inr (this ▸ List.mem_append_right _ h)
  · rintro (h | h)
    · exact .inr (.inl h)
    · rw [← this] at h
      rcases List.mem_append.1 h with h | h
      · exact .inl h
      · exact .inr (.inr h)
theorem mem_takeWhile_before {t x : Tm} : ∀ {l : List Tm}, x ∈ l.takeWhile (before t) → ltOf Tm.cmp x t = true
  | [], h => by simp at h
  | y :: l, h => by
    rw [List.takeWhile_cons] at h
    split at h
    · rename_i hb
      rcases List.mem_cons.1 h with rfl | h
      · exact hb
      · exact mem_takeWhile_before h
    · simp at h
theorem dropWhile_after {t : Tm} : ∀ {l : List Tm}, l.Pairwise (fun x y => ltOf Tm.cmp x y = true) → t ∉ l → ∀ x ∈ l.dropWhile (before t), ltOf Tm.cmp t x = true
  | [], _, _, x, h => by simp at h
  | y :: l, hp, ht, x, h => by
    rw [List.pairwise_cons] at hp
    rw [List.dropWhile_cons] at h
    split at h
    · exact dropWhile_after hp.2 (fun k => ht (List.mem_cons_of_mem _ k)) x h
    · rename_i hb
      have hb' : ltOf Tm.cmp y t = false := by simpa [before_lt] using hb
      have hty : ltOf Tm.cmp t y = true := by
        cases hq : ltOf Tm.cmp t y with
        | true => rfl
        | false => exact absurd (totT _ _ hq hb' ▸ List.mem_cons_self) ht
      rcases List.mem_cons.1 h with rfl | h
      · exact hty
      · exact swoT.trans _ _ _ hty (hp.1 x h)
theorem putIn_sorted {l : List Tm} {t : Tm} (hp : l.Pairwise fun x y => ltOf Tm.cmp x y = true) (ht : t ∉ l) : (putIn l t).Pairwise fun x y => ltOf Tm.cmp x y = true := by
  have hpw := hp
  rw [← List.takeWhile_append_dropWhile (p := before t) (l := l), List.pairwise_append] at hpw
  unfold putIn
  rw [List.pairwise_append, List.pairwise_cons]
  refine ⟨hpw.1, ⟨fun x hx => dropWhile_after hp ht x hx, hpw.2.1⟩, fun x hx y hy => ?_⟩
  rcases List.mem_cons.1 hy with rfl | hy
  · exact mem_takeWhile_before hx
  · exact hpw.2.2 x hx y hy
theorem refTo_facts (l : List Tm) : ∀ k, k ≤ l.length → (refTo l k).Pairwise (fun x y => ltOf Tm.cmp x y = true) ∧ ∀ x, x ∈ refTo l k ↔ x ∈ l.take k ∧ blocked l x = false
  | 0, _ => ⟨by simp [refTo], by simp [refTo]⟩
  | k + 1, h => by
    obtain ⟨h1, h2⟩ := refTo_facts l k (by omega)
    have hx : l[k]? = some l[k] := List.getElem?_eq_getElem (by omega)
    have htk : l.take (k + 1) = l.take k ++ [l[k]] := by rw [List.take_add_one, hx]; rfl
    rw [refTo_snoc hx, htk]
    generalize l[k] = t at *
    generalize refTo l k = f at *
    unfold refStep
    by_cases hb : (blocked l t || holdsT f t) = true
    · rw [if_pos hb]
      refine ⟨h1, fun x => (h2 x).trans ⟨fun ⟨a, b⟩ => ⟨List.mem_append_left _ a, b⟩, fun ⟨a, b⟩ => ⟨?_, b⟩⟩⟩
      rcases List.mem_append.1 a with a | a
      · exact a
      · obtain rfl : x = t := by simpa using a
        rw [b, Bool.false_or] at hb
        exact ((h2 x).1 (holdsT_iff.1 hb)).1
    · rw [if_neg hb]
      simp only [Bool.or_eq_true, not_or, Bool.not_eq_true] at hb
      have ht : t ∉ f := fun hm => by rw [holdsT_iff.2 hm] at hb; cases hb.2
      refine ⟨putIn_sorted h1 ht, fun x => ?_⟩
      rw [mem_putIn, h2, List.mem_append]
      constructor
      · rintro (rfl | ⟨a, b⟩)
        · exact ⟨.inr (by simp), hb.1⟩
        · exact ⟨.inl a, b⟩
      · rintro ⟨a | a, b⟩
        · exact .inr ⟨a, b⟩
        · exact .inl (by simpa using a)
theorem mem_front {l : List Tm} {x : Tm} : x ∈ frontL l ↔ x ∈ l ∧ blocked l x = false := by
  obtain ⟨h1, h2, h3⟩ := frontL_facts l
  constructor
  · intro hx
    refine ⟨h2 x hx, ?_⟩
    cases hb : blocked l x with
    | false => rfl
    | true =>
      obtain ⟨u, hu, h⟩ := List.any_eq_true.1 hb
      simp only [Bool.and_eq_true, Bool.not_eq_true'] at h
      obtain ⟨y, hy, hyu⟩ := beyond_iff.1 ((h3 u).trans (beyond_iff.2 ⟨u, hu, le_refl' u⟩))
      have := mem_apart h1 hy hx (le_trans' hyu h.2)
      subst this
      have := le_anti h.2 hyu
      subst this
      rw [eqT_iff.2 rfl] at h
      cases h.1
  · rintro ⟨hx, hb⟩
    obtain ⟨y, hy, hyx⟩ := beyond_iff.1 ((h3 x).trans (beyond_iff.2 ⟨x, hx, le_refl' x⟩))
    by_cases e : y = x
    · exact e ▸ hy
    · have : blocked l x = true := List.any_eq_true.2 ⟨y, h2 y hy, by simp only [Bool.and_eq_true, Bool.not_eq_true']; exact ⟨by cases hq : eqT y x with | false => rfl | true => exact absurd (eqT_iff.1 hq) e, hyx⟩⟩
      rw [hb] at this; cases this
theorem refTo_front (l : List Tm) : refTo l l.length = frontL l := by
  obtain ⟨h1, h2⟩ := refTo_facts l l.length (Nat.le_refl _)
  rw [List.take_length] at h2
  exact sorted_unique' (R := fun x y => ltOf Tm.cmp x y = true) (fun x h => by rw [swoT.irrefl] at h; cases h) (fun x y h k => by have := swoT.trans _ _ _ h k; rw [swoT.irrefl] at this; cases this) _ _ h1
    ((frontL_facts l).1.imp fun h => h.1) fun x => by rw [h2, mem_front]
theorem putIn_len (l : List Tm) (t : Tm) : (putIn l t).length = l.length + 1 := by
  unfold putIn
  have := congrArg List.length (List.takeWhile_append_dropWhile (p := before t) (l := l))
  rw [List.length_append] at this
  simp only [List.length_append, List.length_cons]
  omega
theorem refTo_len (l : List Tm) : ∀ k, k ≤ l.length → (refTo l k).length ≤ k
  | 0, _ => by simp [refTo]
  | k + 1, h => by
    have := refTo_len l k (by omega)
    rw [refTo_snoc (List.getElem?_eq_getElem (by omega))]
    unfold refStep
    split
    · omega
    · rw [putIn_len]; omega
end Go.Proofs.YtllpfngmnccejaaGreat
namespace Go.Proofs.YtllpfngmnccejaaGreat
open Go Go.RowKit Go.Sort Go.Lib

theorem run_append_nothing {P : Program} (w : World) (base : Nat) (t ty e : TypeId) (i : TypeInfo) (size : Nat) (ht : P.underlying t = some (.slice e)) (hi : P.info? e = some i) (v : Value) (n : Nat) (xs : List Value) (h : w.ownsRow base e size v n xs) (c : Nat) :
    (Builtin.append_ #[t, t] ty #[v, .slice none 0 c]).run P w = .ok v w := by
  rcases h.2 with ⟨rfl, _⟩ | ⟨g, cap, cur, rfl, _, _, hnc, _⟩
  · simp [Builtin.append_, run_underlying ht, typeInfo, hi, sizeOf, Builtin.firstCells, Builtin.lenOf]
  · simp [Builtin.append_, run_underlying ht, typeInfo, hi, sizeOf, Builtin.firstCells, Builtin.lenOf, storeCells, hnc]

/-- 'append(v, s...)', s a slice of times -/
theorem wpList_append_tm (w : World) {ops : Array Oper} {rest : List Oper} {o : Oper} {a : Act} {Q : Exit → Act → World → Prop} (hgd : o.guard = none) (s x : Operand)
    (ho : o.op = .call { callee := .builtin .append, args := #[s, x], argTypes := #[23, 23] })
    (base : Nat) (v : Value) (n : Nat) (xs : List Value) (hs : a.eval s = v) (hown : w.ownsRow base 46 3 v n xs)
    (B : Nat) (A : Option Addr) (c : Nat) (l : List Tm) (hx : a.eval x = .slice A l.length c) (hl : Times w B A l) (hn : (n + l.length) * 24 ≤ 140737488355328) (hbase : base ≤ w.heap.size)
    (h : ∀ v' w', w'.ownsRow base 46 3 v' (n + l.length) (xs ++ l.flatMap Tm.cells) → Below base w w' → wpList Tryz.prog ops Q rest (a.put o.dst v') w') :
    wpList Tryz.prog ops Q (o :: rest) a w := by
  obtain ⟨i0, hi, hz0, hz1, hz2⟩ := info_parts infoTm
  refine wpList_plain hgd fun K hK => ?_
  obtain ⟨v', w', hrun, ho', hb⟩ : ∃ v' w', (Builtin.append_ #[23, 23] o.type #[v, .slice A l.length c]).run Tryz.prog w = .ok v' w' ∧ w'.ownsRow base 46 3 v' (n + l.length) (xs ++ l.flatMap Tm.cells) ∧ Below base w w' := by
    cases A with
    | none =>
      have h0 : l = [] := by
        cases l with
        | nil => rfl
        | cons x l => obtain ⟨_, _, e, _⟩ := hl (by simp); cases e
      subst h0
      exact ⟨v, w, run_append_nothing w base _ _ _ i0 3 Tryz.underlying23 hi v n xs hown c, by simpa using hown, Below.refl _ _⟩
    | some ad =>
      obtain ⟨v', w', hr, h2, h3, _, _⟩ := run_append_own_at (P := Tryz.prog) w base 23 o.type 46 i0 _ 3 24 Tryz.underlying23 hi hz0 hz1 hz2 rfl (by decide) v n xs hown ad l.length c (l.flatMap Tm.cells) (flat_len l) (times_news hl) (flat_one l) (by unfold maxLen; omega) hn hbase
      exact ⟨v', w', hr, h2, (Below.refl base w).grown h3 hbase (fun k hk => (hown.lt k hk).1)⟩
  unfold Oper.wp execOp
  simp only [ho, resolve, invoke, builtin, Sem.run_bind, Sem.run_pure, Result.andThen_ok, List.map_toArray, List.map_cons, List.map_nil, hs, hx, hrun]
  exact hK _ _ (h v' w' ho' hb)
end Go.Proofs.YtllpfngmnccejaaGreat
namespace Go.Proofs.YtllpfngmnccejaaGreat
open Go Go.RowKit

/-- the same of a contract that hides its results' world -/
theorem past_cells {V : World} {g : Nat} {t : Tm} (h : Own V g 46 t.cells) :
    (∀ p : Past V, p.w.cell? ⟨g, 0, none⟩ = some (.int .u64 (t.e : Int))) ∧ (∀ p : Past V, p.w.cell? ⟨g, 1, none⟩ = some (.int .u64 (t.a : Int))) ∧ (∀ p : Past V, p.w.cell? ⟨g, 2, none⟩ = some (.int .u64 (t.b : Int))) :=
  ⟨fun p => (own_cells h p.h).1, fun p => (own_cells h p.h).2.1, fun p => (own_cells h p.h).2.2⟩
theorem past_times {V : World} {A : Option Addr} {l : List Tm} (h : Times V V.heap.size A l) (p : Past V) : Times p.w p.w.heap.size A l := times_keep h p.h
end Go.Proofs.YtllpfngmnccejaaGreat
namespace Go.Proofs.YtllpfngmnccejaaGreat
open Go Go.RowKit Go.Sort Go.Lib

theorem blocked_snoc {l : List Tm} {t u : Tm} {m : Nat} (h : l[m]? = some u) : blocked (l.take (m + 1)) t = (blocked (l.take m) t || (!eqT u t && u.le t)) := by
  unfold blocked; rw [List.take_add_one, h]; simp
theorem holdsT_snoc {l : List Tm} {t u : Tm} {m : Nat} (h : l[m]? = some u) : holdsT (l.take (m + 1)) t = (holdsT (l.take m) t || eqT u t) := by
  unfold holdsT; rw [List.take_add_one, h]; simp
theorem place_at {l : List Tm} {t : Tm} {m : Nat} (hm : m ≤ l.length) (h : ∀ (j : Nat) (y : Tm), j < m → l[j]? = some y → before t y = true) (he : ∀ y, l[m]? = some y → before t y = false) : putIn l t = l.take m ++ t :: l.drop m := by
  have key : ∀ (l : List Tm) (m : Nat), m ≤ l.length → (∀ (j : Nat) (y : Tm), j < m → l[j]? = some y → before t y = true) → (∀ y, l[m]? = some y → before t y = false) → l.takeWhile (before t) = l.take m ∧ l.dropWhile (before t) = l.drop m := by
    intro l
    induction l with
    | nil => intro m _ _ _; simp
    | cons y l ih =>
      intro m hm h he
      cases m with
      | zero => have := he y rfl; simp [List.takeWhile_cons, List.dropWhile_cons, this]
      | succ m =>
        have h0 := h 0 y (by omega) rfl
        obtain ⟨a, b⟩ := ih m (by simpa using hm) (fun j z hj hz => h (j + 1) z (by omega) (by simpa using hz)) (fun z hz => he z (by simpa using hz))
        simp [List.takeWhile_cons, List.dropWhile_cons, h0, a, b]
  obtain ⟨a, b⟩ := key l m hm h he
  unfold putIn
  rw [a, b]
end Go.Proofs.YtllpfngmnccejaaGreat
namespace Go.Proofs.YtllpfngmnccejaaGreat
open Go Go.RowKit

theorem take_same {l m : List Tm} {s t : Tm} {k : Nat} (h : l[k]? = some s) (h' : m[k]? = some t) (he : l.take k = m.take k) (hst : s = t) : l.take (k + 1) = m.take (k + 1) := by
  rw [List.take_add_one, List.take_add_one, h, h', he, hst]

set_option maxRecDepth 100000 in
set_option maxHeartbeats 1600000 in
theorem same_any (A A' : Option Addr) (c c' : Nat) (l m : List Tm) (w : World) (hl : Times w w.heap.size A l) (hm : Times w w.heap.size A' m) (hn : l.length ≤ maxLen) (hn' : m.length ≤ maxLen) :
    Calls Tryz.prog 45 #[.slice A l.length c, .slice A' m.length c'] w fun e w' => e = .returned (.bool (decide (l = m))) ∧ Below w.heap.size w w' := by
  unfold maxLen at hn hn'
  by_cases hlen : l.length = m.length
  · have hlb : ((l.length : Int) != (m.length : Int)) = false := by simp [hlen]
    have hn2 : (l.length : Int) = (m.length : Int) → True := fun _ => trivial
    have Hl := Lib.hid (And.intro hlen (And.intro hl hm))
    clear hl hm hlen hn2
    go_enter Tryz.func45, Tryz.ntmps45
    go_wp2_with fail
    go_loopw [13] (fun i wr => ∃ k : Nat, i = .int .i64 (k : Int) ∧ k ≤ l.length ∧ Below w.heap.size w wr ∧ l.take k = m.take k)
      (fun i _ => l.length - (intOf i).toNat)
    case atStart => exact ⟨0, rfl, by omega, Below.refl _ _, rfl⟩
    case round =>
      obtain ⟨k, rfl, hk, hb, he⟩ := hrel
      by_cases hlt : k < l.length
      · obtain ⟨hlen, hl, hm⟩ := Hl.out
        have hltm : k < m.length := by omega
        have hx : l[k]? = some l[k] := List.getElem?_eq_getElem hlt
        have hy : m[k]? = some m[k] := List.getElem?_eq_getElem hltm
        obtain ⟨b, o, rfl, hB, hl⟩ := hl (by omega)
        obtain ⟨b', o', rfl, hB', hm⟩ := hm (by omega)
        obtain ⟨c0, c1, c2⟩ := (hl k _ hx).past hb hB
        obtain ⟨d0, d1, d2⟩ := (hm k _ hy).past hb hB'
        generalize l[k] = s at *
        generalize m[k] = t at *
        have hne := neq_time s t
        have hgd := fun (x1 y1 : Operand) (xs ys : Array Value) (w : World) => grd_time .neq x1 y1 xs ys w
        unfold Tm.val at hne
        have HH := Lib.hid (And.intro hb (And.intro he (And.intro hx hy)))
        have q0 : (0 : Int) ≤ (k : Int) := by omega
        have q1 : (k : Int) < (l.length : Int) := by omega
        have q2 : (k : Int) < (m.length : Int) := by omega
        clear hb he hx hy hl hm hlen
        by_cases hst : s = t
        · have hv : (!eqT s t) = false := by rw [eqT_iff.2 hst]; rfl
          simp only [hv] at hne
          have HS := Lib.hid hst
          clear hst hv
          go_wp2_with fail
          go_quiet (fail)
          go_wp2_with fail
          obtain ⟨hb, he, hx, hy⟩ := HH.out
          go_roundw
          case rel => exact ⟨k + 1, by go_num, by omega, below_draws hb _, take_same hx hy he HS.out⟩
          case measure => simp [intOf]; omega
        · have hv : (!eqT s t) = true := by rw [Bool.not_eq_true', ← Bool.not_eq_true, eqT_iff]; exact hst
          simp only [hv] at hne
          have HS := Lib.hid hst
          clear hst hv
          go_wp2_with fail
          go_quiet (fail)
          go_wp2_with fail
          go_ret
          obtain ⟨hb, he, hx, hy⟩ := HH.out
          refine ⟨ret_bool (Eq.symm ?_), below_draws hb _⟩
          simp only [decide_eq_false_iff_not]
          intro h
          rw [h, hy] at hx
          exact HS.out (by injection hx with hx; exact hx.symm)
      · have hk2 : k = l.length := by omega
        have HH := Lib.hid (And.intro hb (And.intro he hk2))
        clear hb he hk2
        go_wp2_with fail
        go_ret
        obtain ⟨hb, he, rfl⟩ := HH.out
        refine ⟨ret_bool (Eq.symm ?_), hb⟩
        simp only [decide_eq_true_eq]
        have := Hl.out.1
        rw [List.take_length, this, List.take_length] at he
        exact he
  · have hd : decide (l = m) = false := by simp; intro h; exact hlen (by rw [h])
    rw [hd]
    have hlb : ((l.length : Int) != (m.length : Int)) = true := by simp; omega
    clear hlen hd hl hm
    go_enter Tryz.func45, Tryz.ntmps45
    go_wp2_with fail
    go_ret
    exact ⟨rfl, Below.refl _ _⟩
end Go.Proofs.YtllpfngmnccejaaGreat
