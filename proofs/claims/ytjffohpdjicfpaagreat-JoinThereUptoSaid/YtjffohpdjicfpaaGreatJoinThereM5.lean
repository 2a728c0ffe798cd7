/- Part 5 of the texts on which JoinThere rests: facts and contracts. -/
import Derived.Test.YtjffohpdjicfpaaGreatJoinThereM4
import Derived.Handy
import Derived.Deep.AppendLies
import Derived.Deep.DeepCutAuto
import Derived.Shelf.SlSortCmp.NoneTotal
import Derived.BigQuiet
namespace Go.Proofs.YtjffohpdjicfpaaGreat
open Go Go.RowKit
theorem fold_take {α : Type} (f : α → α → α) (x s : α) (l : List α) (k : Nat) (h : l[k]? = some s) : (l.take (k + 1)).foldl f x = f ((l.take k).foldl f x) s := by
  rw [List.take_add_one, h, List.foldl_append]; rfl

set_option maxRecDepth 100000 in
set_option maxHeartbeats 1600000 in
theorem bound_sup (b o c : Nat) (x : Tm) (l : List Tm) (w : World) (hx : TmAt w b o x) (hB : b < w.heap.size) (hl : ∀ (i : Nat) (t : Tm), l[i]? = some t → TmAt w b (o + 3 + i * 3) t) (hc : l.length + 1 ≤ c) (hn : c ≤ maxLen) :
    Calls Tryz.prog 139 #[.slice (some ⟨b, o, none⟩) (l.length + 1) c, .func (.func 81) #[] #[]] w
      fun e w' => e = .returned (l.foldl Tm.sup x).val ∧ Below w.heap.size w w' := by
  unfold maxLen at hn
  have Hl := Lib.hid hl
  clear hl
  obtain ⟨x0, x1, x2⟩ := hx
  have hcall := fun (s t : Tm) (W : World) => Lib.hid (each_greater s.a s.b t.a t.b W)
  have hB' : b < w.heap.size + 1 := by omega
  have hne0 : ¬ b = w.heap.size := by omega
  by_cases hc1 : c = 1
  · have hl0 : l = [] := List.eq_nil_of_length_eq_zero (by omega)
    subst hl0 hc1
    simp only [List.length_nil, Nat.zero_add, List.foldl_nil]
    unfold Tm.val
    go_enter Tryz.func139, Tryz.ntmps139
    go_wp2_with fail
    go_rounds 1
    refine bodyPost_ret (v := .agg #[.int .u64 (x.e : Int), .int .u64 (x.a : Int), .int .u64 (x.b : Int)]) (by simp [results, Tryz.results139, go_sem]) rfl ⟨rfl, ((Below.refl _ _).alloc (Nat.le_refl _) _).alloc (by simp) _⟩
  · have h10 : ((l.length : Int) + 1 == 0) = false := by simp; omega
    go_enter Tryz.func139, Tryz.ntmps139
    go_wp2_with fail
    go_loopw [18] (fun i wr => ∃ k : Nat, i = .int .i64 (k : Int) ∧ k ≤ l.length ∧ Below w.heap.size w wr ∧
        Own wr w.heap.size 26 [.int .u64 0, .int .u64 0, .int .u64 0] ∧ Own wr (w.heap.size + 1) 26 ((l.take k).foldl Tm.sup x).cells)
      (fun i _ => l.length - (intOf i).toNat)
    case atStart =>
      exact ⟨0, rfl, by omega, ((Below.refl _ _).alloc (Nat.le_refl _) _).alloc (by simp) _, (Own.made w _ _).more _, by have := Own.made (w.alloc (.cells #[.int .u64 0, .int .u64 0, .int .u64 0] 26)) 26 x.cells; simpa [Tm.cells] using this⟩
    case round =>
      obtain ⟨k, rfl, hk, hb, hr, hf⟩ := hrel
      have hs := hf.inside
      by_cases hlt : k < l.length
      · have hx : l[k]? = some l[k] := List.getElem?_eq_getElem hlt
        obtain ⟨c0, c1, c2⟩ := (Hl.out k _ hx).past hb hB
        have hsn := fold_take Tm.sup x _ l k hx
        generalize l[k] = s at *
        generalize hg : (l.take k).foldl Tm.sup x = g at *
        have f0 := hf.at_ 0
        have f1 := hf.at_ 1
        have f2 := hf.at_ 2
        have g0 := hf.open_ 0
        have g1 := hf.open_ 1
        have g2 := hf.open_ 2
        simp only [Tm.cells, List.getElem?_cons_zero, List.getElem?_cons_succ] at f0 f1 f2
        have HH := Lib.hid (And.intro hb (And.intro hr (And.intro hf (And.intro hsn (And.intro hx hg)))))
        clear hb hr hf hsn hx hg
        go_wp2_with fail
        refine (greater_any _ _ _).mono ?_
        rintro e w1 ⟨rfl, rfl⟩
        go_wp2_with fail
        refine (each_greater _ _ _ _ _).mono ?_
        rintro e w1 ⟨rfl, h1⟩
        have hf1 : Own w1 (w.heap.size + 1) 26 [.int .u64 ((max g.e s.e : Nat) : Int), .int .u64 (g.a : Int), .int .u64 (g.b : Int)] := ((HH.out.2.2.1.set_ 0 _).more _).past h1 (by simp; omega)
        have hr1 : Own w1 w.heap.size 26 [.int .u64 0, .int .u64 0, .int .u64 0] := ((HH.out.2.1.other (p := ⟨w.heap.size + 1, 0, none⟩) (by simp) _).more _).past h1 (by simp; omega)
        have hb1 : Below w.heap.size w w1 := ((HH.out.1.setCell (p := ⟨w.heap.size + 1, 0, none⟩) (by simp) _).alloc (by simp; omega) _).trans (h1.mono (by simp; omega))
        have k1 := hf1.open_ 1
        have k2 := hf1.open_ 2
        have k3 := hf1.at_ 1
        have k4 := hf1.at_ 2
        simp only [List.getElem?_cons_zero, List.getElem?_cons_succ] at k3 k4
        have H1 := Lib.hid (And.intro hf1 (And.intro hr1 hb1))
        clear hf1 hr1 hb1 h1
        go_wp2_with fail
        obtain ⟨hf1, hr1, hb1⟩ := H1.out
        obtain ⟨hb, hr, hf, hsn, hx, hg⟩ := HH.out
        go_roundw
        case rel => exact ⟨k + 1, by go_num, by omega, (hb1.setCell (p := ⟨w.heap.size + 1, 1, none⟩) (by simp) _).setCell (p := ⟨w.heap.size + 1, 2, none⟩) (by simp) _, (hr1.other (p := ⟨w.heap.size + 1, 1, none⟩) (by simp) _).other (p := ⟨w.heap.size + 1, 2, none⟩) (by simp) _, by rw [hsn]; exact (hf1.set_ 1 _).set_ 2 _⟩
        case measure => simp [intOf]; omega
      · have hk2 : k = l.length := by omega
        have f0 := hf.at_ 0
        have f1 := hf.at_ 1
        have f2 := hf.at_ 2
        have g0 := hr.open_ 0
        have g1 := hr.open_ 1
        have g2 := hr.open_ 2
        have e0 := hr.at_ 0
        have e1 := hr.at_ 1
        have e2 := hr.at_ 2
        subst hk2
        rw [List.take_length] at *
        generalize hg : l.foldl Tm.sup x = g at *
        obtain ⟨d0, d1, d2⟩ := hr.stored3 (.int .u64 (g.e : Int)) (.int .u64 (g.a : Int)) (.int .u64 (g.b : Int))
        have H1 := Lib.hid (And.intro hg (And.intro hb (And.intro d0 (And.intro d1 d2))))
        simp only [Tm.cells, List.getElem?_cons_zero, List.getElem?_cons_succ] at f0 f1 f2 e0 e1 e2
        clear hr hf hb d0 d1 d2 hg
        go_wp2_with fail
        obtain ⟨hg, hb, d0, d1, d2⟩ := H1.out
        refine bodyPost_ret (v := g.val) (by simp [results, Tryz.results139, go_sem, d0, d1, d2, Tm.val]) rfl ⟨congrArg (fun g : Tm => Ending.returned g.val) hg.symm, below_set3 hb (Nat.le_refl _) _ _ _⟩

set_option maxRecDepth 100000 in
set_option maxHeartbeats 1600000 in
theorem bound_inf (b o c : Nat) (x : Tm) (l : List Tm) (w : World) (hx : TmAt w b o x) (hB : b < w.heap.size) (hl : ∀ (i : Nat) (t : Tm), l[i]? = some t → TmAt w b (o + 3 + i * 3) t) (hc : l.length + 1 ≤ c) (hn : c ≤ maxLen) :
    Calls Tryz.prog 139 #[.slice (some ⟨b, o, none⟩) (l.length + 1) c, .func (.func 212) #[] #[]] w
      fun e w' => e = .returned (l.foldl Tm.inf x).val ∧ Below w.heap.size w w' := by
  unfold maxLen at hn
  have Hl := Lib.hid hl
  clear hl
  obtain ⟨x0, x1, x2⟩ := hx
  have hcall := fun (s t : Tm) (W : World) => Lib.hid (each_smaller s.a s.b t.a t.b W)
  have hB' : b < w.heap.size + 1 := by omega
  have hne0 : ¬ b = w.heap.size := by omega
  by_cases hc1 : c = 1
  · have hl0 : l = [] := List.eq_nil_of_length_eq_zero (by omega)
    subst hl0 hc1
    simp only [List.length_nil, Nat.zero_add, List.foldl_nil]
    unfold Tm.val
    go_enter Tryz.func139, Tryz.ntmps139
    go_wp2_with fail
    go_rounds 1
    refine bodyPost_ret (v := .agg #[.int .u64 (x.e : Int), .int .u64 (x.a : Int), .int .u64 (x.b : Int)]) (by simp [results, Tryz.results139, go_sem]) rfl ⟨rfl, ((Below.refl _ _).alloc (Nat.le_refl _) _).alloc (by simp) _⟩
  · have h10 : ((l.length : Int) + 1 == 0) = false := by simp; omega
    go_enter Tryz.func139, Tryz.ntmps139
    go_wp2_with fail
    go_loopw [18] (fun i wr => ∃ k : Nat, i = .int .i64 (k : Int) ∧ k ≤ l.length ∧ Below w.heap.size w wr ∧
        Own wr w.heap.size 26 [.int .u64 0, .int .u64 0, .int .u64 0] ∧ Own wr (w.heap.size + 1) 26 ((l.take k).foldl Tm.inf x).cells)
      (fun i _ => l.length - (intOf i).toNat)
    case atStart =>
      exact ⟨0, rfl, by omega, ((Below.refl _ _).alloc (Nat.le_refl _) _).alloc (by simp) _, (Own.made w _ _).more _, by have := Own.made (w.alloc (.cells #[.int .u64 0, .int .u64 0, .int .u64 0] 26)) 26 x.cells; simpa [Tm.cells] using this⟩
    case round =>
      obtain ⟨k, rfl, hk, hb, hr, hf⟩ := hrel
      have hs := hf.inside
      by_cases hlt : k < l.length
      · have hx : l[k]? = some l[k] := List.getElem?_eq_getElem hlt
        obtain ⟨c0, c1, c2⟩ := (Hl.out k _ hx).past hb hB
        have hsn := fold_take Tm.inf x _ l k hx
        generalize l[k] = s at *
        generalize hg : (l.take k).foldl Tm.inf x = g at *
        have f0 := hf.at_ 0
        have f1 := hf.at_ 1
        have f2 := hf.at_ 2
        have g0 := hf.open_ 0
        have g1 := hf.open_ 1
        have g2 := hf.open_ 2
        simp only [Tm.cells, List.getElem?_cons_zero, List.getElem?_cons_succ] at f0 f1 f2
        have HH := Lib.hid (And.intro hb (And.intro hr (And.intro hf (And.intro hsn (And.intro hx hg)))))
        clear hb hr hf hsn hx hg
        go_wp2_with fail
        refine (smaller_any _ _ _).mono ?_
        rintro e w1 ⟨rfl, rfl⟩
        go_wp2_with fail
        refine (each_smaller _ _ _ _ _).mono ?_
        rintro e w1 ⟨rfl, h1⟩
        have hf1 : Own w1 (w.heap.size + 1) 26 [.int .u64 ((min g.e s.e : Nat) : Int), .int .u64 (g.a : Int), .int .u64 (g.b : Int)] := ((HH.out.2.2.1.set_ 0 _).more _).past h1 (by simp; omega)
        have hr1 : Own w1 w.heap.size 26 [.int .u64 0, .int .u64 0, .int .u64 0] := ((HH.out.2.1.other (p := ⟨w.heap.size + 1, 0, none⟩) (by simp) _).more _).past h1 (by simp; omega)
        have hb1 : Below w.heap.size w w1 := ((HH.out.1.setCell (p := ⟨w.heap.size + 1, 0, none⟩) (by simp) _).alloc (by simp; omega) _).trans (h1.mono (by simp; omega))
        have k1 := hf1.open_ 1
        have k2 := hf1.open_ 2
        have k3 := hf1.at_ 1
        have k4 := hf1.at_ 2
        simp only [List.getElem?_cons_zero, List.getElem?_cons_succ] at k3 k4
        have H1 := Lib.hid (And.intro hf1 (And.intro hr1 hb1))
        clear hf1 hr1 hb1 h1
        go_wp2_with fail
        obtain ⟨hf1, hr1, hb1⟩ := H1.out
        obtain ⟨hb, hr, hf, hsn, hx, hg⟩ := HH.out
        go_roundw
        case rel => exact ⟨k + 1, by go_num, by omega, (hb1.setCell (p := ⟨w.heap.size + 1, 1, none⟩) (by simp) _).setCell (p := ⟨w.heap.size + 1, 2, none⟩) (by simp) _, (hr1.other (p := ⟨w.heap.size + 1, 1, none⟩) (by simp) _).other (p := ⟨w.heap.size + 1, 2, none⟩) (by simp) _, by rw [hsn]; exact (hf1.set_ 1 _).set_ 2 _⟩
        case measure => simp [intOf]; omega
      · have hk2 : k = l.length := by omega
        have f0 := hf.at_ 0
        have f1 := hf.at_ 1
        have f2 := hf.at_ 2
        have g0 := hr.open_ 0
        have g1 := hr.open_ 1
        have g2 := hr.open_ 2
        have e0 := hr.at_ 0
        have e1 := hr.at_ 1
        have e2 := hr.at_ 2
        subst hk2
        rw [List.take_length] at *
        generalize hg : l.foldl Tm.inf x = g at *
        obtain ⟨d0, d1, d2⟩ := hr.stored3 (.int .u64 (g.e : Int)) (.int .u64 (g.a : Int)) (.int .u64 (g.b : Int))
        have H1 := Lib.hid (And.intro hg (And.intro hb (And.intro d0 (And.intro d1 d2))))
        simp only [Tm.cells, List.getElem?_cons_zero, List.getElem?_cons_succ] at f0 f1 f2 e0 e1 e2
        clear hr hf hb d0 d1 d2 hg
        go_wp2_with fail
        obtain ⟨hg, hb, d0, d1, d2⟩ := H1.out
        refine bodyPost_ret (v := g.val) (by simp [results, Tryz.results139, go_sem, d0, d1, d2, Tm.val]) rfl ⟨congrArg (fun g : Tm => Ending.returned g.val) hg.symm, below_set3 hb (Nat.le_refl _) _ _ _⟩
def lub : List Tm → Tm | [] => ⟨0, 0, 0⟩ | x :: l => l.foldl Tm.sup x
def glb : List Tm → Tm | [] => ⟨0, 0, 0⟩ | x :: l => l.foldl Tm.inf x

set_option maxRecDepth 100000 in
set_option maxHeartbeats 400000 in
theorem bound_nil_lub (A : Option Addr) (c : Nat) (w : World) :
    Calls Tryz.prog 139 #[.slice A 0 c, .func (.func 81) #[] #[]] w fun e w' => e = .returned (Tm.mk 0 0 0).val ∧ Below w.heap.size w w' := by
  unfold Tm.val
  go_enter Tryz.func139, Tryz.ntmps139
  go_wp2_with fail
  refine bodyPost_ret (v := .agg #[.int .u64 0, .int .u64 0, .int .u64 0]) (by simp [results, Tryz.results139, go_sem]) rfl ⟨rfl, (Below.refl _ _).alloc (Nat.le_refl _) _⟩
theorem bound_any_lub (A : Option Addr) (c : Nat) (l : List Tm) (w : World) (hl : Times w w.heap.size A l) (hc : l.length ≤ c) (hn : c ≤ maxLen) :
    Calls Tryz.prog 139 #[.slice A l.length c, .func (.func 81) #[] #[]] w fun e w' => e = .returned (lub l).val ∧ Below w.heap.size w w' := by
  cases l with
  | nil => exact bound_nil_lub A c w
  | cons x l =>
    obtain ⟨b, o, rfl, hB, ht⟩ := hl (by simp)
    exact bound_sup b o c x l w (by simpa using ht 0 x rfl) hB (fun i t h => by have := ht (i + 1) t (by simpa using h); rwa [Nat.add_mul, Nat.one_mul, ← Nat.add_assoc, Nat.add_right_comm] at this) (by simpa using hc) hn
set_option maxRecDepth 100000 in
set_option maxHeartbeats 400000 in
theorem lub_any (A : Option Addr) (c : Nat) (l : List Tm) (w : World) (hl : Times w w.heap.size A l) (hc : l.length ≤ c) (hn : c ≤ maxLen) :
    Calls Tryz.prog 91 #[.slice A l.length c] w fun e w' => e = .returned (lub l).val ∧ Below w.heap.size w w' := by
  have hcall := Lib.hid (fun W h => bound_any_lub A c l W h hc hn)
  have Hl := Lib.hid hl
  clear hl
  generalize hr : lub l = r at hcall
  unfold Tm.val at hcall ⊢
  go_enter Tryz.func91, Tryz.ntmps91
  go_wp2_with fail
  refine (hcall.out _ ?_).mono ?_
  · exact (Hl.out.past ((Below.refl _ _).alloc (Nat.le_refl _) _) (Nat.le_refl _)).wide (by simp)
  rintro e w1 ⟨rfl, h1⟩
  have hr1 : Own w1 w.heap.size 26 [.int .u64 0, .int .u64 0, .int .u64 0] := (Own.made w _ _).past h1 (by simp)
  have g0 := hr1.open_ 0
  have g1 := hr1.open_ 1
  have g2 := hr1.open_ 2
  have e0 := hr1.at_ 0
  have e1 := hr1.at_ 1
  have e2 := hr1.at_ 2
  obtain ⟨d0, d1, d2⟩ := hr1.stored3 (.int .u64 (r.e : Int)) (.int .u64 (r.a : Int)) (.int .u64 (r.b : Int))
  simp only [List.getElem?_cons_zero, List.getElem?_cons_succ] at e0 e1 e2
  have H1 := Lib.hid (And.intro hr (And.intro h1 (And.intro d0 (And.intro d1 d2))))
  clear hr1 h1 d0 d1 d2 hr hcall
  go_wp2_with fail
  obtain ⟨hr, h1, d0, d1, d2⟩ := H1.out
  refine bodyPost_ret (v := r.val) (by simp [results, Tryz.results91, go_sem, d0, d1, d2, Tm.val]) rfl ⟨rfl, below_set3 (((Below.refl _ _).alloc (Nat.le_refl _) _).trans (h1.mono (by simp))) (Nat.le_refl _) _ _ _⟩

set_option maxRecDepth 100000 in
set_option maxHeartbeats 400000 in
theorem bound_nil_glb (A : Option Addr) (c : Nat) (w : World) :
    Calls Tryz.prog 139 #[.slice A 0 c, .func (.func 212) #[] #[]] w fun e w' => e = .returned (Tm.mk 0 0 0).val ∧ Below w.heap.size w w' := by
  unfold Tm.val
  go_enter Tryz.func139, Tryz.ntmps139
  go_wp2_with fail
  refine bodyPost_ret (v := .agg #[.int .u64 0, .int .u64 0, .int .u64 0]) (by simp [results, Tryz.results139, go_sem]) rfl ⟨rfl, (Below.refl _ _).alloc (Nat.le_refl _) _⟩
theorem bound_any_glb (A : Option Addr) (c : Nat) (l : List Tm) (w : World) (hl : Times w w.heap.size A l) (hc : l.length ≤ c) (hn : c ≤ maxLen) :
    Calls Tryz.prog 139 #[.slice A l.length c, .func (.func 212) #[] #[]] w fun e w' => e = .returned (glb l).val ∧ Below w.heap.size w w' := by
  cases l with
  | nil => exact bound_nil_glb A c w
  | cons x l =>
    obtain ⟨b, o, rfl, hB, ht⟩ := hl (by simp)
    exact bound_inf b o c x l w (by simpa using ht 0 x rfl) hB (fun i t h => by have := ht (i + 1) t (by simpa using h); rwa [Nat.add_mul, Nat.one_mul, ← Nat.add_assoc, Nat.add_right_comm] at this) (by simpa using hc) hn
set_option maxRecDepth 100000 in
set_option maxHeartbeats 400000 in
theorem glb_any (A : Option Addr) (c : Nat) (l : List Tm) (w : World) (hl : Times w w.heap.size A l) (hc : l.length ≤ c) (hn : c ≤ maxLen) :
    Calls Tryz.prog 188 #[.slice A l.length c] w fun e w' => e = .returned (glb l).val ∧ Below w.heap.size w w' := by
  have hcall := Lib.hid (fun W h => bound_any_glb A c l W h hc hn)
  have Hl := Lib.hid hl
  clear hl
  generalize hr : glb l = r at hcall
  unfold Tm.val at hcall ⊢
  go_enter Tryz.func188, Tryz.ntmps188
  go_wp2_with fail
  refine (hcall.out _ ?_).mono ?_
  · exact (Hl.out.past ((Below.refl _ _).alloc (Nat.le_refl _) _) (Nat.le_refl _)).wide (by simp)
  rintro e w1 ⟨rfl, h1⟩
  have hr1 : Own w1 w.heap.size 26 [.int .u64 0, .int .u64 0, .int .u64 0] := (Own.made w _ _).past h1 (by simp)
  have g0 := hr1.open_ 0
  have g1 := hr1.open_ 1
  have g2 := hr1.open_ 2
  have e0 := hr1.at_ 0
  have e1 := hr1.at_ 1
  have e2 := hr1.at_ 2
  obtain ⟨d0, d1, d2⟩ := hr1.stored3 (.int .u64 (r.e : Int)) (.int .u64 (r.a : Int)) (.int .u64 (r.b : Int))
  simp only [List.getElem?_cons_zero, List.getElem?_cons_succ] at e0 e1 e2
  have H1 := Lib.hid (And.intro hr (And.intro h1 (And.intro d0 (And.intro d1 d2))))
  clear hr1 h1 d0 d1 d2 hr hcall
  go_wp2_with fail
  obtain ⟨hr, h1, d0, d1, d2⟩ := H1.out
  refine bodyPost_ret (v := r.val) (by simp [results, Tryz.results188, go_sem, d0, d1, d2, Tm.val]) rfl ⟨rfl, below_set3 (((Below.refl _ _).alloc (Nat.le_refl _) _).trans (h1.mono (by simp))) (Nat.le_refl _) _ _ _⟩
attribute [local go_sem ↓] Go.wp_at_zero Go.wp_at_succ

def adv (t : Tm) (l : List Tm) : Tm := match l with | [] => t | x :: l => l.foldl (fun a y => a.inf (t.sup y)) (t.sup x)
theorem times_two (w : World) (s t : Tm) : Times (w.alloc (.cells #[.int .u64 (s.e : Int), .int .u64 (s.a : Int), .int .u64 (s.b : Int), .int .u64 (t.e : Int), .int .u64 (t.a : Int), .int .u64 (t.b : Int)] 26)) (w.heap.size + 1) (some ⟨w.heap.size, 0, none⟩) [s, t] := by
  intro _
  refine ⟨_, _, rfl, by omega, fun i x hx => ?_⟩
  match i, hx with
  | 0, hx => obtain rfl : s = x := by simpa using hx
             exact ⟨by simp [go_sem], by simp [go_sem], by simp [go_sem]⟩
  | 1, hx => obtain rfl : t = x := by simpa using hx
             exact ⟨by simp [go_sem], by simp [go_sem], by simp [go_sem]⟩
theorem times_two' {w : World} {N : Nat} (s t : Tm) (hN : w.heap.size = N) : Times (w.alloc (.cells #[.int .u64 (s.e : Int), .int .u64 (s.a : Int), .int .u64 (s.b : Int), .int .u64 (t.e : Int), .int .u64 (t.a : Int), .int .u64 (t.b : Int)] 26)) (N + 1) (some ⟨N, 0, none⟩) [s, t] := hN ▸ times_two w s t
theorem fold_take2 {α β : Type} (f : β → α → β) (x : β) (s : α) (l : List α) (k : Nat) (h : l[k]? = some s) : (l.take (k + 1)).foldl f x = f ((l.take k).foldl f x) s := by
  rw [List.take_add_one, h, List.foldl_append]; rfl
theorem own_set3_other {w : World} {g h : Nat} {t : TypeId} {l : List Value} (o : Own w g t l) (hg : h ≠ g) (x y z : Value) : Own (((w.setCell ⟨h, 0, none⟩ x).setCell ⟨h, 1, none⟩ y).setCell ⟨h, 2, none⟩ z) g t l :=
  ((o.other (p := ⟨h, 0, none⟩) hg _).other (p := ⟨h, 1, none⟩) hg _).other (p := ⟨h, 2, none⟩) hg _
theorem own_drew {w : World} {g : Nat} {t : TypeId} {l : List Value} (o : Own w g t l) : Own w.drew g t l := o
theorem times_here {W : World} {B C : Nat} {A : Option Addr} {l : List Tm} (h : Times W B A l) (hB : B ≤ C) : Times W C A l := h.wide hB
theorem times_later {W : World} {o : Obj} {B C : Nat} {A : Option Addr} {l : List Tm} (h : Times W B A l) (hB : B ≤ C ∧ B ≤ W.heap.size) : Times (W.alloc o) C A l :=
  (h.past ((Below.refl _ _).alloc (Nat.le_refl _) _) hB.2).wide hB.1
set_option maxRecDepth 100000 in
set_option maxHeartbeats 1600000 in
theorem advance_any (t : Tm) (A : Option Addr) (c : Nat) (l : List Tm) (w : World) (hl : Times w w.heap.size A l) (hc : l.length ≤ c) (hn : c ≤ maxLen) :
    Calls Tryz.prog 151 #[t.val, .slice A l.length c] w fun e w' => e = .returned (adv t l).val ∧ Below w.heap.size w w' := by
  cases l with
  | nil =>
    unfold Tm.val adv
    go_enter Tryz.func151, Tryz.ntmps151
    go_wp2_with fail
    refine bodyPost_ret (v := .agg #[.int .u64 (t.e : Int), .int .u64 (t.a : Int), .int .u64 (t.b : Int)]) (by simp [results, Tryz.results151, go_sem]) rfl ⟨rfl, ?_⟩
    exact ((Below.refl _ _).alloc (Nat.le_refl _) _).alloc (by simp) _
  | cons x l =>
    obtain ⟨b, o, rfl, hB, hl⟩ := hl (by simp)
    obtain ⟨x0, x1, x2⟩ := hl 0 x rfl
    rw [Nat.zero_mul, Nat.add_zero] at x0 x1 x2
    unfold maxLen at hn
    rw [List.length_cons] at hc ⊢
    have h10 : ((l.length : Int) + 1 == 0) = false := by simp; omega
    have hz : (0 : Int) < (l.length : Int) + 1 := by omega
    have Hl := Lib.hid hl
    clear hl
    have hglb := fun (s t : Tm) A W h => Lib.hid (glb_any A 2 [s, t] W h (by simp) (by unfold maxLen; omega))
    have hlub := fun (s t : Tm) A W h => Lib.hid (lub_any A 2 [s, t] W h (by simp) (by unfold maxLen; omega))
    unfold Tm.val at hlub hglb ⊢
    go_enter Tryz.func151, Tryz.ntmps151
    go_upto_region 3 with fail
    go_cut [5] (fun s5 wx => ∃ G : Nat, s5 = .pointer (some ⟨G, 0, none⟩) ∧ Below w.heap.size w wx ∧ Own wx w.heap.size 26 t.cells ∧ Own wx (w.heap.size + 1) 26 [.int .u64 0, .int .u64 0, .int .u64 0] ∧
        Own wx G 26 (t.sup x).cells ∧ w.heap.size + 1 < G)
    case first =>
      have f : Below w.heap.size w ((w.alloc (.cells #[.int .u64 (t.e : Int), .int .u64 (t.a : Int), .int .u64 (t.b : Int)] 26)).alloc (.cells #[.int .u64 0, .int .u64 0, .int .u64 0] 26)) ∧
          Own ((w.alloc (.cells #[.int .u64 (t.e : Int), .int .u64 (t.a : Int), .int .u64 (t.b : Int)] 26)).alloc (.cells #[.int .u64 0, .int .u64 0, .int .u64 0] 26)) w.heap.size 26 t.cells ∧
          Own ((w.alloc (.cells #[.int .u64 (t.e : Int), .int .u64 (t.a : Int), .int .u64 (t.b : Int)] 26)).alloc (.cells #[.int .u64 0, .int .u64 0, .int .u64 0] 26)) (w.heap.size + 1) 26 [.int .u64 0, .int .u64 0, .int .u64 0] :=
        ⟨((Below.refl _ _).alloc (Nat.le_refl _) _).alloc (by simp) _, by have := (Own.made w 26 t.cells).more (.cells #[.int .u64 0, .int .u64 0, .int .u64 0] 26); simpa [Tm.cells] using this, by
          have := Own.made (w.alloc (.cells #[.int .u64 (t.e : Int), .int .u64 (t.a : Int), .int .u64 (t.b : Int)] 26)) 26 [.int .u64 0, .int .u64 0, .int .u64 0]; simpa using this⟩
      generalize (w.alloc (.cells #[.int .u64 (t.e : Int), .int .u64 (t.a : Int), .int .u64 (t.b : Int)] 26)).alloc (.cells #[.int .u64 0, .int .u64 0, .int .u64 0] 26) = W at f ⊢
      obtain ⟨fb, ft, fr⟩ := f
      replace x0 := (fb.cell (p := ⟨b, o, none⟩) hB).trans x0
      replace x1 := (fb.cell (p := ⟨b, o + 1, none⟩) hB).trans x1
      replace x2 := (fb.cell (p := ⟨b, o + 2, none⟩) hB).trans x2
      have t0 := ft.at_ 0
      have t1 := ft.at_ 1
      have t2 := ft.at_ 2
      simp only [Tm.cells, List.getElem?_cons_zero, List.getElem?_cons_succ] at t0 t1 t2
      have hsz := fr.inside
      have ne1 := World.new_ne W _ x0
      have ne2 := World.new_ne W _ x1
      have ne3 := World.new_ne W _ x2
      have ne4 := World.new_ne W _ t0
      have ne5 := World.new_ne W _ t1
      have ne6 := World.new_ne W _ t2
      have HH := Lib.hid (And.intro fb (And.intro ft fr))
      have hB0 := hB
      have hBW : b < W.heap.size := by omega
      have hNW : w.heap.size < W.heap.size := by omega
      clear fb ft fr
      go_region_held3 (fun w' => w'.cell? ⟨w.heap.size, 0, none⟩ = some (.int .u64 (t.e : Int)) ∧ w'.cell? ⟨w.heap.size, 1, none⟩ = some (.int .u64 (t.a : Int)) ∧ w'.cell? ⟨w.heap.size, 2, none⟩ = some (.int .u64 (t.b : Int)) ∧
          w'.cell? ⟨b, o, none⟩ = some (.int .u64 (x.e : Int)) ∧ w'.cell? ⟨b, o + 1, none⟩ = some (.int .u64 (x.a : Int)) ∧ w'.cell? ⟨b, o + 2, none⟩ = some (.int .u64 (x.b : Int)))
        (first | go_keep | (((try dsimp only); (repeat' apply And.intro)) <;> (refine (Below.cell (w := W) (B := W.heap.size) ?_ (by first | exact hNW | exact hBW)).trans (by assumption); repeat (first | exact Below.refl _ _ | refine Below.drew ?_ | refine Below.alloc ?_ (by first | (simp; done) | (simp; omega) | (have hz := hb.size; simp at hz; simp; omega) | (have hz := hb.size; simp at hz; omega)) _ | refine Below.setCell ?_ (by first | (simp; done) | (simp; omega) | (have hz := hb.size; simp at hz; simp; omega) | (have hz := hb.size; simp at hz; omega)) _ | refine below_then ?_ (by first | (simp; done) | (simp; omega) | (have hz := hb.size; simp at hz; simp; omega) | (have hz := hb.size; simp at hz; omega)) hb))))
        (first | (go_at_call 91; refine (hlub t x _ _ ?_).out.mono ?_; (first | exact times_here (times_two' _ _ (by simp)) (by simp) | exact times_later (times_two' _ _ (by simp)) (by simp)); rintro e w1 ⟨rfl, hb⟩; obtain ⟨hcc, hff⟩ := olds hb))
      all_goals
        go_wp2_with fail
        go_meet
        have h1 : Below W.heap.size W w1 := by
          refine below_then ?_ (by simp) hb
          repeat (first | exact Below.refl _ _ | refine Below.drew ?_ | refine Below.alloc ?_ (by first | (simp; done) | (simp; omega)) _)
        obtain ⟨fb, ft, fr⟩ := HH.out
        have hbW : Below w.heap.size w w1 := fb.trans (h1.mono (by omega))
        have ft' := ft.past h1 hNW
        have fr' := fr.past h1 hsz
        have hz1 := h1.size
      · exact ⟨_, rfl, hbW.alloc hbW.size _, ft'.more _, fr'.more _, Own.made w1 _ (t.sup x).cells, by omega⟩
      · have hg : Own w1 (W.heap.size + 1) 26 [.int .u64 0, .int .u64 0, .int .u64 0] := by
          refine Own.past ?_ hb (by simp)
          have := (Own.made (W.alloc (.cells #[.int .u64 (t.e : Int), .int .u64 (t.a : Int), .int .u64 (t.b : Int), .int .u64 (x.e : Int), .int .u64 (x.a : Int), .int .u64 (x.b : Int)] 26)) 26 [.int .u64 0, .int .u64 0, .int .u64 0])
          simp only [World.size_alloc] at this
          exact this.draws 1
        exact ⟨_, rfl, below_set3 hbW (by omega) _ _ _, own_set3_other ft' (by omega) _ _ _, own_set3_other fr' (by omega) _ _ _, ((hg.set_ 0 _).set_ 1 _).set_ 2 _, by omega⟩
      · have hg : Own w1 W.heap.size 26 [.int .u64 0, .int .u64 0, .int .u64 0] := by
          refine Own.past ?_ hb (by simp; omega)
          exact ((Own.made W 26 [.int .u64 0, .int .u64 0, .int .u64 0]).more _).draws 1
        exact ⟨_, rfl, below_set3 hbW (by omega) _ _ _, own_set3_other ft' (by omega) _ _ _, own_set3_other fr' (by omega) _ _ _, ((hg.set_ 0 _).set_ 1 _).set_ 2 _, by omega⟩
    case rest =>
      obtain ⟨G, rfl, fb, ft, fr, fg, hG⟩ := hcut
      by_cases hc1 : c = 1
      · have hl0 : l = [] := List.eq_nil_of_length_eq_zero (by omega)
        subst hl0 hc1
        have f0 := fg.at_ 0
        have f1 := fg.at_ 1
        have f2 := fg.at_ 2
        have g0 := fr.open_ 0
        have g1 := fr.open_ 1
        have g2 := fr.open_ 2
        have e0 := fr.at_ 0
        have e1 := fr.at_ 1
        have e2 := fr.at_ 2
        generalize hg : t.sup x = g at *
        obtain ⟨d0, d1, d2⟩ := fr.stored3 (.int .u64 (g.e : Int)) (.int .u64 (g.a : Int)) (.int .u64 (g.b : Int))
        have H1 := Lib.hid (And.intro hg (And.intro fb (And.intro d0 (And.intro d1 d2))))
        simp only [Tm.cells, List.getElem?_cons_zero, List.getElem?_cons_succ] at f0 f1 f2 e0 e1 e2
        clear ft fr fg fb d0 d1 d2 hg
        go_wp2_with fail
        go_rounds 1
        obtain ⟨hg, hb, d0, d1, d2⟩ := H1.out
        refine bodyPost_ret (v := g.val) (by simp [results, Tryz.results151, go_sem, d0, d1, d2, Tm.val]) rfl ⟨congrArg (fun g : Tm => Ending.returned g.val) hg.symm, below_set3 hb (by omega) _ _ _⟩
      · have HH := Lib.hid (And.intro fb (And.intro ft (And.intro fr fg)))
        clear fb ft fr fg
        go_wp2_with fail
        go_loopw [21] (fun i wr => ∃ k : Nat, i = .int .i64 (k : Int) ∧ k ≤ l.length ∧ Below w.heap.size w wr ∧ Own wr w.heap.size 26 t.cells ∧ Own wr (w.heap.size + 1) 26 [.int .u64 0, .int .u64 0, .int .u64 0] ∧
            Own wr G 26 ((l.take k).foldl (fun a y => a.inf (t.sup y)) (t.sup x)).cells)
          (fun i _ => l.length - (intOf i).toNat)
        case atStart =>
          obtain ⟨fb, ft, fr, fg⟩ := HH.out
          exact ⟨0, rfl, by omega, fb, ft, fr, fg⟩
        case round =>
          obtain ⟨k, rfl, hk, fb, ft, fr, fg⟩ := hrel
          have hsz := fg.inside
          by_cases hlt : k < l.length
          · have hx : l[k]? = some l[k] := List.getElem?_eq_getElem hlt
            obtain ⟨c0, c1, c2⟩ := (Hl.out (k + 1) l[k] (by rw [List.getElem?_cons_succ]; exact hx)).past fb hB
            rw [show o + (k + 1) * 3 = o + 3 + k * 3 by omega] at c0 c1 c2
            have hsn := fold_take2 (fun a y => Tm.inf a (t.sup y)) (t.sup x) _ l k hx
            generalize l[k] = y at *
            generalize hg : (l.take k).foldl (fun a y => Tm.inf a (t.sup y)) (t.sup x) = g at *
            have t0 := ft.at_ 0
            have t1 := ft.at_ 1
            have t2 := ft.at_ 2
            have f0 := fg.at_ 0
            have f1 := fg.at_ 1
            have f2 := fg.at_ 2
            have g0 := fg.open_ 0
            have g1 := fg.open_ 1
            have g2 := fg.open_ 2
            simp only [Tm.cells, List.getElem?_cons_zero, List.getElem?_cons_succ] at t0 t1 t2 f0 f1 f2
            have HR := Lib.hid (And.intro fb (And.intro ft (And.intro fr (And.intro fg (And.intro hsn (And.intro hx hg))))))
            have hB2 : b < wr.heap.size := by have := fb.size; omega
            have hN2 : w.heap.size < wr.heap.size := by omega
            clear fb ft fr fg hsn hx hg
            go_wp2_with fail
            go_region_with (first | (go_at_call 91; refine (hlub t y _ _ ?_).out.mono ?_; (exact times_here (times_two' _ _ (by simp)) (by simp)); rintro e w1 ⟨rfl, hb⟩; have hz1 := hb.size; simp only [World.size_alloc, World.size_drew] at hz1; obtain ⟨hcc, hff⟩ := olds hb; have hf1 : Own w1 G 26 g.cells := (by refine Own.past ?_ hb (by simp; omega); repeat (first | exact HR.out.2.2.2.1 | refine own_drew ?_ | refine Own.more ?_ _)); have r0 := hf1.at_ 0; have r1 := hf1.at_ 1; have r2 := hf1.at_ 2; simp only [Tm.cells, List.getElem?_cons_zero, List.getElem?_cons_succ] at r0 r1 r2; have hf1 := Lib.hid hf1) | (go_at_call 188; refine (hglb g (lub [t, y]) _ _ ?_).out.mono ?_; (exact times_here (times_two' _ _ (by simp)) (by simp)); rintro e w2 ⟨rfl, hb2⟩; have hf2 : Own w2 G 26 g.cells := (by refine Own.past ?_ hb2 (by simp; omega); repeat (first | exact hf1.out | refine own_drew ?_ | refine Own.more ?_ _)); have s0 := hf2.open_ 0; have s1 := hf2.open_ 1; have s2 := hf2.open_ 2; have r0 := hf2.at_ 0; have r1 := hf2.at_ 1; have r2 := hf2.at_ 2; simp only [Tm.cells, List.getElem?_cons_zero, List.getElem?_cons_succ] at r0 r1 r2; have hf2 := Lib.hid hf2))
            all_goals
              go_wp2_with fail
              obtain ⟨fb, ft, fr, fg, hsn, hx, hg⟩ := HR.out
              have h1 : Below wr.heap.size wr w1 := by
                refine below_then ?_ (by simp) hb
                repeat (first | exact Below.refl _ _ | refine Below.drew ?_ | refine Below.alloc ?_ (by first | (simp; done) | (simp; omega)) _)
              have h2 : Below wr.heap.size wr w2 := by
                refine below_then ?_ (by simp) hb2
                repeat (first | exact h1 | refine Below.drew ?_ | refine Below.alloc ?_ (by first | exact h1.size | (simp; done) | (simp; omega)) _)
              go_roundw
              case rel => exact ⟨k + 1, by go_num, by omega, below_set3 (fb.trans (h2.mono fb.size)) (by omega) _ _ _, own_set3_other (ft.past h2 (by omega)) (by omega) _ _ _, own_set3_other (fr.past h2 (by omega)) (by omega) _ _ _, by rw [hsn]; exact ((hf2.out.set_ 0 _).set_ 1 _).set_ 2 _⟩
              case measure => simp [intOf]; omega
          · have hk2 : k = l.length := by omega
            have f0 := fg.at_ 0
            have f1 := fg.at_ 1
            have f2 := fg.at_ 2
            have g0 := fr.open_ 0
            have g1 := fr.open_ 1
            have g2 := fr.open_ 2
            have e0 := fr.at_ 0
            have e1 := fr.at_ 1
            have e2 := fr.at_ 2
            subst hk2
            rw [List.take_length] at *
            generalize hg : l.foldl (fun a y => Tm.inf a (t.sup y)) (t.sup x) = g at *
            obtain ⟨d0, d1, d2⟩ := fr.stored3 (.int .u64 (g.e : Int)) (.int .u64 (g.a : Int)) (.int .u64 (g.b : Int))
            have H1 := Lib.hid (And.intro hg (And.intro fb (And.intro d0 (And.intro d1 d2))))
            simp only [Tm.cells, List.getElem?_cons_zero, List.getElem?_cons_succ] at f0 f1 f2 e0 e1 e2
            clear ft fr fg fb d0 d1 d2 hg
            go_wp2_with fail
            obtain ⟨hg, hb, d0, d1, d2⟩ := H1.out
            refine bodyPost_ret (v := g.val) (by simp [results, Tryz.results151, go_sem, d0, d1, d2, Tm.val]) rfl ⟨congrArg (fun g : Tm => Ending.returned g.val) hg.symm, below_set3 hb (by omega) _ _ _⟩
end Go.Proofs.YtjffohpdjicfpaaGreat
namespace Go.Proofs.YtjffohpdjicfpaaGreat
open Go Go.RowKit Go.Sort Go.Lib
theorem ltT (x y : Tm) : ltOf Tm.cmp x y = decide (x.e < y.e ∨ x.e = y.e ∧ (x.a < y.a ∨ x.a = y.a ∧ x.b < y.b)) := by
  unfold ltOf Tm.cmp Tm.cmpN
  rw [decide_eq_decide]
  repeat' split
  all_goals omega
theorem swoT : SWO (ltOf Tm.cmp) where
  irrefl x := by rw [ltT]; simp
  trans x y z h1 h2 := by rw [ltT] at *; simp at *; omega
  ntrans x y z h1 h2 := by rw [ltT] at *; simp at *; omega
theorem totT (x y : Tm) (h1 : ltOf Tm.cmp x y = false) (h2 : ltOf Tm.cmp y x = false) : x = y := by
  rw [ltT] at *
  simp at *
  obtain ⟨a, b, c⟩ := x
  obtain ⟨d, e, f⟩ := y
  simp at *
  omega
def sortT (l : List Tm) : List Tm := l.mergeSort fun x y => !(ltOf Tm.cmp) y x
theorem sortT_len (l : List Tm) : (sortT l).length = l.length := List.length_mergeSort _
end Go.Proofs.YtjffohpdjicfpaaGreat
namespace Go.Proofs.YtjffohpdjicfpaaGreat
open Go Go.RowKit
def beyond (l : List Tm) (t : Tm) : Bool := l.any (·.le t)
theorem beyond_snoc {l : List Tm} {t s : Tm} {k : Nat} (h : l[k]? = some s) : beyond (l.take (k + 1)) t = (beyond (l.take k) t || s.le t) := by
  unfold beyond
  rw [List.take_add_one, h]
  simp
theorem beyond_hit {l : List Tm} {t s : Tm} {k : Nat} (h : l[k]? = some s) (hs : s.le t = true) : beyond l t = true := by
  unfold beyond
  rw [List.any_eq_true]
  exact ⟨s, List.mem_of_getElem? h, hs⟩

set_option maxRecDepth 100000 in
set_option maxHeartbeats 800000 in
theorem beyond_any (A : Option Addr) (c : Nat) (l : List Tm) (t : Tm) (w : World) (hl : Times w w.heap.size A l) (hn : l.length ≤ maxLen) :
    Calls Tryz.prog 15 #[.slice A l.length c, t.val] w fun e w' => e = .returned (.bool (beyond l t)) ∧ Below w.heap.size w w' := by
  unfold maxLen at hn
  have hcall := fun (s : Tm) (W : World) => Lib.hid (ahead_any s t W)
  unfold Tm.val at hcall ⊢
  have Hl := Lib.hid hl
  clear hl
  go_enter Tryz.func15, Tryz.ntmps15
  go_wp2_with fail
  go_loopw [9] (fun i wr => ∃ k : Nat, i = .int .i64 (k : Int) ∧ k ≤ l.length ∧ beyond (l.take k) t = false ∧ Below w.heap.size w wr ∧ w.heap.size < wr.heap.size ∧ TmAt wr w.heap.size 0 t)
    (fun i _ => l.length - (intOf i).toNat)
  case atStart =>
    exact ⟨0, rfl, by omega, rfl, (Below.refl _ _).alloc (Nat.le_refl _) _, by simp, by simp [TmAt, go_sem]⟩
  case round =>
    obtain ⟨k, rfl, hk, hno, hb, hs, ht⟩ := hrel
    obtain ⟨t0, t1, t2⟩ := ht
    by_cases hlt : k < l.length
    · have hx : l[k]? = some l[k] := List.getElem?_eq_getElem hlt
      obtain ⟨b, o, rfl, hB, hc⟩ := Hl.out (by omega)
      obtain ⟨c0, c1, c2⟩ := (hc k _ hx).past hb hB
      have hsn := beyond_snoc (t := t) hx
      have hhit := fun h => beyond_hit (t := t) hx h
      generalize l[k] = s at *
      have hbs : b < w.heap.size := hB
      have HH := Lib.hid (And.intro hno (And.intro hsn (And.intro hhit (And.intro hx (And.intro hb (And.intro t0 (And.intro t1 t2)))))))
      clear hno hsn hhit hx hc hB hb
      by_cases hle : s.le t = true
      · have hcall := fun W => hcall s W
        simp only [hle] at hcall
        have HL := Lib.hid hle
        clear hle
        go_wp2_with fail
        refine (hcall _).out.mono ?_
        rintro e w1 ⟨rfl, h1⟩
        go_wp2_with fail
        go_ret
        obtain ⟨hno, hsn, hhit, hx, hb, t0, t1, t2⟩ := HH.out
        exact ⟨ret_bool (hhit HL.out).symm, hb.trans (((Below.refl _ _).alloc (by omega) _).trans (h1.mono (by simp; omega)))⟩
      · have hle : s.le t = false := by simpa using hle
        have hcall := fun W => hcall s W
        simp only [hle] at hcall
        have HL := Lib.hid hle
        clear hle
        go_wp2_with fail
        refine (hcall _).out.mono ?_
        rintro e w1 ⟨rfl, h1⟩
        go_wp2_with fail
        obtain ⟨hno, hsn, hhit, hx, hb, t0, t1, t2⟩ := HH.out
        have h2 : Below w.heap.size w w1 := hb.trans (((Below.refl _ _).alloc (by omega) _).trans (h1.mono (by simp; omega)))
        have h3 : Below wr.heap.size wr w1 := ((Below.refl _ _).alloc (Nat.le_refl _) _).trans (h1.mono (by simp))
        go_roundw
        case rel => exact ⟨k + 1, by go_num, by omega, by rw [hsn, hno, HL.out]; rfl, h2, by have := h3.size; omega, (TmAt.past ⟨t0, t1, t2⟩ h3 hs)⟩
        case measure => simp [intOf]; omega
    · have hk2 : k = l.length := by omega
      have HH := Lib.hid (And.intro hno (And.intro hb hk2))
      clear hno hb hk2
      go_wp2_with fail
      go_ret
      obtain ⟨hno, hb, rfl⟩ := HH.out
      exact ⟨ret_bool (by rw [← hno]; simp), hb⟩

end Go.Proofs.YtjffohpdjicfpaaGreat
namespace Go.Proofs.YtjffohpdjicfpaaGreat
open Go Go.RowKit Go.Sort Go.Lib
def keepStep (f : List Tm) (t : Tm) : List Tm := if beyond f t = true then f else f ++ [t]
def frontTo (s : List Tm) (k : Nat) : List Tm := (s.take k).foldl keepStep []
def frontL (l : List Tm) : List Tm := frontTo (sortT l) (sortT l).length
theorem frontTo_snoc {s : List Tm} {t : Tm} {k : Nat} (h : s[k]? = some t) : frontTo s (k + 1) = keepStep (frontTo s k) t := by
  unfold frontTo; rw [List.take_add_one, h, List.foldl_append]; rfl
theorem frontTo_len (s : List Tm) : ∀ k, k ≤ s.length → (frontTo s k).length ≤ k
  | 0, _ => by simp [frontTo]
  | k + 1, h => by
    have := frontTo_len s k (by omega)
    rw [frontTo_snoc (List.getElem?_eq_getElem (by omega))]
    unfold keepStep
    split
    · omega
    · rw [List.length_append]; simp; omega

end Go.Proofs.YtjffohpdjicfpaaGreat
namespace Go.Proofs.YtjffohpdjicfpaaGreat
open Go Go.RowKit
attribute [local go_sem ↓] Go.wp_at_zero Go.wp_at_succ

theorem foldl_inf (t : Tm) : ∀ (l : List Tm) (a s : Tm), s.le (l.foldl (fun a y => a.inf (t.sup y)) a) = (s.le a && l.all fun y => s.le (t.sup y))
  | [], a, s => by simp
  | x :: l, a, s => by
    rw [List.foldl_cons, foldl_inf t l, List.all_cons]
    have : s.le (a.inf (t.sup x)) = (s.le a && s.le (t.sup x)) := by
      rw [Bool.eq_iff_iff, Bool.and_eq_true, Tm.le_iff, Tm.le_iff, Tm.le_iff]
      simp only [Tm.inf]
      omega
    rw [this, Bool.and_assoc]
theorem le_adv (s t : Tm) (l : List Tm) (h : l ≠ []) : s.le (adv t l) = l.all fun y => s.le (t.sup y) := by
  cases l with
  | nil => exact absurd rfl h
  | cons x l => simp [adv, foldl_inf]
theorem le_refl' (t : Tm) : t.le t = true := Tm.le_iff.2 ⟨Nat.le_refl _, Nat.le_refl _, Nat.le_refl _⟩
theorem le_anti {s t : Tm} (h : s.le t = true) (k : t.le s = true) : s = t := by
  rw [Tm.le_iff] at h k
  obtain ⟨a, b, c⟩ := s
  obtain ⟨d, e, f⟩ := t
  simp at *
  omega
theorem le_trans' {a b c : Tm} (h : a.le b = true) (k : b.le c = true) : a.le c = true := by
  rw [Tm.le_iff] at *; omega
theorem adv_later (t : Tm) (f g : List Tm) (hg : g ≠ []) (h : ∀ x ∈ g, beyond f x = true) : adv (adv t f) g = adv t g := by
  have key : ∀ s : Tm, s.le (adv (adv t f) g) = s.le (adv t g) := by
    intro s
    rw [le_adv _ _ _ hg, le_adv _ _ _ hg, Bool.eq_iff_iff, List.all_eq_true, List.all_eq_true]
    have hsup : ∀ y ∈ g, (adv t f).sup y = t.sup y := by
      intro y hy
      by_cases hf : f = []
      · subst hf; simp [beyond] at h; exact absurd hy (by intro hy; exact (h y hy))
      obtain ⟨x, hx, hxy⟩ := List.any_eq_true.1 (h y hy)
      have h1 : t.le (adv t f) = true := by
        rw [le_adv _ _ _ hf, List.all_eq_true]; intro z _; rw [Tm.le_iff]; simp only [Tm.sup]; omega
      have h2 : (adv t f).le (t.sup x) = true := by
        have := le_refl' (adv t f)
        rw [le_adv _ _ _ hf, List.all_eq_true] at this
        exact this x hx
      rw [Tm.le_iff] at h1 h2 hxy
      simp only [Tm.sup] at h2 ⊢
      simp only [Tm.mk.injEq]
      omega
    constructor
    · intro k y hy; rw [← hsup y hy]; exact k y hy
    · intro k y hy; rw [hsup y hy]; exact k y hy
  exact le_anti (by rw [← key]; exact le_refl' _) (by rw [key]; exact le_refl' _)

attribute [local go_sem ↓] Go.wp_at_zero Go.wp_at_succ
end Go.Proofs.YtjffohpdjicfpaaGreat
namespace Go.Proofs.YtjffohpdjicfpaaGreat
open Go Go.RowKit Go.Sort Go.Lib
def Apart (x y : Tm) : Prop := ltOf Tm.cmp x y = true ∧ x.le y = false ∧ y.le x = false
theorem beyond_iff {l : List Tm} {t : Tm} : beyond l t = true ↔ ∃ x ∈ l, x.le t = true := by unfold beyond; rw [List.any_eq_true]
theorem le_adv_t (t : Tm) (l : List Tm) : t.le (adv t l) = true := by
  by_cases h : l = []
  · subst h; exact le_refl' t
  · rw [le_adv _ _ _ h, List.all_eq_true]; intro z _; rw [Tm.le_iff]; simp only [Tm.sup]; omega
theorem sup_le {t x s : Tm} (h : t.le s = true) (k : x.le s = true) : (t.sup x).le s = true := by
  rw [Tm.le_iff] at *; simp only [Tm.sup]; omega
theorem adv_le {t x : Tm} {l : List Tm} (h : x ∈ l) : (adv t l).le (t.sup x) = true := by
  have := le_refl' (adv t l)
  rw [le_adv _ _ _ (by intro e; rw [e] at h; simp at h), List.all_eq_true] at this
  exact this x h
theorem adv_same (t s : Tm) (l : List Tm) (h : beyond l s = true) : t.le s = (adv t l).le s := by
  obtain ⟨x, hx, hxs⟩ := beyond_iff.1 h
  rw [Bool.eq_iff_iff]
  exact ⟨fun hts => le_trans' (adv_le hx) (sup_le hts hxs), fun h => le_trans' (le_adv_t t l) h⟩
theorem adv_again (t : Tm) (l : List Tm) : adv (adv t l) l = adv t l := by
  by_cases h : l = []
  · subst h; rfl
  · exact adv_later t l l h fun x hx => beyond_iff.2 ⟨x, hx, le_refl' x⟩
end Go.Proofs.YtjffohpdjicfpaaGreat
namespace Go.Proofs.YtjffohpdjicfpaaGreat
open Go Go.RowKit
def Up.advd (f : List Tm) (u : Up) : Up := { u with t := adv u.t f }
def advL (f : List Tm) (l : List Up) : List Up := l.map (Up.advd f)
theorem right_down {s t : Tm} (h : s.le t = true) (ht : t.right = true) : s.right = true := by
  rw [Tm.le_iff] at h
  unfold Tm.right at *
  simp only [Bool.and_eq_true, decide_eq_true_eq] at *
  omega
theorem chk_one {t : Tm} : chk [t] = 0 ↔ t.right = true := by
  unfold chk
  cases h : t.right <;> simp [h]
theorem adv_right {t : Tm} {f : List Tm} (ht : t.right = true) (hf : ∀ x ∈ f, x.right = true) : (adv t f).right = true := by
  cases f with
  | nil => exact ht
  | cons x f =>
    have hx := hf x List.mem_cons_self
    refine right_down (adv_le (x := x) List.mem_cons_self) ?_
    unfold Tm.right at ht hx ⊢
    rw [Bool.and_eq_true, decide_eq_true_eq, decide_eq_true_eq] at ht hx ⊢
    show max t.e x.e ≤ _ ∧ max (max t.a x.a) (max t.b x.b) ≤ _
    omega
theorem chk_adv {f : List Tm} (hf : ∀ x ∈ f, x.right = true) (t : Tm) : chk [adv t f] = chk [t] := by
  cases h : t.right with
  | true => rw [chk_one.2 h, chk_one.2 (adv_right h hf)]
  | false =>
    have h2 : (adv t f).right = false := by
      cases h3 : (adv t f).right with
      | false => rfl
      | true => rw [right_down (le_adv_t t f) h3] at h; cases h
    unfold chk
    simp [h, h2]
theorem chkU_adv {f : List Tm} (hf : ∀ x ∈ f, x.right = true) (u : Up) : chkU (u.advd f) = chkU u := by
  unfold chkU chkK
  show orI (chkRow u.key) (orI (chkRow u.row) (chk [adv u.t f])) = _
  rw [chk_adv hf]
  rfl
theorem chkUs_adv {f : List Tm} (hf : ∀ x ∈ f, x.right = true) : ∀ l : List Up, chkUs (advL f l) = chkUs l
  | [] => rfl
  | u :: l => by
    have ih := chkUs_adv hf l
    unfold advL at *
    rw [List.map_cons]
    unfold chkUs
    rw [chkU_adv hf, ih]
theorem batch_advd {f : List Tm} {l e : List Up} (h : consE [advL f l] = 0) (he : e.map Up.p = consL [advL f l]) : ∀ u ∈ e, adv u.t f = u.t := fun u hu => by
  obtain ⟨_, h2, h3⟩ := cons_chk h
  simp only [List.flatten_cons, List.flatten_nil, List.append_nil] at h2 h3
  have hm : u.p ∈ nz Uk.cmp ((advL f l).map Up.p) := by
    rw [← (resE_zero h2).1, ← h3, ← he]
    exact List.mem_map_of_mem hu
  have := nz_right (R := fun k : Uk => adv k.t f = k.t) (fun p hp => by
    obtain ⟨v, hv, rfl⟩ := List.mem_map.1 hp
    obtain ⟨v0, _, rfl⟩ := List.mem_map.1 hv
    exact adv_again v0.t f) _ hm
  exact this
def FrontOk (f : List Tm) : Prop := chk f = 0 ∧ frontL f = f
theorem FrontOk.right {f : List Tm} (h : FrontOk f) : ∀ x ∈ f, x.right = true := by
  have := h.1
  unfold chk at this
  split at this
  · rename_i h1; exact fun x hx => List.all_eq_true.1 h1 x hx
  · omega
def BatchOk (f : List Tm) (l : List Up) : Prop := FrontOk f ∧ EvenP l ∧ ∀ u ∈ l, adv u.t f = u.t
theorem batch_ok {f : List Tm} {l e : List Up} (hf : FrontOk f) (h : consE [advL f l] = 0) (he : e.map Up.p = consL [advL f l]) : BatchOk f e := ⟨hf, cons_even h he, batch_advd h he⟩
theorem advL_id {f : List Tm} {l : List Up} (h : ∀ u ∈ l, adv u.t f = u.t) : advL f l = l := by
  unfold advL
  conv => rhs; rw [← List.map_id l]
  refine List.map_congr_left fun u hu => ?_
  unfold Up.advd
  rw [h u hu]
  rfl
theorem advL_nil (l : List Up) : advL [] l = l := advL_id fun _ _ => rfl
def KeysUp (l : List Up) : Prop := l.Pairwise fun x y => cmpRows x.key y.key ≤ 0
theorem even_keys {l : List Up} (h : EvenP l) : KeysUp l := by
  have h1 := h.2.1
  unfold Srt at h1
  rw [List.pairwise_map] at h1
  refine h1.imp fun {x y} hxy => ?_
  have hxy : Uk.cmp x.k y.k < 0 := hxy
  unfold Uk.cmp at hxy
  split at hxy
  · rename_i h0; exact Int.le_of_eq h0
  · exact Int.le_of_lt hxy
theorem keys_le {l : List Up} (h : KeysUp l) {i j : Nat} {x y : Up} (hi : l[i]? = some x) (hj : l[j]? = some y) (hij : i ≤ j) : cmpRows x.key y.key ≤ 0 := by
  obtain ⟨hil, rfl⟩ := List.getElem?_eq_some_iff.1 hi
  obtain ⟨hjl, rfl⟩ := List.getElem?_eq_some_iff.1 hj
  by_cases e : i = j
  · subst e; rw [row_lin.self]; exact Int.le_refl _
  · exact List.pairwise_iff_getElem.1 h i j hil hjl (by omega)
def seekB (l : List Up) (k : List Vl) : Nat := (l.takeWhile fun u => decide (cmpRows u.key k < 0)).length
def groupB (l : List Up) (k : List Vl) : List Up := (l.drop (seekB l k)).takeWhile fun u => decide (cmpRows u.key k = 0)
theorem seek_len (l : List Up) (k : List Vl) : seekB l k ≤ l.length := (List.takeWhile_sublist _).length_le
theorem seek_cons_lt {l : List Up} {u : Up} {k : List Vl} (h : cmpRows u.key k < 0) : seekB (u :: l) k = seekB l k + 1 := by
  unfold seekB
  rw [List.takeWhile_cons_of_pos (by simpa using h)]
  rfl
theorem seek_cons_ge {l : List Up} {u : Up} {k : List Vl} (h : ¬ cmpRows u.key k < 0) : seekB (u :: l) k = 0 := by
  unfold seekB
  rw [List.takeWhile_cons_of_neg (by simpa using h)]
  rfl
theorem seek_lt : ∀ (l : List Up) (k : List Vl) (i : Nat) (u : Up), i < seekB l k → l[i]? = some u → cmpRows u.key k < 0
  | [], _, _, _, h, _ => by simp [seekB] at h
  | x :: l, k, i, u, h, hu => by
    by_cases hx : cmpRows x.key k < 0
    · rw [seek_cons_lt hx] at h
      cases i with
      | zero => rw [List.getElem?_cons_zero] at hu; cases hu; exact hx
      | succ i => rw [List.getElem?_cons_succ] at hu; exact seek_lt l k i u (by omega) hu
    · rw [seek_cons_ge hx] at h; omega
theorem seek_at : ∀ (l : List Up) (k : List Vl) (u : Up), l[seekB l k]? = some u → ¬ cmpRows u.key k < 0
  | [], _, _, h => by simp at h
  | x :: l, k, u, h => by
    by_cases hx : cmpRows x.key k < 0
    · rw [seek_cons_lt hx, List.getElem?_cons_succ] at h; exact seek_at l k u h
    · rw [seek_cons_ge hx, List.getElem?_cons_zero] at h; cases h; exact hx
theorem seek_ge {l : List Up} {k : List Vl} (hl : KeysUp l) {i : Nat} {u : Up} (h : seekB l k ≤ i) (hu : l[i]? = some u) : ¬ cmpRows u.key k < 0 := by
  have hi := (List.getElem?_eq_some_iff.1 hu).1
  have hs : seekB l k < l.length := by omega
  have h1 := seek_at l k _ (List.getElem?_eq_getElem hs)
  have h2 := keys_le hl (List.getElem?_eq_getElem hs) hu h
  intro h3
  exact h1 (row_lin.le_lt h2 h3)
theorem take_filter {k : List Vl} : ∀ {l : List Up}, KeysUp l → (∀ v ∈ l, ¬ cmpRows v.key k < 0) → l.takeWhile (fun u => decide (cmpRows u.key k = 0)) = l.filter fun u => decide (cmpRows u.key k = 0)
  | [], _, _ => rfl
  | v :: l, h, hv => by
    have hl := (List.pairwise_cons.1 h)
    by_cases h0 : cmpRows v.key k = 0
    · rw [List.takeWhile_cons_of_pos (by simpa using h0), List.filter_cons_of_pos (by simpa using h0), take_filter hl.2 fun x hx => hv x (List.mem_cons_of_mem _ hx)]
    · rw [List.takeWhile_cons_of_neg (by simpa using h0), List.filter_cons_of_neg (by simpa using h0), eq_comm, List.filter_eq_nil_iff]
      intro x hx
      have h1 := hl.1 x hx
      have h2 := hv v List.mem_cons_self
      have h3 : cmpRows k v.key < 0 := by have := row_lin.swap v.key k; omega
      have h4 := row_lin.lt_le h3 h1
      have h5 := row_lin.swap k x.key
      simp only [decide_eq_true_eq]
      omega
theorem group_filter {k : List Vl} : ∀ {l : List Up}, KeysUp l → groupB l k = l.filter fun u => decide (cmpRows u.key k = 0)
  | [], _ => by simp [groupB]
  | v :: l, h => by
    have hl := (List.pairwise_cons.1 h)
    by_cases h0 : cmpRows v.key k < 0
    · have ih := group_filter (k := k) hl.2
      rw [List.filter_cons_of_neg (by simp only [decide_eq_true_eq]; omega), ← ih]
      unfold groupB
      rw [seek_cons_lt h0, List.drop_succ_cons]
    · unfold groupB
      rw [seek_cons_ge h0, List.drop_zero]
      refine take_filter h fun x hx => ?_
      rcases List.mem_cons.1 hx with rfl | hx
      · exact h0
      · intro h3
        exact h0 (row_lin.le_lt (hl.1 x hx) h3)
def leB (l : List Up) (k : List Vl) : List Up := l.filter fun u => decide (cmpRows u.key k ≤ 0)
def plc (a b : Up) : Int := if cmpRows a.key b.key = 0 then cmpRows a.row b.row else cmpRows a.key b.key
theorem plc_lin : Lin plc (fun _ => False) where
  swap a b := by
    unfold plc
    rw [cmpRows_swap a.key b.key, cmpRows_swap a.row b.row]
    by_cases h1 : cmpRows a.key b.key = 0
    · rw [if_pos (by omega), if_pos h1]
    · rw [if_neg (by omega), if_neg h1]
  le a b c h k := by
    unfold plc at *
    exact lex_le h k (cmpRows_le a.key b.key c.key) rows_zero (cmpRows_le a.row b.row c.row)
  eq _ _ h _ := h.elim
theorem plc_cmp {a b : Up} {s t : Tm} (h : plc a b < 0) : Uk.cmp ⟨a.key, a.row, s⟩ ⟨b.key, b.row, t⟩ < 0 := by
  unfold plc at h
  unfold Uk.cmp
  dsimp only
  split at h
  · rename_i h0; rw [if_pos h0, if_neg (by omega)]; exact h
  · rename_i h0; rw [if_neg h0]; exact h
def PlUp (l : List Up) : Prop := l.Pairwise fun x y => plc x y ≤ 0
theorem even_plc {l : List Up} (h : EvenP l) : PlUp l := by
  have h1 := h.2.1
  unfold Srt at h1
  rw [List.pairwise_map] at h1
  refine h1.imp fun {x y} hxy => ?_
  have hxy : Uk.cmp x.k y.k < 0 := hxy
  unfold Uk.cmp at hxy
  unfold plc
  split at hxy
  · rename_i h0
    have h0 : cmpRows x.key y.key = 0 := h0
    rw [if_pos h0]
    split at hxy
    · rename_i h2; exact Int.le_of_eq h2
    · exact Int.le_of_lt hxy
  · rename_i h0
    have h0 : ¬ cmpRows x.key y.key = 0 := h0
    rw [if_neg h0]
    exact Int.le_of_lt hxy
def grp (u : Up) (r : List Up) : List Up := r.takeWhile fun x => decide (plc x u = 0)
theorem tw_mem {p : Up → Bool} {x : Up} : ∀ {l : List Up}, x ∈ l.takeWhile p → p x = true
  | [], h => by simp at h
  | y :: l, h => by
    by_cases hy : p y = true
    · rw [List.takeWhile_cons_of_pos hy] at h
      rcases List.mem_cons.1 h with rfl | h
      · exact hy
      · exact tw_mem h
    · rw [List.takeWhile_cons_of_neg hy] at h; simp at h
theorem grp_mem {u x : Up} {r : List Up} (h : x ∈ grp u r) : plc x u = 0 ∧ x ∈ r := ⟨of_decide_eq_true (tw_mem h), (List.takeWhile_sublist _).subset h⟩
theorem grp_split (u : Up) (r : List Up) : r = grp u r ++ r.drop (grp u r).length := by
  unfold grp
  induction r with
  | nil => rfl
  | cons x r ih =>
    by_cases h : plc x u = 0
    · rw [List.takeWhile_cons_of_pos (by simpa using h), List.length_cons, List.drop_succ_cons, List.cons_append, ← ih]
    · rw [List.takeWhile_cons_of_neg (by simpa using h)]; rfl
theorem past_grp {u : Up} : ∀ {r : List Up}, PlUp r → (∀ y ∈ r, plc u y ≤ 0) → ∀ y ∈ r.drop (grp u r).length, plc u y < 0
  | [], _, _, y, h => by simp at h
  | v :: r, hr, hu, y, h => by
    have hc := List.pairwise_cons.1 hr
    unfold grp at h
    by_cases h0 : plc v u = 0
    · rw [List.takeWhile_cons_of_pos (by simpa using h0), List.length_cons, List.drop_succ_cons] at h
      exact past_grp hc.2 (fun y hy => hu y (List.mem_cons_of_mem _ hy)) y h
    · rw [List.takeWhile_cons_of_neg (by simpa using h0), List.length_nil, List.drop_zero] at h
      have h1 := hu v List.mem_cons_self
      have h2 := plc_lin.swap v u
      have h3 : plc u v < 0 := by omega
      rcases List.mem_cons.1 h with rfl | h
      · exact h3
      · exact plc_lin.lt_le h3 (hc.1 y h)
structure MInv (f : List Tm) (ta ra tb rb : List Up) (out : List (Uk × Int)) : Prop where
  sep : ∀ x ∈ ta ++ tb, ∀ y ∈ ra ++ rb, plc x y < 0
  fit : resE Uk.cmp ((advL f (ta ++ tb)).map Up.p) = 0
  out_ : out = nz Uk.cmp ((advL f (ta ++ tb)).map Up.p)
theorem merge_start (f : List Tm) (a b : List Up) : MInv f [] a [] b [] := ⟨fun x hx => (by simp at hx), rfl, rfl⟩
theorem keys_apart {f : List Tm} {X Y : List Up} (h : ∀ x ∈ X, ∀ y ∈ Y, plc x y < 0) : ∀ x ∈ (advL f X).map Up.p, ∀ y ∈ (advL f Y).map Up.p, Uk.cmp x.1 y.1 < 0 := fun x hx y hy => by
  obtain ⟨x', hx', rfl⟩ := List.mem_map.1 hx
  obtain ⟨x0, hx0, rfl⟩ := List.mem_map.1 hx'
  obtain ⟨y', hy', rfl⟩ := List.mem_map.1 hy
  obtain ⟨y0, hy0, rfl⟩ := List.mem_map.1 hy'
  exact plc_cmp (h x0 hx0 y0 hy0)
theorem res_apart {X Y : List (Uk × Int)} (h : ∀ x ∈ X, ∀ y ∈ Y, Uk.cmp x.1 y.1 < 0) : nz Uk.cmp (X ++ Y) = nz Uk.cmp X ++ nz Uk.cmp Y ∧ (resE Uk.cmp (X ++ Y) = 0 ↔ resE Uk.cmp X = 0 ∧ resE Uk.cmp Y = 0) := by
  unfold nz resE
  rw [asm_append h, List.filter_append, List.all_append]
  refine ⟨rfl, ?_⟩
  cases ((asm Uk.cmp X).all fun x => fits x.2) <;> cases ((asm Uk.cmp Y).all fun x => fits x.2) <;> simp
theorem advL_append (f : List Tm) (X Y : List Up) : advL f (X ++ Y) = advL f X ++ advL f Y := List.map_append
theorem adv_keys {f : List Tm} (hf : ∀ x ∈ f, x.right = true) {X : List Up} (h : chkUs X = 0) : ∀ x ∈ (advL f X).map Up.p, UkR x.1 := keys_right (chkUs_all.1 ((chkUs_adv hf X).trans h))
theorem taken_same {f : List Tm} (hf : ∀ x ∈ f, x.right = true) {ta ga tb gb : List Up} (h : chkUs (ta ++ ga ++ (tb ++ gb)) = 0) :
    nz Uk.cmp ((advL f (ta ++ ga ++ (tb ++ gb))).map Up.p) = nz Uk.cmp ((advL f (ta ++ tb)).map Up.p ++ (advL f (ga ++ gb)).map Up.p) ∧ resE Uk.cmp ((advL f (ta ++ ga ++ (tb ++ gb))).map Up.p) = resE Uk.cmp ((advL f (ta ++ tb)).map Up.p ++ (advL f (ga ++ gb)).map Up.p) := by
  have hl := adv_keys hf h
  have hm : ∀ x ∈ (advL f (ta ++ tb)).map Up.p ++ (advL f (ga ++ gb)).map Up.p, UkR x.1 := by
    rw [← List.map_append, ← advL_append]
    refine adv_keys hf (chkUs_all.2 fun u hu => chkUs_all.1 h u ?_)
    simp only [List.mem_append] at hu ⊢
    rcases hu with (hu | hu) | (hu | hu)
    · exact .inl (.inl hu)
    · exact .inr (.inl hu)
    · exact .inl (.inr hu)
    · exact .inr (.inr hu)
  have hs : ∀ k, sumOf Uk.cmp ((advL f (ta ++ ga ++ (tb ++ gb))).map Up.p) k = sumOf Uk.cmp ((advL f (ta ++ tb)).map Up.p ++ (advL f (ga ++ gb)).map Up.p) k := fun k => by
    simp only [advL_append, List.map_append, sumOf_append]
    omega
  exact ⟨nz_ext uk_lin hl hm hs, (resL_ext uk_lin hl hm hs).2⟩
theorem merge_step {f : List Tm} {ta ra tb rb : List Up} {out : List (Uk × Int)} (hm : MInv f ta ra tb rb out) (hf : ∀ x ∈ f, x.right = true) (hc : chkUs (ta ++ ra ++ (tb ++ rb)) = 0) (hra : PlUp ra) (hrb : PlUp rb) {u : Up} (hu : ∀ y ∈ ra ++ rb, plc u y ≤ 0)
    (hE : consE [advL f (grp u ra ++ grp u rb)] = 0) :
    MInv f (ta ++ grp u ra) (ra.drop (grp u ra).length) (tb ++ grp u rb) (rb.drop (grp u rb).length) (out ++ consL [advL f (grp u ra ++ grp u rb)]) := by
  have hg : ∀ y ∈ grp u ra ++ grp u rb, plc y u = 0 ∧ y ∈ ra ++ rb := fun y hy => by
    rcases List.mem_append.1 hy with hy | hy
    · exact ⟨(grp_mem hy).1, List.mem_append_left _ (grp_mem hy).2⟩
    · exact ⟨(grp_mem hy).1, List.mem_append_right _ (grp_mem hy).2⟩
  have hc' : chkUs (ta ++ grp u ra ++ (tb ++ grp u rb)) = 0 := chkUs_all.2 fun v hv => chkUs_all.1 hc v (by
    simp only [List.mem_append] at hv ⊢
    rcases hv with (hv | hv) | (hv | hv)
    · exact .inl (.inl hv)
    · exact .inl (.inr (grp_mem hv).2)
    · exact .inr (.inl hv)
    · exact .inr (.inr (grp_mem hv).2))
  obtain ⟨e1, e2⟩ := taken_same hf hc'
  obtain ⟨a1, a2⟩ := res_apart (keys_apart (f := f) (X := ta ++ tb) (Y := grp u ra ++ grp u rb) fun x hx y hy => hm.sep x hx y (hg y hy).2)
  obtain ⟨_, c2, c3⟩ := cons_chk hE
  simp only [List.flatten_cons, List.flatten_nil, List.append_nil] at c2 c3
  refine ⟨fun x hx y hy => ?_, ?_, ?_⟩
  · have hy' : y ∈ ra ++ rb ∧ plc u y < 0 := by
      rcases List.mem_append.1 hy with hy | hy
      · exact ⟨List.mem_append_left _ (List.mem_of_mem_drop hy), past_grp hra (fun z hz => hu z (List.mem_append_left _ hz)) y hy⟩
      · exact ⟨List.mem_append_right _ (List.mem_of_mem_drop hy), past_grp hrb (fun z hz => hu z (List.mem_append_right _ hz)) y hy⟩
    have hx' : x ∈ ta ++ tb ∨ x ∈ grp u ra ++ grp u rb := by
      simp only [List.mem_append] at hx ⊢
      rcases hx with (hx | hx) | (hx | hx)
      · exact .inl (.inl hx)
      · exact .inr (.inl hx)
      · exact .inl (.inr hx)
      · exact .inr (.inr hx)
    rcases hx' with hx | hx
    · exact hm.sep x hx y hy'.1
    · exact plc_lin.le_lt (by have := (hg x hx).1; omega) hy'.2
  · rw [e2, a2]; exact ⟨hm.fit, c2⟩
  · rw [e1, a1, hm.out_, c3, (resE_zero c2).1]
theorem res_ten {l : List (Uk × Int)} (h : resE Uk.cmp l ≠ 0) : resE Uk.cmp l = 10 := by
  unfold resE at *
  split at h
  · exact absurd rfl h
  · rename_i h1; rw [if_neg h1]
theorem merge_fail {f : List Tm} {ta ra tb rb : List Up} {out : List (Uk × Int)} (hm : MInv f ta ra tb rb out) (hf : ∀ x ∈ f, x.right = true) (hc : chkUs (ta ++ ra ++ (tb ++ rb)) = 0) (hra : PlUp ra) (hrb : PlUp rb) {u : Up} (hu : ∀ y ∈ ra ++ rb, plc u y ≤ 0)
    (hE : consE [advL f (grp u ra ++ grp u rb)] ≠ 0) : consE [advL f (grp u ra ++ grp u rb)] = 10 ∧ consE [advL f (ta ++ ra ++ (tb ++ rb))] = 10 := by
  have hcg : chkUs (grp u ra ++ grp u rb) = 0 := chkUs_all.2 fun v hv => chkUs_all.1 hc v (by
    simp only [List.mem_append] at hv ⊢
    rcases hv with hv | hv
    · exact .inl (.inr (grp_mem hv).2)
    · exact .inr (.inr (grp_mem hv).2))
  have hone : ∀ {l : List Up}, chkUs l = 0 → consE [advL f l] = resE Uk.cmp ((advL f l).map Up.p) := fun {l} h => by
    unfold consE
    rw [if_pos (chkLs_all.2 fun m hm => by obtain rfl : m = advL f l := (by simpa using hm); exact (chkUs_adv hf l).trans h)]
    simp
  rw [hone hcg] at hE ⊢
  rw [hone hc]
  refine ⟨res_ten hE, res_ten fun h => hE ?_⟩
  rw [(taken_same hf hc).2] at h
  have h1 := ((res_apart (keys_apart (f := f) (X := ta ++ tb) (Y := ra ++ rb) hm.sep)).2.1 h).2
  have hsp : ra ++ rb = grp u ra ++ ra.drop (grp u ra).length ++ (grp u rb ++ rb.drop (grp u rb).length) := by rw [← grp_split, ← grp_split]
  have hcr : chkUs (grp u ra ++ ra.drop (grp u ra).length ++ (grp u rb ++ rb.drop (grp u rb).length)) = 0 := by
    rw [← hsp]
    exact chkUs_all.2 fun v hv => chkUs_all.1 hc v (by
      simp only [List.mem_append] at hv ⊢
      rcases hv with hv | hv
      · exact .inl (.inr hv)
      · exact .inr (.inr hv))
  rw [hsp, (taken_same hf hcr).2] at h1
  refine ((res_apart (keys_apart (f := f) (X := grp u ra ++ grp u rb) (Y := ra.drop (grp u ra).length ++ rb.drop (grp u rb).length) fun x hx y hy => ?_)).2.1 h1).1
  have hx0 : plc x u = 0 := by
    rcases List.mem_append.1 hx with hx | hx
    · exact (grp_mem hx).1
    · exact (grp_mem hx).1
  refine plc_lin.le_lt (b := u) (by omega) ?_
  rcases List.mem_append.1 hy with hy | hy
  · exact past_grp hra (fun z hz => hu z (List.mem_append_left _ hz)) y hy
  · exact past_grp hrb (fun z hz => hu z (List.mem_append_right _ hz)) y hy
def nextM : List Up → List Up → Option Up
  | [], [] => none
  | x :: _, [] => some x
  | [], y :: _ => some y
  | x :: _, y :: _ => if plc x y ≤ 0 then some x else some y
theorem next_none {ra rb : List Up} : nextM ra rb = none ↔ ra = [] ∧ rb = [] := by
  cases ra <;> cases rb <;> simp [nextM]
  split <;> simp
theorem plc_self (u : Up) : plc u u = 0 := plc_lin.self u
theorem head_le {x : Up} {r : List Up} (h : PlUp (x :: r)) : ∀ y ∈ x :: r, plc x y ≤ 0 := fun y hy => by
  rcases List.mem_cons.1 hy with rfl | hy
  · exact Int.le_of_eq (plc_self _)
  · exact (List.pairwise_cons.1 h).1 y hy
theorem next_min {ra rb : List Up} {u : Up} (h : nextM ra rb = some u) (hra : PlUp ra) (hrb : PlUp rb) : ∀ y ∈ ra ++ rb, plc u y ≤ 0 := by
  cases ra with
  | nil =>
    cases rb with
    | nil => cases h
    | cons y rb =>
      obtain rfl : y = u := by simpa [nextM] using h
      simpa using head_le hrb
  | cons x ra =>
    cases rb with
    | nil =>
      obtain rfl : x = u := by simpa [nextM] using h
      simpa using head_le hra
    | cons y rb =>
      have h : (if plc x y ≤ 0 then some x else some y) = some u := h
      split at h
      · rename_i h0
        obtain rfl : x = u := by simpa using h
        intro z hz
        rcases List.mem_append.1 hz with hz | hz
        · exact head_le hra z hz
        · exact (plc_lin.le x y z h0 (head_le hrb z hz)).1
      · rename_i h0
        obtain rfl : y = u := by simpa using h
        have h1 : plc y x < 0 := by have := plc_lin.swap x y; omega
        intro z hz
        rcases List.mem_append.1 hz with hz | hz
        · exact Int.le_of_lt (plc_lin.lt_le h1 (head_le hra z hz))
        · exact head_le hrb z hz
theorem grp_head (u : Up) (r : List Up) : 0 < (grp u (u :: r)).length := by
  unfold grp
  rw [List.takeWhile_cons_of_pos (by simpa using plc_self u)]
  exact Nat.succ_pos _
theorem grp_pos {ra rb : List Up} {u : Up} (h : nextM ra rb = some u) : 0 < (grp u ra).length + (grp u rb).length := by
  cases ra with
  | nil =>
    cases rb with
    | nil => cases h
    | cons y rb =>
      obtain rfl : y = u := by simpa [nextM] using h
      have := grp_head y rb; omega
  | cons x ra =>
    cases rb with
    | nil =>
      obtain rfl : x = u := by simpa [nextM] using h
      have := grp_head x ra; omega
    | cons y rb =>
      have h : (if plc x y ≤ 0 then some x else some y) = some u := h
      split at h
      · obtain rfl : x = u := by simpa using h
        have := grp_head x ra; omega
      · obtain rfl : y = u := by simpa using h
        have := grp_head y rb; omega
theorem plup_drop {r : List Up} (h : PlUp r) (n : Nat) : PlUp (r.drop n) := List.Pairwise.sublist (List.drop_sublist _ _) h
section
variable {f : List Tm} {ta ra tb rb : List Up} {out : List (Uk × Int)} {O : List Up}
theorem minv_key (hm : MInv f ta ra tb rb out) (hO : O.map Up.p = out) {z : Up} (hz : z ∈ O) : ∃ x ∈ ta ++ tb, x.key = z.key ∧ x.row = z.row ∧ adv x.t f = z.t := by
  have h : z.p ∈ nz Uk.cmp ((advL f (ta ++ tb)).map Up.p) := by rw [← hm.out_, ← hO]; exact List.mem_map_of_mem hz
  obtain ⟨p, hp, e⟩ := nz_keys h
  obtain ⟨v, hv, rfl⟩ := List.mem_map.1 hp
  obtain ⟨x, hx, rfl⟩ := List.mem_map.1 hv
  have e : (⟨x.key, x.row, adv x.t f⟩ : Uk) = ⟨z.key, z.row, z.t⟩ := e
  injection e with e1 e2 e3
  exact ⟨x, hx, e1, e2, e3⟩
theorem minv_advd (hm : MInv f ta ra tb rb out) (hO : O.map Up.p = out) : ∀ z ∈ O, adv z.t f = z.t := fun z hz => by
  obtain ⟨x, _, _, _, e⟩ := minv_key hm hO hz
  rw [← e]
  exact adv_again x.t f
theorem minv_ahead (hm : MInv f ta ra tb rb out) (hO : O.map Up.p = out) : ∀ z ∈ O, ∀ y ∈ ra ++ rb, plc z y < 0 := fun z hz y hy => by
  obtain ⟨x, hx, e1, e2, _⟩ := minv_key hm hO hz
  have := hm.sep x hx y hy
  unfold plc at *
  rwa [e1, e2] at this
theorem minv_even (hm : MInv f ta ra tb rb out) (hf : ∀ x ∈ f, x.right = true) (hc : chkUs (ta ++ tb) = 0) (hO : O.map Up.p = out) : EvenP O := by
  have hR := adv_keys hf hc
  have hn : O.map Up.p = nz Uk.cmp ((advL f (ta ++ tb)).map Up.p) := hO.trans hm.out_
  refine ⟨fun z hz => ?_, by rw [hn]; exact nz_srt uk_lin _, chkUs_all.2 fun z hz => ?_⟩
  · have h : z.p ∈ nz Uk.cmp ((advL f (ta ++ tb)).map Up.p) := by rw [← hn]; exact List.mem_map_of_mem hz
    exact ((nz_mem uk_lin hR z.p).1 h).2.2
  · have h : z.p ∈ nz Uk.cmp ((advL f (ta ++ tb)).map Up.p) := by rw [← hn]; exact List.mem_map_of_mem hz
    exact nz_right (R := UkR) hR _ h
end
structure MS where
  ta : List Up
  ra : List Up
  tb : List Up
  rb : List Up
  out : List (Uk × Int)
  cost : Nat
  E : Int
def MS.left (s : MS) : Nat := s.ra.length + s.rb.length
def MS.step (f : List Tm) (s : MS) (u : Up) : MS :=
  { ta := s.ta ++ grp u s.ra, ra := s.ra.drop (grp u s.ra).length, tb := s.tb ++ grp u s.rb, rb := s.rb.drop (grp u s.rb).length, out := s.out ++ consL [advL f (grp u s.ra ++ grp u s.rb)], cost := s.cost + ((grp u s.ra).length + (grp u s.rb).length), E := 0 }
def workM (f : List Tm) (fuel : Int) : Nat → MS → MS
  | 0, s => s
  | n + 1, s => if (s.cost : Int) < fuel then
      match nextM s.ra s.rb with
      | none => s
      | some u => if consE [advL f (grp u s.ra ++ grp u s.rb)] = 0 then workM f fuel n (s.step f u) else { s with E := consE [advL f (grp u s.ra ++ grp u s.rb)] }
    else s
theorem grp_le (u : Up) (r : List Up) : (grp u r).length ≤ r.length := (List.takeWhile_sublist _).length_le
theorem step_left {f : List Tm} {s : MS} {u : Up} (h : nextM s.ra s.rb = some u) : (s.step f u).left < s.left ∧ (s.step f u).cost + (s.step f u).left = s.cost + s.left ∧ s.cost < (s.step f u).cost := by
  have h1 := grp_pos h
  have h2 := grp_le u s.ra
  have h3 := grp_le u s.rb
  unfold MS.left MS.step
  dsimp only
  rw [List.length_drop, List.length_drop]
  omega
structure MS.Fine (f : List Tm) (a b : List Up) (s : MS) : Prop where
  inv : MInv f s.ta s.ra s.tb s.rb s.out
  a_ : s.ta ++ s.ra = a
  b_ : s.tb ++ s.rb = b
theorem fine_step {f : List Tm} {a b : List Up} {s : MS} {u : Up} (h : s.Fine f a b) (hf : ∀ x ∈ f, x.right = true) (hc : chkUs (a ++ b) = 0) (ha : PlUp a) (hb : PlUp b) (hu : nextM s.ra s.rb = some u) (hE : consE [advL f (grp u s.ra ++ grp u s.rb)] = 0) : (s.step f u).Fine f a b := by
  have hra : PlUp s.ra := by have := h.a_ ▸ ha; exact (List.pairwise_append.1 this).2.1
  have hrb : PlUp s.rb := by have := h.b_ ▸ hb; exact (List.pairwise_append.1 this).2.1
  refine ⟨merge_step h.inv hf (by rw [h.a_, h.b_]; exact hc) hra hrb (next_min hu hra hrb) hE, ?_, ?_⟩
  · show s.ta ++ grp u s.ra ++ s.ra.drop (grp u s.ra).length = a
    rw [List.append_assoc, ← grp_split, h.a_]
  · show s.tb ++ grp u s.rb ++ s.rb.drop (grp u s.rb).length = b
    rw [List.append_assoc, ← grp_split, h.b_]
theorem work_fine {f : List Tm} {a b : List Up} (hf : ∀ x ∈ f, x.right = true) (hc : chkUs (a ++ b) = 0) (ha : PlUp a) (hb : PlUp b) (fuel : Int) : ∀ (n : Nat) (s : MS), s.E = 0 → s.left ≤ n → s.Fine f a b →
    (workM f fuel n s).Fine f a b ∧ (workM f fuel n s).cost + (workM f fuel n s).left = s.cost + s.left ∧ s.cost ≤ (workM f fuel n s).cost ∧
    ((workM f fuel n s).E = 0 ∧ ((workM f fuel n s).left = 0 ∨ fuel ≤ (workM f fuel n s).cost) ∧ ((s.cost : Int) < fuel → 0 < s.left → s.cost < (workM f fuel n s).cost) ∨ (workM f fuel n s).E = 10 ∧ consE [advL f (a ++ b)] = 10) ∧
    ((s.left = 0 ∨ fuel ≤ s.cost) → workM f fuel n s = s)
  | 0, s, h0, hl, hs => ⟨hs, rfl, Nat.le_refl _, .inl ⟨h0, .inl (by show s.left = 0; omega), fun _ h => by omega⟩, fun _ => rfl⟩
  | n + 1, s, h0, hl, hs => by
    by_cases hlt : (s.cost : Int) < fuel
    case neg =>
      have e : workM f fuel (n + 1) s = s := by unfold workM; rw [if_neg hlt]
      rw [e]
      exact ⟨hs, rfl, Nat.le_refl _, .inl ⟨h0, .inr (by omega), fun h => absurd h hlt⟩, fun _ => rfl⟩
    cases hu : nextM s.ra s.rb with
    | none =>
      have e : workM f fuel (n + 1) s = s := by unfold workM; rw [if_pos hlt, hu]
      have h1 := next_none.1 hu
      have hz : s.left = 0 := by unfold MS.left; rw [h1.1, h1.2]; rfl
      rw [e]
      exact ⟨hs, rfl, Nat.le_refl _, .inl ⟨h0, .inl hz, fun _ h => by omega⟩, fun _ => rfl⟩
    | some u =>
      obtain ⟨l1, l2, l3⟩ := step_left (f := f) hu
      have hpos : ¬ (s.left = 0 ∨ fuel ≤ s.cost) := by omega
      by_cases hE : consE [advL f (grp u s.ra ++ grp u s.rb)] = 0
      · have e : workM f fuel (n + 1) s = workM f fuel n (s.step f u) := by rw [workM, if_pos hlt, hu]; exact if_pos hE
        obtain ⟨i1, i2, i3, i4, i5⟩ := work_fine hf hc ha hb fuel n (s.step f u) rfl (by omega) (fine_step hs hf hc ha hb hu hE)
        rw [e]
        refine ⟨i1, by omega, by omega, ?_, fun h => absurd h hpos⟩
        rcases i4 with ⟨j1, j2, _⟩ | j
        · exact .inl ⟨j1, j2, fun _ _ => by omega⟩
        · exact .inr j
      · have e : workM f fuel (n + 1) s = { s with E := consE [advL f (grp u s.ra ++ grp u s.rb)] } := by rw [workM, if_pos hlt, hu]; exact if_neg hE
        have hra : PlUp s.ra := by have := hs.a_ ▸ ha; exact (List.pairwise_append.1 this).2.1
        have hrb : PlUp s.rb := by have := hs.b_ ▸ hb; exact (List.pairwise_append.1 this).2.1
        have hfail := merge_fail hs.inv hf (by rw [hs.a_, hs.b_]; exact hc) hra hrb (next_min hu hra hrb) hE
        rw [hs.a_, hs.b_] at hfail
        rw [e]
        exact ⟨⟨hs.inv, hs.a_, hs.b_⟩, rfl, Nat.le_refl _, .inr ⟨hfail.1, hfail.2⟩, fun h => absurd h hpos⟩
structure DivB (l : List Up) (i : Int) (o : List Up) : Prop where
  lo : 0 ≤ i
  hi : i ≤ l.length
  side : ∀ x y, 0 < i → l[i.toNat - 1]? = some x → l[i.toNat]? = some y → plc x y < 0
  past : ∀ z y, o[o.length - 1]? = some z → l[i.toNat]? = some y → plc z y < 0
structure MergOk (f : List Tm) (a b o : List Up) (i j : Int) : Prop where
  even : EvenP a ∧ EvenP b ∧ EvenP o
  front : FrontOk f
  advd : ∀ u ∈ o, adv u.t f = u.t
  da : DivB a i o
  db : DivB b j o
theorem even_two {a b : List Up} (ha : EvenP a) (hb : EvenP b) : chkUs (a ++ b) = 0 := chkUs_all.2 fun u hu => by
  rcases List.mem_append.1 hu with hu | hu
  · exact chkUs_all.1 ha.2.2 u hu
  · exact chkUs_all.1 hb.2.2 u hu
theorem div_of {t r o : List Up} (h1 : ∀ x ∈ t, ∀ y ∈ r, plc x y < 0) (h2 : ∀ z ∈ o, ∀ y ∈ r, plc z y < 0) : DivB (t ++ r) t.length o := by
  have hr : ∀ y, (t ++ r)[(t.length : Int).toNat]? = some y → y ∈ r := fun y hy => by
    rw [Int.toNat_natCast, List.getElem?_append_right (Nat.le_refl _)] at hy
    exact List.mem_of_getElem? hy
  refine ⟨by omega, by rw [List.length_append]; omega, fun x y hi hx hy => ?_, fun z y hz hy => h2 z (List.mem_of_getElem? hz) y (hr y hy)⟩
  rw [Int.toNat_natCast, List.getElem?_append_left (by omega)] at hx
  exact h1 x (List.mem_of_getElem? hx) y (hr y hy)
theorem fine_ok {f : List Tm} {a b o : List Up} {s : MS} (h : s.Fine f a b) (hf : FrontOk f) (ha : EvenP a) (hb : EvenP b) (ho : o.map Up.p = s.out) : MergOk f a b o s.ta.length s.tb.length := by
  have hc := even_two ha hb
  have hct : chkUs (s.ta ++ s.tb) = 0 := chkUs_all.2 fun u hu => chkUs_all.1 hc u (by
    rw [← h.a_, ← h.b_]
    simp only [List.mem_append] at hu ⊢
    rcases hu with hu | hu
    · exact .inl (.inl hu)
    · exact .inr (.inl hu))
  have hah := minv_ahead h.inv ho
  refine ⟨⟨ha, hb, minv_even h.inv hf.right hct ho⟩, hf, minv_advd h.inv ho, ?_, ?_⟩
  · rw [← h.a_]
    exact div_of (fun x hx y hy => h.inv.sep x (List.mem_append_left _ hx) y (List.mem_append_left _ hy)) fun z hz y hy => hah z hz y (List.mem_append_left _ hy)
  · rw [← h.b_]
    exact div_of (fun x hx y hy => h.inv.sep x (List.mem_append_right _ hx) y (List.mem_append_right _ hy)) fun z hz y hy => hah z hz y (List.mem_append_right _ hy)
theorem fine_start (f : List Tm) (a b : List Up) : MS.Fine f a b ⟨[], a, [], b, [], 0, 0⟩ := ⟨merge_start f a b, rfl, rfl⟩
def Past_ (f : List Tm) (t : Tm) : Prop := f = [] ∨ beyond f t = true
def SameAt (f : List Tm) (X Y : List Up) : Prop := ∀ t, Past_ f t → ∀ r, sumOf cmpRows (atP X t) r = sumOf cmpRows (atP Y t) r
section
variable {f g : List Tm} {X Y Z W : List Up}
def LaterF (g f : List Tm) : Prop := f = [] ∨ (g ≠ [] ∧ ∀ x ∈ g, beyond f x = true)
theorem later_refl (f : List Tm) : LaterF f f := by
  by_cases h : f = []
  · exact .inl h
  · exact .inr ⟨h, fun x hx => beyond_iff.2 ⟨x, hx, le_refl' x⟩⟩
end
theorem up_p {x y : Up} (h : x.p = y.p) : x.key = y.key ∧ x.row = y.row ∧ x.t = y.t ∧ x.d = y.d := by
  have h : ((⟨x.key, x.row, x.t⟩ : Uk), x.d) = ((⟨y.key, y.row, y.t⟩ : Uk), y.d) := h
  simp only [Prod.mk.injEq, Uk.mk.injEq] at h
  exact ⟨h.1.1, h.1.2.1, h.1.2.2, h.2⟩
theorem plc_p {x x' y y' : Up} (hx : x.p = x'.p) (hy : y.p = y'.p) : plc x y = plc x' y' := by
  obtain ⟨a, b, _⟩ := up_p hx
  obtain ⟨c, d, _⟩ := up_p hy
  unfold plc
  rw [a, b, c, d]
theorem chkUs_p : ∀ {l m : List Up}, l.map Up.p = m.map Up.p → chkUs l = chkUs m
  | [], [], _ => rfl
  | [], _ :: _, h => by simp at h
  | _ :: _, [], h => by simp at h
  | x :: l, y :: m, h => by
    rw [List.map_cons, List.map_cons, List.cons.injEq] at h
    have ih := chkUs_p h.2
    have hk : x.k = y.k := congrArg Prod.fst h.1
    unfold chkUs chkU
    rw [ih, hk]
theorem even_p {l m : List Up} (h : l.map Up.p = m.map Up.p) (hl : EvenP l) : EvenP m := by
  refine ⟨fun u hu => ?_, by rw [← h]; exact hl.2.1, by rw [← chkUs_p h]; exact hl.2.2⟩
  have : u.p ∈ l.map Up.p := by rw [h]; exact List.mem_map_of_mem hu
  obtain ⟨x, hx, e⟩ := List.mem_map.1 this
  rw [← (up_p e).2.2.2]
  exact hl.1 x hx
theorem advL_p {l m : List Up} (f : List Tm) (h : l.map Up.p = m.map Up.p) : (advL f l).map Up.p = (advL f m).map Up.p := by
  have e : ∀ n : List Up, (advL f n).map Up.p = (n.map Up.p).map fun x => ((⟨x.1.key, x.1.row, adv x.1.t f⟩ : Uk), x.2) := fun n => by
    unfold advL
    rw [List.map_map, List.map_map]
    rfl
  rw [e, e, h]
theorem mem_p {l m : List Up} (h : l.map Up.p = m.map Up.p) {x : Up} (hx : x ∈ l) : ∃ y ∈ m, y.p = x.p := by
  have : x.p ∈ m.map Up.p := by rw [← h]; exact List.mem_map_of_mem hx
  obtain ⟨y, hy, e⟩ := List.mem_map.1 this
  exact ⟨y, hy, e⟩
theorem len_p {l m : List Up} (h : l.map Up.p = m.map Up.p) : l.length = m.length := by have := congrArg List.length h; simpa using this
theorem drop_p {l m : List Up} (h : l.map Up.p = m.map Up.p) (n : Nat) : (l.drop n).map Up.p = (m.drop n).map Up.p := by rw [List.map_drop, List.map_drop, h]
theorem app_p {l m l' m' : List Up} (h : l.map Up.p = m.map Up.p) (h' : l'.map Up.p = m'.map Up.p) : (l ++ l').map Up.p = (m ++ m').map Up.p := by rw [List.map_append, List.map_append, h, h']
theorem advd_p {f : List Tm} {l m : List Up} (h : l.map Up.p = m.map Up.p) (hl : ∀ u ∈ l, adv u.t f = u.t) : ∀ u ∈ m, adv u.t f = u.t := fun u hu => by
  obtain ⟨x, hx, e⟩ := mem_p h.symm hu
  have := (up_p e).2.2.1
  rw [← this]
  exact hl x hx
def startM (a : List Up) (i : Nat) (b : List Up) (j : Nat) (o : List (Uk × Int)) : MS := ⟨a.take i, a.drop i, b.take j, b.drop j, o, 0, 0⟩
def FineM (f : List Tm) (a : List Up) (i : Nat) (b : List Up) (j : Nat) (o : List (Uk × Int)) : Prop := i ≤ a.length ∧ j ≤ b.length ∧ (startM a i b j o).Fine f a b
theorem finem_start (f : List Tm) (a b : List Up) : FineM f a 0 b 0 [] := ⟨Nat.zero_le _, Nat.zero_le _, fine_start f a b⟩
theorem finem_ok {f : List Tm} {a b o : List Up} {i j : Nat} {O : List (Uk × Int)} (h : FineM f a i b j O) (hf : FrontOk f) (ha : EvenP a) (hb : EvenP b) (ho : o.map Up.p = O) : MergOk f a b o i j := by
  obtain ⟨h1, h2, h3⟩ := h
  have := fine_ok h3 hf ha hb ho
  have e1 : (startM a i b j O).ta.length = i := by show (a.take i).length = i; rw [List.length_take]; omega
  have e2 : (startM a i b j O).tb.length = j := by show (b.take j).length = j; rw [List.length_take]; omega
  rwa [e1, e2] at this
end Go.Proofs.YtjffohpdjicfpaaGreat
