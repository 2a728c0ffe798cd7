/- Bounds of a list of times: of each part the greatest, or the smallest. -/
import Derived.Test.YtdbdjojgccbfcaaEach
import Derived.Test.YtdbdjojgccbfcaaTimes
import Derived.Handy
namespace Go.Proofs.Ytdbdjojgccbfcaa
open Go Go.RowKit

theorem fold_take {α : Type} (f : α → α → α) (x s : α) (l : List α) (k : Nat) (h : l[k]? = some s) : (l.take (k + 1)).foldl f x = f ((l.take k).foldl f x) s := by
  rw [List.take_add_one, h, List.foldl_append]; rfl

set_option maxRecDepth 100000 in
set_option maxHeartbeats 1600000 in
theorem bound_sup (b o c : Nat) (x : Tm) (l : List Tm) (w : World) (hx : TmAt w b o x) (hB : b < w.heap.size) (hl : ∀ (i : Nat) (t : Tm), l[i]? = some t → TmAt w b (o + 3 + i * 3) t) (hc : l.length + 1 ≤ c) (hn : c ≤ maxLen) :
    Calls Try.prog 31 #[.slice (some ⟨b, o, none⟩) (l.length + 1) c, .func (.func 30) #[] #[]] w
      fun e w' => e = .returned (l.foldl Tm.sup x).val ∧ Below w.heap.size w w' := by
  unfold maxLen at hn
  have Hl := Lib.hid hl
  clear hl
  obtain ⟨x0, x1, x2⟩ := hx
  have hcall := fun (s t : Tm) (W : World) => Lib.hid (each_greater s.a s.b t.a t.b W)
  have hB' : b < w.heap.size + 1 := by omega
  have hne0 : ¬ b = w.heap.size := by omega
  by_cases hc1 : c = 1
  · have hl0 : l = [] := List.eq_nil_of_length_eq_zero (by omega)
    subst hl0 hc1
    simp only [List.length_nil, Nat.zero_add, List.foldl_nil]
    unfold Tm.val
    go_enter Try.func31, Try.ntmps31
    go_wp2_with fail
    go_rounds 1
    refine bodyPost_ret (v := .agg #[.int .u64 (x.e : Int), .int .u64 (x.a : Int), .int .u64 (x.b : Int)]) (by simp [results, Try.results31, go_sem]) rfl ⟨rfl, ((Below.refl _ _).alloc (Nat.le_refl _) _).alloc (by simp) _⟩
  · have h10 : ((l.length : Int) + 1 == 0) = false := by simp; omega
    go_enter Try.func31, Try.ntmps31
    go_wp2_with fail
    go_loopw [18] (fun i wr => ∃ k : Nat, i = .int .i64 (k : Int) ∧ k ≤ l.length ∧ Below w.heap.size w wr ∧
        Own wr w.heap.size 26 [.int .u64 0, .int .u64 0, .int .u64 0] ∧ Own wr (w.heap.size + 1) 26 ((l.take k).foldl Tm.sup x).cells)
      (fun i _ => l.length - (intOf i).toNat)
    case atStart =>
      exact ⟨0, rfl, by omega, ((Below.refl _ _).alloc (Nat.le_refl _) _).alloc (by simp) _, (Own.made w _ _).more _, by have := Own.made (w.alloc (.cells #[.int .u64 0, .int .u64 0, .int .u64 0] 26)) 26 x.cells; simpa [Tm.cells] using this⟩
    case round =>
      obtain ⟨k, rfl, hk, hb, hr, hf⟩ := hrel
      have hs := hf.inside
      by_cases hlt : k < l.length
      · have hx : l[k]? = some l[k] := List.getElem?_eq_getElem hlt
        obtain ⟨c0, c1, c2⟩ := (Hl.out k _ hx).past hb hB
        have hsn := fold_take Tm.sup x _ l k hx
        generalize l[k] = s at *
        generalize hg : (l.take k).foldl Tm.sup x = g at *
        have f0 := hf.at_ 0
        have f1 := hf.at_ 1
        have f2 := hf.at_ 2
        have g0 := hf.open_ 0
        have g1 := hf.open_ 1
        have g2 := hf.open_ 2
        simp only [Tm.cells, List.getElem?_cons_zero, List.getElem?_cons_succ] at f0 f1 f2
        have HH := Lib.hid (And.intro hb (And.intro hr (And.intro hf (And.intro hsn (And.intro hx hg)))))
        clear hb hr hf hsn hx hg
        go_wp2_with fail
        refine (greater_any _ _ _).mono ?_
        rintro e w1 ⟨rfl, rfl⟩
        go_wp2_with fail
        refine (each_greater _ _ _ _ _).mono ?_
        rintro e w1 ⟨rfl, h1⟩
        have hf1 : Own w1 (w.heap.size + 1) 26 [.int .u64 ((max g.e s.e : Nat) : Int), .int .u64 (g.a : Int), .int .u64 (g.b : Int)] := ((HH.out.2.2.1.set_ 0 _).more _).past h1 (by simp; omega)
        have hr1 : Own w1 w.heap.size 26 [.int .u64 0, .int .u64 0, .int .u64 0] := ((HH.out.2.1.other (p := ⟨w.heap.size + 1, 0, none⟩) (by simp) _).more _).past h1 (by simp; omega)
        have hb1 : Below w.heap.size w w1 := ((HH.out.1.setCell (p := ⟨w.heap.size + 1, 0, none⟩) (by simp) _).alloc (by simp; omega) _).trans (h1.mono (by simp; omega))
        have k1 := hf1.open_ 1
        have k2 := hf1.open_ 2
        have k3 := hf1.at_ 1
        have k4 := hf1.at_ 2
        simp only [List.getElem?_cons_zero, List.getElem?_cons_succ] at k3 k4
        have H1 := Lib.hid (And.intro hf1 (And.intro hr1 hb1))
        clear hf1 hr1 hb1 h1
        go_wp2_with fail
        obtain ⟨hf1, hr1, hb1⟩ := H1.out
        obtain ⟨hb, hr, hf, hsn, hx, hg⟩ := HH.out
        go_roundw
        case rel => exact ⟨k + 1, by go_num, by omega, (hb1.setCell (p := ⟨w.heap.size + 1, 1, none⟩) (by simp) _).setCell (p := ⟨w.heap.size + 1, 2, none⟩) (by simp) _, (hr1.other (p := ⟨w.heap.size + 1, 1, none⟩) (by simp) _).other (p := ⟨w.heap.size + 1, 2, none⟩) (by simp) _, by rw [hsn]; exact (hf1.set_ 1 _).set_ 2 _⟩
        case measure => simp [intOf]; omega
      · have hk2 : k = l.length := by omega
        have f0 := hf.at_ 0
        have f1 := hf.at_ 1
        have f2 := hf.at_ 2
        have g0 := hr.open_ 0
        have g1 := hr.open_ 1
        have g2 := hr.open_ 2
        have e0 := hr.at_ 0
        have e1 := hr.at_ 1
        have e2 := hr.at_ 2
        subst hk2
        rw [List.take_length] at *
        generalize hg : l.foldl Tm.sup x = g at *
        obtain ⟨d0, d1, d2⟩ := hr.stored3 (.int .u64 (g.e : Int)) (.int .u64 (g.a : Int)) (.int .u64 (g.b : Int))
        have H1 := Lib.hid (And.intro hg (And.intro hb (And.intro d0 (And.intro d1 d2))))
        simp only [Tm.cells, List.getElem?_cons_zero, List.getElem?_cons_succ] at f0 f1 f2 e0 e1 e2
        clear hr hf hb d0 d1 d2 hg
        go_wp2_with fail
        obtain ⟨hg, hb, d0, d1, d2⟩ := H1.out
        refine bodyPost_ret (v := g.val) (by simp [results, Try.results31, go_sem, d0, d1, d2, Tm.val]) rfl ⟨congrArg (fun g : Tm => Ending.returned g.val) hg.symm, below_set3 hb (Nat.le_refl _) _ _ _⟩

set_option maxRecDepth 100000 in
set_option maxHeartbeats 1600000 in
theorem bound_inf (b o c : Nat) (x : Tm) (l : List Tm) (w : World) (hx : TmAt w b o x) (hB : b < w.heap.size) (hl : ∀ (i : Nat) (t : Tm), l[i]? = some t → TmAt w b (o + 3 + i * 3) t) (hc : l.length + 1 ≤ c) (hn : c ≤ maxLen) :
    Calls Try.prog 31 #[.slice (some ⟨b, o, none⟩) (l.length + 1) c, .func (.func 32) #[] #[]] w
      fun e w' => e = .returned (l.foldl Tm.inf x).val ∧ Below w.heap.size w w' := by
  unfold maxLen at hn
  have Hl := Lib.hid hl
  clear hl
  obtain ⟨x0, x1, x2⟩ := hx
  have hcall := fun (s t : Tm) (W : World) => Lib.hid (each_smaller s.a s.b t.a t.b W)
  have hB' : b < w.heap.size + 1 := by omega
  have hne0 : ¬ b = w.heap.size := by omega
  by_cases hc1 : c = 1
  · have hl0 : l = [] := List.eq_nil_of_length_eq_zero (by omega)
    subst hl0 hc1
    simp only [List.length_nil, Nat.zero_add, List.foldl_nil]
    unfold Tm.val
    go_enter Try.func31, Try.ntmps31
    go_wp2_with fail
    go_rounds 1
    refine bodyPost_ret (v := .agg #[.int .u64 (x.e : Int), .int .u64 (x.a : Int), .int .u64 (x.b : Int)]) (by simp [results, Try.results31, go_sem]) rfl ⟨rfl, ((Below.refl _ _).alloc (Nat.le_refl _) _).alloc (by simp) _⟩
  · have h10 : ((l.length : Int) + 1 == 0) = false := by simp; omega
    go_enter Try.func31, Try.ntmps31
    go_wp2_with fail
    go_loopw [18] (fun i wr => ∃ k : Nat, i = .int .i64 (k : Int) ∧ k ≤ l.length ∧ Below w.heap.size w wr ∧
        Own wr w.heap.size 26 [.int .u64 0, .int .u64 0, .int .u64 0] ∧ Own wr (w.heap.size + 1) 26 ((l.take k).foldl Tm.inf x).cells)
      (fun i _ => l.length - (intOf i).toNat)
    case atStart =>
      exact ⟨0, rfl, by omega, ((Below.refl _ _).alloc (Nat.le_refl _) _).alloc (by simp) _, (Own.made w _ _).more _, by have := Own.made (w.alloc (.cells #[.int .u64 0, .int .u64 0, .int .u64 0] 26)) 26 x.cells; simpa [Tm.cells] using this⟩
    case round =>
      obtain ⟨k, rfl, hk, hb, hr, hf⟩ := hrel
      have hs := hf.inside
      by_cases hlt : k < l.length
      · have hx : l[k]? = some l[k] := List.getElem?_eq_getElem hlt
        obtain ⟨c0, c1, c2⟩ := (Hl.out k _ hx).past hb hB
        have hsn := fold_take Tm.inf x _ l k hx
        generalize l[k] = s at *
        generalize hg : (l.take k).foldl Tm.inf x = g at *
        have f0 := hf.at_ 0
        have f1 := hf.at_ 1
        have f2 := hf.at_ 2
        have g0 := hf.open_ 0
        have g1 := hf.open_ 1
        have g2 := hf.open_ 2
        simp only [Tm.cells, List.getElem?_cons_zero, List.getElem?_cons_succ] at f0 f1 f2
        have HH := Lib.hid (And.intro hb (And.intro hr (And.intro hf (And.intro hsn (And.intro hx hg)))))
        clear hb hr hf hsn hx hg
        go_wp2_with fail
        refine (smaller_any _ _ _).mono ?_
        rintro e w1 ⟨rfl, rfl⟩
        go_wp2_with fail
        refine (each_smaller _ _ _ _ _).mono ?_
        rintro e w1 ⟨rfl, h1⟩
        have hf1 : Own w1 (w.heap.size + 1) 26 [.int .u64 ((min g.e s.e : Nat) : Int), .int .u64 (g.a : Int), .int .u64 (g.b : Int)] := ((HH.out.2.2.1.set_ 0 _).more _).past h1 (by simp; omega)
        have hr1 : Own w1 w.heap.size 26 [.int .u64 0, .int .u64 0, .int .u64 0] := ((HH.out.2.1.other (p := ⟨w.heap.size + 1, 0, none⟩) (by simp) _).more _).past h1 (by simp; omega)
        have hb1 : Below w.heap.size w w1 := ((HH.out.1.setCell (p := ⟨w.heap.size + 1, 0, none⟩) (by simp) _).alloc (by simp; omega) _).trans (h1.mono (by simp; omega))
        have k1 := hf1.open_ 1
        have k2 := hf1.open_ 2
        have k3 := hf1.at_ 1
        have k4 := hf1.at_ 2
        simp only [List.getElem?_cons_zero, List.getElem?_cons_succ] at k3 k4
        have H1 := Lib.hid (And.intro hf1 (And.intro hr1 hb1))
        clear hf1 hr1 hb1 h1
        go_wp2_with fail
        obtain ⟨hf1, hr1, hb1⟩ := H1.out
        obtain ⟨hb, hr, hf, hsn, hx, hg⟩ := HH.out
        go_roundw
        case rel => exact ⟨k + 1, by go_num, by omega, (hb1.setCell (p := ⟨w.heap.size + 1, 1, none⟩) (by simp) _).setCell (p := ⟨w.heap.size + 1, 2, none⟩) (by simp) _, (hr1.other (p := ⟨w.heap.size + 1, 1, none⟩) (by simp) _).other (p := ⟨w.heap.size + 1, 2, none⟩) (by simp) _, by rw [hsn]; exact (hf1.set_ 1 _).set_ 2 _⟩
        case measure => simp [intOf]; omega
      · have hk2 : k = l.length := by omega
        have f0 := hf.at_ 0
        have f1 := hf.at_ 1
        have f2 := hf.at_ 2
        have g0 := hr.open_ 0
        have g1 := hr.open_ 1
        have g2 := hr.open_ 2
        have e0 := hr.at_ 0
        have e1 := hr.at_ 1
        have e2 := hr.at_ 2
        subst hk2
        rw [List.take_length] at *
        generalize hg : l.foldl Tm.inf x = g at *
        obtain ⟨d0, d1, d2⟩ := hr.stored3 (.int .u64 (g.e : Int)) (.int .u64 (g.a : Int)) (.int .u64 (g.b : Int))
        have H1 := Lib.hid (And.intro hg (And.intro hb (And.intro d0 (And.intro d1 d2))))
        simp only [Tm.cells, List.getElem?_cons_zero, List.getElem?_cons_succ] at f0 f1 f2 e0 e1 e2
        clear hr hf hb d0 d1 d2 hg
        go_wp2_with fail
        obtain ⟨hg, hb, d0, d1, d2⟩ := H1.out
        refine bodyPost_ret (v := g.val) (by simp [results, Try.results31, go_sem, d0, d1, d2, Tm.val]) rfl ⟨congrArg (fun g : Tm => Ending.returned g.val) hg.symm, below_set3 hb (Nat.le_refl _) _ _ _⟩
/-- the least upper, the greatest lower bound of a list -/
def lub : List Tm → Tm | [] => ⟨0, 0, 0⟩ | x :: l => l.foldl Tm.sup x
def glb : List Tm → Tm | [] => ⟨0, 0, 0⟩ | x :: l => l.foldl Tm.inf x

set_option maxRecDepth 100000 in
set_option maxHeartbeats 400000 in
theorem bound_nil_lub (A : Option Addr) (c : Nat) (w : World) :
    Calls Try.prog 31 #[.slice A 0 c, .func (.func 30) #[] #[]] w fun e w' => e = .returned (Tm.mk 0 0 0).val ∧ Below w.heap.size w w' := by
  unfold Tm.val
  go_enter Try.func31, Try.ntmps31
  go_wp2_with fail
  refine bodyPost_ret (v := .agg #[.int .u64 0, .int .u64 0, .int .u64 0]) (by simp [results, Try.results31, go_sem]) rfl ⟨rfl, (Below.refl _ _).alloc (Nat.le_refl _) _⟩
theorem bound_any_lub (A : Option Addr) (c : Nat) (l : List Tm) (w : World) (hl : Times w w.heap.size A l) (hc : l.length ≤ c) (hn : c ≤ maxLen) :
    Calls Try.prog 31 #[.slice A l.length c, .func (.func 30) #[] #[]] w fun e w' => e = .returned (lub l).val ∧ Below w.heap.size w w' := by
  cases l with
  | nil => exact bound_nil_lub A c w
  | cons x l =>
    obtain ⟨b, o, rfl, hB, ht⟩ := hl (by simp)
    exact bound_sup b o c x l w (by simpa using ht 0 x rfl) hB (fun i t h => by have := ht (i + 1) t (by simpa using h); rwa [Nat.add_mul, Nat.one_mul, ← Nat.add_assoc, Nat.add_right_comm] at this) (by simpa using hc) hn
set_option maxRecDepth 100000 in
set_option maxHeartbeats 400000 in
theorem lub_any (A : Option Addr) (c : Nat) (l : List Tm) (w : World) (hl : Times w w.heap.size A l) (hc : l.length ≤ c) (hn : c ≤ maxLen) :
    Calls Try.prog 20 #[.slice A l.length c] w fun e w' => e = .returned (lub l).val ∧ Below w.heap.size w w' := by
  have hcall := Lib.hid (fun W h => bound_any_lub A c l W h hc hn)
  have Hl := Lib.hid hl
  clear hl
  generalize hr : lub l = r at hcall
  unfold Tm.val at hcall ⊢
  go_enter Try.func20, Try.ntmps20
  go_wp2_with fail
  refine (hcall.out _ ?_).mono ?_
  · exact (Hl.out.past ((Below.refl _ _).alloc (Nat.le_refl _) _) (Nat.le_refl _)).wide (by simp)
  rintro e w1 ⟨rfl, h1⟩
  have hr1 : Own w1 w.heap.size 26 [.int .u64 0, .int .u64 0, .int .u64 0] := (Own.made w _ _).past h1 (by simp)
  have g0 := hr1.open_ 0
  have g1 := hr1.open_ 1
  have g2 := hr1.open_ 2
  have e0 := hr1.at_ 0
  have e1 := hr1.at_ 1
  have e2 := hr1.at_ 2
  obtain ⟨d0, d1, d2⟩ := hr1.stored3 (.int .u64 (r.e : Int)) (.int .u64 (r.a : Int)) (.int .u64 (r.b : Int))
  simp only [List.getElem?_cons_zero, List.getElem?_cons_succ] at e0 e1 e2
  have H1 := Lib.hid (And.intro hr (And.intro h1 (And.intro d0 (And.intro d1 d2))))
  clear hr1 h1 d0 d1 d2 hr hcall
  go_wp2_with fail
  obtain ⟨hr, h1, d0, d1, d2⟩ := H1.out
  refine bodyPost_ret (v := r.val) (by simp [results, Try.results20, go_sem, d0, d1, d2, Tm.val]) rfl ⟨rfl, below_set3 (((Below.refl _ _).alloc (Nat.le_refl _) _).trans (h1.mono (by simp))) (Nat.le_refl _) _ _ _⟩

set_option maxRecDepth 100000 in
set_option maxHeartbeats 400000 in
theorem bound_nil_glb (A : Option Addr) (c : Nat) (w : World) :
    Calls Try.prog 31 #[.slice A 0 c, .func (.func 32) #[] #[]] w fun e w' => e = .returned (Tm.mk 0 0 0).val ∧ Below w.heap.size w w' := by
  unfold Tm.val
  go_enter Try.func31, Try.ntmps31
  go_wp2_with fail
  refine bodyPost_ret (v := .agg #[.int .u64 0, .int .u64 0, .int .u64 0]) (by simp [results, Try.results31, go_sem]) rfl ⟨rfl, (Below.refl _ _).alloc (Nat.le_refl _) _⟩
theorem bound_any_glb (A : Option Addr) (c : Nat) (l : List Tm) (w : World) (hl : Times w w.heap.size A l) (hc : l.length ≤ c) (hn : c ≤ maxLen) :
    Calls Try.prog 31 #[.slice A l.length c, .func (.func 32) #[] #[]] w fun e w' => e = .returned (glb l).val ∧ Below w.heap.size w w' := by
  cases l with
  | nil => exact bound_nil_glb A c w
  | cons x l =>
    obtain ⟨b, o, rfl, hB, ht⟩ := hl (by simp)
    exact bound_inf b o c x l w (by simpa using ht 0 x rfl) hB (fun i t h => by have := ht (i + 1) t (by simpa using h); rwa [Nat.add_mul, Nat.one_mul, ← Nat.add_assoc, Nat.add_right_comm] at this) (by simpa using hc) hn
set_option maxRecDepth 100000 in
set_option maxHeartbeats 400000 in
theorem glb_any (A : Option Addr) (c : Nat) (l : List Tm) (w : World) (hl : Times w w.heap.size A l) (hc : l.length ≤ c) (hn : c ≤ maxLen) :
    Calls Try.prog 21 #[.slice A l.length c] w fun e w' => e = .returned (glb l).val ∧ Below w.heap.size w w' := by
  have hcall := Lib.hid (fun W h => bound_any_glb A c l W h hc hn)
  have Hl := Lib.hid hl
  clear hl
  generalize hr : glb l = r at hcall
  unfold Tm.val at hcall ⊢
  go_enter Try.func21, Try.ntmps21
  go_wp2_with fail
  refine (hcall.out _ ?_).mono ?_
  · exact (Hl.out.past ((Below.refl _ _).alloc (Nat.le_refl _) _) (Nat.le_refl _)).wide (by simp)
  rintro e w1 ⟨rfl, h1⟩
  have hr1 : Own w1 w.heap.size 26 [.int .u64 0, .int .u64 0, .int .u64 0] := (Own.made w _ _).past h1 (by simp)
  have g0 := hr1.open_ 0
  have g1 := hr1.open_ 1
  have g2 := hr1.open_ 2
  have e0 := hr1.at_ 0
  have e1 := hr1.at_ 1
  have e2 := hr1.at_ 2
  obtain ⟨d0, d1, d2⟩ := hr1.stored3 (.int .u64 (r.e : Int)) (.int .u64 (r.a : Int)) (.int .u64 (r.b : Int))
  simp only [List.getElem?_cons_zero, List.getElem?_cons_succ] at e0 e1 e2
  have H1 := Lib.hid (And.intro hr (And.intro h1 (And.intro d0 (And.intro d1 d2))))
  clear hr1 h1 d0 d1 d2 hr hcall
  go_wp2_with fail
  obtain ⟨hr, h1, d0, d1, d2⟩ := H1.out
  refine bodyPost_ret (v := r.val) (by simp [results, Try.results21, go_sem, d0, d1, d2, Tm.val]) rfl ⟨rfl, below_set3 (((Below.refl _ _).alloc (Nat.le_refl _) _).trans (h1.mono (by simp))) (Nat.le_refl _) _ _ _⟩
end Go.Proofs.Ytdbdjojgccbfcaa
