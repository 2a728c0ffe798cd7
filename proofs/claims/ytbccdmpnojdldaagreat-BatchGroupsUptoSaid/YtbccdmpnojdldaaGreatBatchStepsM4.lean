/- Part 4 of the texts on which BatchSteps rests: facts and contracts. -/
import Derived.Test.YtbccdmpnojdldaaGreatBatchStepsM3
import Derived.Handy
import Derived.Deep.AppendLies
import Derived.Deep.DeepCutAuto
import Derived.Deep.DeepAppendRoom
import Derived.ArgAppend
import Derived.Shelf.SlSortCmp.NoneTotal
import Derived.BigQuiet
namespace Go.Proofs.YtbccdmpnojdldaaGreat
open Go Go.RowKit

section
variable {K : Type} {cmp : K → K → Int} {R : K → Prop}
def psum (p : K → Bool) : List (K × Int) → Int
  | [] => 0
  | x :: l => (if p x.1 = true then x.2 else 0) + psum p l
theorem ins_right {x : K × Int} {l : List (K × Int)} (hx : R x.1) (hl : ∀ y ∈ l, R y.1) : ∀ y ∈ ins cmp x l, R y.1 := fun y hy => by
  rcases ins_keys x l y hy with e | ⟨z, hz, e⟩
  · rw [e]; exact hx
  · rw [← e]; exact hl z hz
theorem psum_ins (L : Lin cmp R) (p : K → Bool) (x : K × Int) (hx : R x.1) : ∀ l : List (K × Int), (∀ y ∈ l, R y.1) → psum p (ins cmp x l) = psum p l + if p x.1 = true then x.2 else 0
  | [], _ => by simp [ins, psum]
  | y :: t, h => by
    have ih := psum_ins L p x hx t fun z hz => h z (by simp [hz])
    unfold ins
    by_cases h0 : cmp y.1 x.1 = 0
    · have e : y.1 = x.1 := (L.eq y.1 x.1 (h y (by simp)) hx).1 h0
      rw [if_pos h0]
      simp only [psum, e]
      split <;> omega
    · rw [if_neg h0]
      split
      · simp only [psum, ih]; omega
      · simp only [psum]; omega
theorem psum_asmF (L : Lin cmp R) (p : K → Bool) : ∀ l a : List (K × Int), (∀ y ∈ l, R y.1) → (∀ y ∈ a, R y.1) → psum p (asmF cmp a l) = psum p a + psum p l
  | [], a, _, _ => by simp [asmF, psum]
  | x :: l, a, h, ha => by
    have hx := h x (by simp)
    have ih := psum_asmF L p l (ins cmp x a) (fun y hy => h y (by simp [hy])) (ins_right hx ha)
    show psum p (asmF cmp (ins cmp x a) l) = _
    rw [ih, psum_ins L p x hx a ha]
    simp only [psum]
    omega
theorem psum_nz0 (p : K → Bool) : ∀ l : List (K × Int), psum p (l.filter fun x => x.2 != 0) = psum p l
  | [] => rfl
  | x :: l => by
    have ih := psum_nz0 p l
    rw [List.filter_cons]
    split
    · simp only [psum, ih]
    · rename_i h
      have h0 : x.2 = 0 := by simpa using h
      simp only [psum, ih, h0]
      split <;> omega
theorem psum_nz (L : Lin cmp R) (p : K → Bool) {l : List (K × Int)} (h : ∀ y ∈ l, R y.1) : psum p (nz cmp l) = psum p l := by
  unfold nz asm
  rw [psum_nz0, psum_asmF L p l [] h fun y hy => (by cases hy)]
  simp [psum]
end
theorem at_sum (t : Tm) (r : List Vl) : ∀ l : List Up, sumOf cmpRows (atP l t) r = psum (fun k : Uk => k.t.le t && decide (cmpRows k.row r = 0)) (l.map Up.p)
  | [] => rfl
  | u :: l => by
    have ih := at_sum t r l
    have e : atP (u :: l) t = if u.t.le t = true then (u.row, u.d) :: atP l t else atP l t := by
      unfold atP
      rw [List.filter_cons]
      split <;> simp
    rw [e, List.map_cons]
    simp only [psum]
    rw [show u.p = (u.k, u.d) from rfl, ← ih]
    simp only [show u.k.t = u.t from rfl, show u.k.row = u.row from rfl]
    cases hle : u.t.le t
    · simp
    · by_cases h0 : cmpRows u.row r = 0
      · simp [sumOf, h0]
      · simp [sumOf, h0]
theorem at_append (a b : List Up) (t : Tm) : atP (a ++ b) t = atP a t ++ atP b t := by unfold atP; rw [List.filter_append, List.map_append]
theorem at_right {l : List Up} {t : Tm} (h : chkUs l = 0) : ∀ x ∈ atP l t, RowR x.1 := fun x hx => by
  obtain ⟨u, hu, rfl⟩ := List.mem_map.1 hx
  exact (chkK_zero (chkUs_all.1 h u (List.mem_filter.1 hu).1)).2.1
theorem at_ne {l : List Up} {t : Tm} (h : atE l t ≠ 0) : atL l t = [] := by
  unfold atE at h
  unfold atL
  split at h
  · rename_i h1; rw [if_pos h1]; exact resE_ne h
  · rename_i h1; rw [if_neg h1]
theorem at_zero {l : List Up} {t : Tm} (h : atE l t = 0) : chkUs l = 0 ∧ chk [t] = 0 ∧ resE cmpRows (atP l t) = 0 ∧ atL l t = nz cmpRows (atP l t) := by
  unfold atE at h
  split at h
  · rename_i h1
    have h2 : chkUs l = 0 ∧ chk [t] = 0 := by unfold chkAt orI at h1; split at h1 <;> simp_all
    exact ⟨h2.1, h2.2, h, by unfold atL; rw [if_pos h1]; exact (resE_zero h).1⟩
  · rename_i h1; exact absurd h h1
theorem at_of {l : List Up} {t : Tm} (h1 : chkUs l = 0) (h2 : chk [t] = 0) : atL l t = resL cmpRows (atP l t) ∧ atE l t = resE cmpRows (atP l t) := by
  have h : chkAt l t = 0 := by unfold chkAt orI; rw [if_pos h1]; exact h2
  unfold atL atE
  rw [if_pos h, if_pos h]
  exact ⟨rfl, rfl⟩
/-- of updates, and of them evened out -/
theorem at_same {l e : List Up} (t : Tm) (h : consE [l] = 0) (he : e.map Up.p = consL [l]) : atL l t = atL e t ∧ atE l t = atE e t := by
  have hev := (cons_even h he).2.2
  obtain ⟨h1, h2, h3⟩ := cons_chk h
  have hl : chkUs l = 0 := chkLs_all.1 h1 l (by simp)
  simp only [List.flatten_cons, List.flatten_nil, List.append_nil] at h2 h3
  by_cases ht : chk [t] = 0
  · rw [(at_of hl ht).1, (at_of hl ht).2, (at_of hev ht).1, (at_of hev ht).2]
    refine resL_ext row_lin (at_right hl) (at_right hev) fun r => ?_
    rw [at_sum, at_sum, he, h3, (resE_zero h2).1, psum_nz uk_lin _ (keys_right (chkUs_all.1 hl))]
  · have c1 : chkAt l t = chk [t] := by unfold chkAt orI; rw [if_pos hl]
    have c2 : chkAt e t = chk [t] := by unfold chkAt orI; rw [if_pos hev]
    unfold atL atE
    rw [c1, c2, if_neg ht, if_neg ht, if_neg ht, if_neg ht]
    exact ⟨rfl, rfl⟩
theorem merge_two {A B C : List (List Vl × Int)} {p q : List Ct} (hA : ∀ x ∈ A, RowR x.1) (hB : ∀ x ∈ B, RowR x.1) (hC : ∀ x ∈ C, RowR x.1) (hp : p.map Ct.p = nz cmpRows A) (hq : q.map Ct.p = nz cmpRows B)
    (hs : ∀ r, sumOf cmpRows A r + sumOf cmpRows B r = sumOf cmpRows C r) : mergeL [p, q] = resL cmpRows C ∧ mergeE [p, q] = resE cmpRows C := by
  have hall : ∀ x ∈ (p ++ q).map Ct.p, RowR x.1 := fun x hx => by
    rw [List.map_append, hp, hq] at hx
    rcases List.mem_append.1 hx with hx | hx
    · exact nz_right (R := RowR) hA x hx
    · exact nz_right (R := RowR) hB x hx
  have hc : chkCs ([p, q] : List (List Ct)).flatten = 0 := chkCs_all.2 fun c hc => by
    simp only [List.flatten_cons, List.flatten_nil, List.append_nil] at hc
    exact hall c.p (List.mem_map.2 ⟨c, hc, rfl⟩)
  unfold mergeL mergeE
  rw [if_pos hc, if_pos hc]
  simp only [List.flatten_cons, List.flatten_nil, List.append_nil]
  refine resL_ext row_lin hall hC fun r => ?_
  rw [List.map_append, sumOf_append, hp, hq, nz_sum row_lin, nz_sum row_lin]
  exact hs r
/-- of two lists -/
theorem at_merge {a b : List Up} {t : Tm} {p q : List Ct} (ha : atE a t = 0) (hb : atE b t = 0) (hp : p.map Ct.p = atL a t) (hq : q.map Ct.p = atL b t) : mergeL [p, q] = atL (a ++ b) t ∧ mergeE [p, q] = atE (a ++ b) t := by
  obtain ⟨a1, a2, a3, a4⟩ := at_zero ha
  obtain ⟨b1, b2, b3, b4⟩ := at_zero hb
  have hc : chkUs (a ++ b) = 0 := chkUs_all.2 fun u hu => by
    rcases List.mem_append.1 hu with hu | hu
    · exact chkUs_all.1 a1 u hu
    · exact chkUs_all.1 b1 u hu
  rw [(at_of hc a2).1, (at_of hc a2).2]
  exact merge_two (at_right a1) (at_right b1) (at_right hc) (hp.trans a4) (hq.trans b4) fun r => by rw [at_append, sumOf_append]
def betw (l : List Up) (a : Tm) : List Up := l.filter fun u => !u.t.le a
theorem betw_next {l : List Up} {a : Tm} {j : Nat} {u : Up} (h : l[j]? = some u) : betw (l.take (j + 1)) a = betw (l.take j) a ++ if u.t.le a = true then [] else [u] := by
  unfold betw
  rw [List.take_add_one, h, List.filter_append]
  cases hh : u.t.le a <;> simp [hh]
theorem betw_sub {l : List Up} {a : Tm} {u : Up} (h : u ∈ betw l a) : u ∈ l := (List.mem_filter.1 h).1
theorem betw_len (l : List Up) (a : Tm) : (betw l a).length ≤ l.length := List.length_filter_le ..
theorem betw_sum {a b : Tm} (hab : a.le b = true) (r : List Vl) : ∀ l : List Up, sumOf cmpRows (atP l a) r + sumOf cmpRows (atP (betw l a) b) r = sumOf cmpRows (atP l b) r
  | [] => rfl
  | u :: l => by
    have ih := betw_sum hab r l
    have e : ∀ t, atP (u :: l) t = if u.t.le t = true then (u.row, u.d) :: atP l t else atP l t := fun t => by
      unfold atP
      rw [List.filter_cons]
      split <;> simp
    have e2 : betw (u :: l) a = if u.t.le a = true then betw l a else u :: betw l a := by
      unfold betw
      rw [List.filter_cons]
      cases u.t.le a <;> simp
    have hle : u.t.le a = true → u.t.le b = true := fun h => by
      unfold Tm.le at *
      simp only [Bool.and_eq_true, decide_eq_true_eq] at *
      omega
    rw [e, e, e2]
    cases h1 : u.t.le a
    · have e3 : atP (u :: betw l a) b = if u.t.le b = true then (u.row, u.d) :: atP (betw l a) b else atP (betw l a) b := by
        unfold atP
        rw [List.filter_cons]
        split <;> simp
      simp only [Bool.false_eq_true, if_false]
      rw [e3]
      cases u.t.le b
      · simpa using ih
      · simp only [if_true, sumOf]; omega
    · rw [hle h1]
      simp only [if_true, sumOf]
      omega
/-- between two times -/
theorem at_later {l : List Up} {a b : Tm} {p q : List Ct} (hab : a.le b = true) (ha : atE l a = 0) (hb : atE l b = 0) (hz : atE (betw l a) b = 0) (hp : p.map Ct.p = atL l a) (hq : q.map Ct.p = atL (betw l a) b) : mergeL [p, q] = atL l b ∧ mergeE [p, q] = 0 := by
  obtain ⟨a1, a2, a3, a4⟩ := at_zero ha
  obtain ⟨b1, b2, b3, b4⟩ := at_zero hb
  obtain ⟨z1, z2, z3, z4⟩ := at_zero hz
  have := merge_two (at_right a1) (at_right z1) (at_right a1) (hp.trans a4) (hq.trans z4) fun r => betw_sum hab r l
  rw [b3] at this
  rw [(at_of a1 b2).1]
  exact this
theorem atL_len (l : List Up) (t : Tm) : (atL l t).length ≤ l.length := by
  unfold atL
  split
  · have h1 := resL_len (cmp := cmpRows) (atP l t)
    have h2 : (atP l t).length ≤ l.length := by unfold atP; rw [List.length_map]; exact List.length_filter_le ..
    omega
  · simp
theorem merge_len (L : List (List Ct)) : (mergeL L).length ≤ L.flatten.length := by
  unfold mergeL
  split
  · have := resL_len (cmp := cmpRows) (L.flatten.map Ct.p); rwa [List.length_map] at this
  · simp
end Go.Proofs.YtbccdmpnojdldaaGreat
namespace Go.Proofs.YtbccdmpnojdldaaGreat
open Go Go.RowKit

theorem empty_ups (w : World) : (w.alloc (.cells #[] 60)).ownsRow w.heap.size 60 6 (.slice (some ⟨w.heap.size, 0, none⟩) 0 0) 0 [] :=
  World.ownsRow_made w #[] 0 (Nat.le_refl _) (Nat.zero_le _) rfl
/-- the same, said of what is there at t -/
def There (l : List (List Vl × Int)) (e : Int) (w : World) (x : Ending) (w' : World) : Prop :=
  ∃ A c, ∃ outL : List Ct, x = .returned (.tuple #[.slice A outL.length c, .int .i64 e]) ∧ outL.map Ct.p = l ∧ Cts w' w'.heap.size A outL ∧ (∀ u ∈ outL, COk u) ∧ outL.length ≤ 1099511627776 ∧ Below w.heap.size w w'
/-- the same, and where it lies: in no block that was there -/
def ThereNew (l : List (List Vl × Int)) (e : Int) (w : World) (x : Ending) (w' : World) : Prop :=
  ∃ A c, ∃ outL : List Ct, x = .returned (.tuple #[.slice A outL.length c, .int .i64 e]) ∧ outL.map Ct.p = l ∧ Cts w' w'.heap.size A outL ∧ (∀ u ∈ outL, COk u) ∧ outL.length ≤ 1099511627776 ∧ Below w.heap.size w w' ∧ LoC w.heap.size A outL
/-- one list evened out -/
def Evened (l : List (Uk × Int)) (e : Int) (w : World) (x : Ending) (w' : World) : Prop :=
  ∃ A c, ∃ outL : List Up, x = .returned (.tuple #[.slice A outL.length c, .int .i64 e]) ∧ outL.map Up.p = l ∧ Ups w' w'.heap.size A outL ∧ (∀ u ∈ outL, UOk u) ∧ outL.length ≤ 1099511627776 ∧ Below w.heap.size w w'
theorem evened_one (A A1 : Option Addr) (c1 : Nat) (l : List Up) (w : World) (hl : ULs w w.heap.size A [⟨A1, c1, l⟩]) (hok : ∀ u ∈ l, UOk u) (hn : l.length ≤ 1099511627776) :
    Calls Tryz.prog 34 #[.slice A 1 1] w (Evened (consL [l]) (consE [l]) w) := by
  have h0 := consolidate_any A 1 [⟨A1, c1, l⟩] w hl (fun s hs u hu => by
    obtain rfl : s = ⟨A1, c1, l⟩ := by simpa using hs
    exact hok u hu) (by simpa [flatR] using hn) (by simp)
  refine h0.mono fun x w' ⟨A', c', outL, e1, e2, e3, e4, e5⟩ => ?_
  simp only [List.map_cons, List.map_nil] at e1 e2
  refine ⟨A', c', outL, e1, e2, e3, e4, ?_, e5⟩
  have := consL_len [l]
  rw [← e2, List.length_map] at this
  simp only [List.flatten_cons, List.flatten_nil, List.append_nil] at this
  omega
end Go.Proofs.YtbccdmpnojdldaaGreat
namespace Go.Proofs.YtbccdmpnojdldaaGreat
open Go Go.RowKit

theorem fold_take {α : Type} (f : α → α → α) (x s : α) (l : List α) (k : Nat) (h : l[k]? = some s) : (l.take (k + 1)).foldl f x = f ((l.take k).foldl f x) s := by
  rw [List.take_add_one, h, List.foldl_append]; rfl

set_option maxRecDepth 100000 in
set_option maxHeartbeats 1600000 in
theorem bound_sup (b o c : Nat) (x : Tm) (l : List Tm) (w : World) (hx : TmAt w b o x) (hB : b < w.heap.size) (hl : ∀ (i : Nat) (t : Tm), l[i]? = some t → TmAt w b (o + 3 + i * 3) t) (hc : l.length + 1 ≤ c) (hn : c ≤ maxLen) :
    Calls Tryz.prog 128 #[.slice (some ⟨b, o, none⟩) (l.length + 1) c, .func (.func 119) #[] #[]] w
      fun e w' => e = .returned (l.foldl Tm.sup x).val ∧ Below w.heap.size w w' := by
  unfold maxLen at hn
  have Hl := Lib.hid hl
  clear hl
  obtain ⟨x0, x1, x2⟩ := hx
  have hcall := fun (s t : Tm) (W : World) => Lib.hid (each_greater s.a s.b t.a t.b W)
  have hB' : b < w.heap.size + 1 := by omega
  have hne0 : ¬ b = w.heap.size := by omega
  by_cases hc1 : c = 1
  · have hl0 : l = [] := List.eq_nil_of_length_eq_zero (by omega)
    subst hl0 hc1
    simp only [List.length_nil, Nat.zero_add, List.foldl_nil]
    unfold Tm.val
    go_enter Tryz.func128, Tryz.ntmps128
    go_wp2_with fail
    go_rounds 1
    refine bodyPost_ret (v := .agg #[.int .u64 (x.e : Int), .int .u64 (x.a : Int), .int .u64 (x.b : Int)]) (by simp [results, Tryz.results128, go_sem]) rfl ⟨rfl, ((Below.refl _ _).alloc (Nat.le_refl _) _).alloc (by simp) _⟩
  · have h10 : ((l.length : Int) + 1 == 0) = false := by simp; omega
    go_enter Tryz.func128, Tryz.ntmps128
    go_wp2_with fail
    go_loopw [18] (fun i wr => ∃ k : Nat, i = .int .i64 (k : Int) ∧ k ≤ l.length ∧ Below w.heap.size w wr ∧
        Own wr w.heap.size 58 [.int .u64 0, .int .u64 0, .int .u64 0] ∧ Own wr (w.heap.size + 1) 58 ((l.take k).foldl Tm.sup x).cells)
      (fun i _ => l.length - (intOf i).toNat)
    case atStart =>
      exact ⟨0, rfl, by omega, ((Below.refl _ _).alloc (Nat.le_refl _) _).alloc (by simp) _, (Own.made w _ _).more _, by have := Own.made (w.alloc (.cells #[.int .u64 0, .int .u64 0, .int .u64 0] 58)) 58 x.cells; simpa [Tm.cells] using this⟩
    case round =>
      obtain ⟨k, rfl, hk, hb, hr, hf⟩ := hrel
      have hs := hf.inside
      by_cases hlt : k < l.length
      · have hx : l[k]? = some l[k] := List.getElem?_eq_getElem hlt
        obtain ⟨c0, c1, c2⟩ := (Hl.out k _ hx).past hb hB
        have hsn := fold_take Tm.sup x _ l k hx
        generalize l[k] = s at *
        generalize hg : (l.take k).foldl Tm.sup x = g at *
        have f0 := hf.at_ 0
        have f1 := hf.at_ 1
        have f2 := hf.at_ 2
        have g0 := hf.open_ 0
        have g1 := hf.open_ 1
        have g2 := hf.open_ 2
        simp only [Tm.cells, List.getElem?_cons_zero, List.getElem?_cons_succ] at f0 f1 f2
        have HH := Lib.hid (And.intro hb (And.intro hr (And.intro hf (And.intro hsn (And.intro hx hg)))))
        clear hb hr hf hsn hx hg
        go_wp2_with fail
        refine (greater_any _ _ _).mono ?_
        rintro e w1 ⟨rfl, rfl⟩
        go_wp2_with fail
        refine (each_greater _ _ _ _ _).mono ?_
        rintro e w1 ⟨rfl, h1⟩
        have hf1 : Own w1 (w.heap.size + 1) 58 [.int .u64 ((max g.e s.e : Nat) : Int), .int .u64 (g.a : Int), .int .u64 (g.b : Int)] := ((HH.out.2.2.1.set_ 0 _).more _).past h1 (by simp; omega)
        have hr1 : Own w1 w.heap.size 58 [.int .u64 0, .int .u64 0, .int .u64 0] := ((HH.out.2.1.other (p := ⟨w.heap.size + 1, 0, none⟩) (by simp) _).more _).past h1 (by simp; omega)
        have hb1 : Below w.heap.size w w1 := ((HH.out.1.setCell (p := ⟨w.heap.size + 1, 0, none⟩) (by simp) _).alloc (by simp; omega) _).trans (h1.mono (by simp; omega))
        have k1 := hf1.open_ 1
        have k2 := hf1.open_ 2
        have k3 := hf1.at_ 1
        have k4 := hf1.at_ 2
        simp only [List.getElem?_cons_zero, List.getElem?_cons_succ] at k3 k4
        have H1 := Lib.hid (And.intro hf1 (And.intro hr1 hb1))
        clear hf1 hr1 hb1 h1
        go_wp2_with fail
        obtain ⟨hf1, hr1, hb1⟩ := H1.out
        obtain ⟨hb, hr, hf, hsn, hx, hg⟩ := HH.out
        go_roundw
        case rel => exact ⟨k + 1, by go_num, by omega, (hb1.setCell (p := ⟨w.heap.size + 1, 1, none⟩) (by simp) _).setCell (p := ⟨w.heap.size + 1, 2, none⟩) (by simp) _, (hr1.other (p := ⟨w.heap.size + 1, 1, none⟩) (by simp) _).other (p := ⟨w.heap.size + 1, 2, none⟩) (by simp) _, by rw [hsn]; exact (hf1.set_ 1 _).set_ 2 _⟩
        case measure => simp [intOf]; omega
      · have hk2 : k = l.length := by omega
        have f0 := hf.at_ 0
        have f1 := hf.at_ 1
        have f2 := hf.at_ 2
        have g0 := hr.open_ 0
        have g1 := hr.open_ 1
        have g2 := hr.open_ 2
        have e0 := hr.at_ 0
        have e1 := hr.at_ 1
        have e2 := hr.at_ 2
        subst hk2
        rw [List.take_length] at *
        generalize hg : l.foldl Tm.sup x = g at *
        obtain ⟨d0, d1, d2⟩ := hr.stored3 (.int .u64 (g.e : Int)) (.int .u64 (g.a : Int)) (.int .u64 (g.b : Int))
        have H1 := Lib.hid (And.intro hg (And.intro hb (And.intro d0 (And.intro d1 d2))))
        simp only [Tm.cells, List.getElem?_cons_zero, List.getElem?_cons_succ] at f0 f1 f2 e0 e1 e2
        clear hr hf hb d0 d1 d2 hg
        go_wp2_with fail
        obtain ⟨hg, hb, d0, d1, d2⟩ := H1.out
        refine bodyPost_ret (v := g.val) (by simp [results, Tryz.results128, go_sem, d0, d1, d2, Tm.val]) rfl ⟨congrArg (fun g : Tm => Ending.returned g.val) hg.symm, below_set3 hb (Nat.le_refl _) _ _ _⟩

set_option maxRecDepth 100000 in
set_option maxHeartbeats 1600000 in
theorem bound_inf (b o c : Nat) (x : Tm) (l : List Tm) (w : World) (hx : TmAt w b o x) (hB : b < w.heap.size) (hl : ∀ (i : Nat) (t : Tm), l[i]? = some t → TmAt w b (o + 3 + i * 3) t) (hc : l.length + 1 ≤ c) (hn : c ≤ maxLen) :
    Calls Tryz.prog 128 #[.slice (some ⟨b, o, none⟩) (l.length + 1) c, .func (.func 129) #[] #[]] w
      fun e w' => e = .returned (l.foldl Tm.inf x).val ∧ Below w.heap.size w w' := by
  unfold maxLen at hn
  have Hl := Lib.hid hl
  clear hl
  obtain ⟨x0, x1, x2⟩ := hx
  have hcall := fun (s t : Tm) (W : World) => Lib.hid (each_smaller s.a s.b t.a t.b W)
  have hB' : b < w.heap.size + 1 := by omega
  have hne0 : ¬ b = w.heap.size := by omega
  by_cases hc1 : c = 1
  · have hl0 : l = [] := List.eq_nil_of_length_eq_zero (by omega)
    subst hl0 hc1
    simp only [List.length_nil, Nat.zero_add, List.foldl_nil]
    unfold Tm.val
    go_enter Tryz.func128, Tryz.ntmps128
    go_wp2_with fail
    go_rounds 1
    refine bodyPost_ret (v := .agg #[.int .u64 (x.e : Int), .int .u64 (x.a : Int), .int .u64 (x.b : Int)]) (by simp [results, Tryz.results128, go_sem]) rfl ⟨rfl, ((Below.refl _ _).alloc (Nat.le_refl _) _).alloc (by simp) _⟩
  · have h10 : ((l.length : Int) + 1 == 0) = false := by simp; omega
    go_enter Tryz.func128, Tryz.ntmps128
    go_wp2_with fail
    go_loopw [18] (fun i wr => ∃ k : Nat, i = .int .i64 (k : Int) ∧ k ≤ l.length ∧ Below w.heap.size w wr ∧
        Own wr w.heap.size 58 [.int .u64 0, .int .u64 0, .int .u64 0] ∧ Own wr (w.heap.size + 1) 58 ((l.take k).foldl Tm.inf x).cells)
      (fun i _ => l.length - (intOf i).toNat)
    case atStart =>
      exact ⟨0, rfl, by omega, ((Below.refl _ _).alloc (Nat.le_refl _) _).alloc (by simp) _, (Own.made w _ _).more _, by have := Own.made (w.alloc (.cells #[.int .u64 0, .int .u64 0, .int .u64 0] 58)) 58 x.cells; simpa [Tm.cells] using this⟩
    case round =>
      obtain ⟨k, rfl, hk, hb, hr, hf⟩ := hrel
      have hs := hf.inside
      by_cases hlt : k < l.length
      · have hx : l[k]? = some l[k] := List.getElem?_eq_getElem hlt
        obtain ⟨c0, c1, c2⟩ := (Hl.out k _ hx).past hb hB
        have hsn := fold_take Tm.inf x _ l k hx
        generalize l[k] = s at *
        generalize hg : (l.take k).foldl Tm.inf x = g at *
        have f0 := hf.at_ 0
        have f1 := hf.at_ 1
        have f2 := hf.at_ 2
        have g0 := hf.open_ 0
        have g1 := hf.open_ 1
        have g2 := hf.open_ 2
        simp only [Tm.cells, List.getElem?_cons_zero, List.getElem?_cons_succ] at f0 f1 f2
        have HH := Lib.hid (And.intro hb (And.intro hr (And.intro hf (And.intro hsn (And.intro hx hg)))))
        clear hb hr hf hsn hx hg
        go_wp2_with fail
        refine (smaller_any _ _ _).mono ?_
        rintro e w1 ⟨rfl, rfl⟩
        go_wp2_with fail
        refine (each_smaller _ _ _ _ _).mono ?_
        rintro e w1 ⟨rfl, h1⟩
        have hf1 : Own w1 (w.heap.size + 1) 58 [.int .u64 ((min g.e s.e : Nat) : Int), .int .u64 (g.a : Int), .int .u64 (g.b : Int)] := ((HH.out.2.2.1.set_ 0 _).more _).past h1 (by simp; omega)
        have hr1 : Own w1 w.heap.size 58 [.int .u64 0, .int .u64 0, .int .u64 0] := ((HH.out.2.1.other (p := ⟨w.heap.size + 1, 0, none⟩) (by simp) _).more _).past h1 (by simp; omega)
        have hb1 : Below w.heap.size w w1 := ((HH.out.1.setCell (p := ⟨w.heap.size + 1, 0, none⟩) (by simp) _).alloc (by simp; omega) _).trans (h1.mono (by simp; omega))
        have k1 := hf1.open_ 1
        have k2 := hf1.open_ 2
        have k3 := hf1.at_ 1
        have k4 := hf1.at_ 2
        simp only [List.getElem?_cons_zero, List.getElem?_cons_succ] at k3 k4
        have H1 := Lib.hid (And.intro hf1 (And.intro hr1 hb1))
        clear hf1 hr1 hb1 h1
        go_wp2_with fail
        obtain ⟨hf1, hr1, hb1⟩ := H1.out
        obtain ⟨hb, hr, hf, hsn, hx, hg⟩ := HH.out
        go_roundw
        case rel => exact ⟨k + 1, by go_num, by omega, (hb1.setCell (p := ⟨w.heap.size + 1, 1, none⟩) (by simp) _).setCell (p := ⟨w.heap.size + 1, 2, none⟩) (by simp) _, (hr1.other (p := ⟨w.heap.size + 1, 1, none⟩) (by simp) _).other (p := ⟨w.heap.size + 1, 2, none⟩) (by simp) _, by rw [hsn]; exact (hf1.set_ 1 _).set_ 2 _⟩
        case measure => simp [intOf]; omega
      · have hk2 : k = l.length := by omega
        have f0 := hf.at_ 0
        have f1 := hf.at_ 1
        have f2 := hf.at_ 2
        have g0 := hr.open_ 0
        have g1 := hr.open_ 1
        have g2 := hr.open_ 2
        have e0 := hr.at_ 0
        have e1 := hr.at_ 1
        have e2 := hr.at_ 2
        subst hk2
        rw [List.take_length] at *
        generalize hg : l.foldl Tm.inf x = g at *
        obtain ⟨d0, d1, d2⟩ := hr.stored3 (.int .u64 (g.e : Int)) (.int .u64 (g.a : Int)) (.int .u64 (g.b : Int))
        have H1 := Lib.hid (And.intro hg (And.intro hb (And.intro d0 (And.intro d1 d2))))
        simp only [Tm.cells, List.getElem?_cons_zero, List.getElem?_cons_succ] at f0 f1 f2 e0 e1 e2
        clear hr hf hb d0 d1 d2 hg
        go_wp2_with fail
        obtain ⟨hg, hb, d0, d1, d2⟩ := H1.out
        refine bodyPost_ret (v := g.val) (by simp [results, Tryz.results128, go_sem, d0, d1, d2, Tm.val]) rfl ⟨congrArg (fun g : Tm => Ending.returned g.val) hg.symm, below_set3 hb (Nat.le_refl _) _ _ _⟩
/-- the least upper, the greatest lower bound of a list -/
def lub : List Tm → Tm | [] => ⟨0, 0, 0⟩ | x :: l => l.foldl Tm.sup x
def glb : List Tm → Tm | [] => ⟨0, 0, 0⟩ | x :: l => l.foldl Tm.inf x

set_option maxRecDepth 100000 in
set_option maxHeartbeats 400000 in
theorem bound_nil_lub (A : Option Addr) (c : Nat) (w : World) :
    Calls Tryz.prog 128 #[.slice A 0 c, .func (.func 119) #[] #[]] w fun e w' => e = .returned (Tm.mk 0 0 0).val ∧ Below w.heap.size w w' := by
  unfold Tm.val
  go_enter Tryz.func128, Tryz.ntmps128
  go_wp2_with fail
  refine bodyPost_ret (v := .agg #[.int .u64 0, .int .u64 0, .int .u64 0]) (by simp [results, Tryz.results128, go_sem]) rfl ⟨rfl, (Below.refl _ _).alloc (Nat.le_refl _) _⟩
theorem bound_any_lub (A : Option Addr) (c : Nat) (l : List Tm) (w : World) (hl : Times w w.heap.size A l) (hc : l.length ≤ c) (hn : c ≤ maxLen) :
    Calls Tryz.prog 128 #[.slice A l.length c, .func (.func 119) #[] #[]] w fun e w' => e = .returned (lub l).val ∧ Below w.heap.size w w' := by
  cases l with
  | nil => exact bound_nil_lub A c w
  | cons x l =>
    obtain ⟨b, o, rfl, hB, ht⟩ := hl (by simp)
    exact bound_sup b o c x l w (by simpa using ht 0 x rfl) hB (fun i t h => by have := ht (i + 1) t (by simpa using h); rwa [Nat.add_mul, Nat.one_mul, ← Nat.add_assoc, Nat.add_right_comm] at this) (by simpa using hc) hn
set_option maxRecDepth 100000 in
set_option maxHeartbeats 400000 in
theorem lub_any (A : Option Addr) (c : Nat) (l : List Tm) (w : World) (hl : Times w w.heap.size A l) (hc : l.length ≤ c) (hn : c ≤ maxLen) :
    Calls Tryz.prog 111 #[.slice A l.length c] w fun e w' => e = .returned (lub l).val ∧ Below w.heap.size w w' := by
  have hcall := Lib.hid (fun W h => bound_any_lub A c l W h hc hn)
  have Hl := Lib.hid hl
  clear hl
  generalize hr : lub l = r at hcall
  unfold Tm.val at hcall ⊢
  go_enter Tryz.func111, Tryz.ntmps111
  go_wp2_with fail
  refine (hcall.out _ ?_).mono ?_
  · exact (Hl.out.past ((Below.refl _ _).alloc (Nat.le_refl _) _) (Nat.le_refl _)).wide (by simp)
  rintro e w1 ⟨rfl, h1⟩
  have hr1 : Own w1 w.heap.size 58 [.int .u64 0, .int .u64 0, .int .u64 0] := (Own.made w _ _).past h1 (by simp)
  have g0 := hr1.open_ 0
  have g1 := hr1.open_ 1
  have g2 := hr1.open_ 2
  have e0 := hr1.at_ 0
  have e1 := hr1.at_ 1
  have e2 := hr1.at_ 2
  obtain ⟨d0, d1, d2⟩ := hr1.stored3 (.int .u64 (r.e : Int)) (.int .u64 (r.a : Int)) (.int .u64 (r.b : Int))
  simp only [List.getElem?_cons_zero, List.getElem?_cons_succ] at e0 e1 e2
  have H1 := Lib.hid (And.intro hr (And.intro h1 (And.intro d0 (And.intro d1 d2))))
  clear hr1 h1 d0 d1 d2 hr hcall
  go_wp2_with fail
  obtain ⟨hr, h1, d0, d1, d2⟩ := H1.out
  refine bodyPost_ret (v := r.val) (by simp [results, Tryz.results111, go_sem, d0, d1, d2, Tm.val]) rfl ⟨rfl, below_set3 (((Below.refl _ _).alloc (Nat.le_refl _) _).trans (h1.mono (by simp))) (Nat.le_refl _) _ _ _⟩

set_option maxRecDepth 100000 in
set_option maxHeartbeats 400000 in
theorem bound_nil_glb (A : Option Addr) (c : Nat) (w : World) :
    Calls Tryz.prog 128 #[.slice A 0 c, .func (.func 129) #[] #[]] w fun e w' => e = .returned (Tm.mk 0 0 0).val ∧ Below w.heap.size w w' := by
  unfold Tm.val
  go_enter Tryz.func128, Tryz.ntmps128
  go_wp2_with fail
  refine bodyPost_ret (v := .agg #[.int .u64 0, .int .u64 0, .int .u64 0]) (by simp [results, Tryz.results128, go_sem]) rfl ⟨rfl, (Below.refl _ _).alloc (Nat.le_refl _) _⟩
theorem bound_any_glb (A : Option Addr) (c : Nat) (l : List Tm) (w : World) (hl : Times w w.heap.size A l) (hc : l.length ≤ c) (hn : c ≤ maxLen) :
    Calls Tryz.prog 128 #[.slice A l.length c, .func (.func 129) #[] #[]] w fun e w' => e = .returned (glb l).val ∧ Below w.heap.size w w' := by
  cases l with
  | nil => exact bound_nil_glb A c w
  | cons x l =>
    obtain ⟨b, o, rfl, hB, ht⟩ := hl (by simp)
    exact bound_inf b o c x l w (by simpa using ht 0 x rfl) hB (fun i t h => by have := ht (i + 1) t (by simpa using h); rwa [Nat.add_mul, Nat.one_mul, ← Nat.add_assoc, Nat.add_right_comm] at this) (by simpa using hc) hn
set_option maxRecDepth 100000 in
set_option maxHeartbeats 400000 in
theorem glb_any (A : Option Addr) (c : Nat) (l : List Tm) (w : World) (hl : Times w w.heap.size A l) (hc : l.length ≤ c) (hn : c ≤ maxLen) :
    Calls Tryz.prog 112 #[.slice A l.length c] w fun e w' => e = .returned (glb l).val ∧ Below w.heap.size w w' := by
  have hcall := Lib.hid (fun W h => bound_any_glb A c l W h hc hn)
  have Hl := Lib.hid hl
  clear hl
  generalize hr : glb l = r at hcall
  unfold Tm.val at hcall ⊢
  go_enter Tryz.func112, Tryz.ntmps112
  go_wp2_with fail
  refine (hcall.out _ ?_).mono ?_
  · exact (Hl.out.past ((Below.refl _ _).alloc (Nat.le_refl _) _) (Nat.le_refl _)).wide (by simp)
  rintro e w1 ⟨rfl, h1⟩
  have hr1 : Own w1 w.heap.size 58 [.int .u64 0, .int .u64 0, .int .u64 0] := (Own.made w _ _).past h1 (by simp)
  have g0 := hr1.open_ 0
  have g1 := hr1.open_ 1
  have g2 := hr1.open_ 2
  have e0 := hr1.at_ 0
  have e1 := hr1.at_ 1
  have e2 := hr1.at_ 2
  obtain ⟨d0, d1, d2⟩ := hr1.stored3 (.int .u64 (r.e : Int)) (.int .u64 (r.a : Int)) (.int .u64 (r.b : Int))
  simp only [List.getElem?_cons_zero, List.getElem?_cons_succ] at e0 e1 e2
  have H1 := Lib.hid (And.intro hr (And.intro h1 (And.intro d0 (And.intro d1 d2))))
  clear hr1 h1 d0 d1 d2 hr hcall
  go_wp2_with fail
  obtain ⟨hr, h1, d0, d1, d2⟩ := H1.out
  refine bodyPost_ret (v := r.val) (by simp [results, Tryz.results112, go_sem, d0, d1, d2, Tm.val]) rfl ⟨rfl, below_set3 (((Below.refl _ _).alloc (Nat.le_refl _) _).trans (h1.mono (by simp))) (Nat.le_refl _) _ _ _⟩
end Go.Proofs.YtbccdmpnojdldaaGreat
namespace Go.Proofs.YtbccdmpnojdldaaGreat
open Go Go.RowKit

theorem lub_zero (l : List Tm) : l.foldl Tm.sup ⟨0, 0, 0⟩ = lub l := by
  cases l with
  | nil => rfl
  | cons x l => simp [lub, Tm.sup]
set_option maxRecDepth 100000 in
set_option maxHeartbeats 3200000 in
theorem refLub_any (A : Option Addr) (c : Nat) (l : List Tm) (w : World) (hl : Times w w.heap.size A l) (hn : l.length ≤ maxLen) :
    Calls Tryz.prog 116 #[.slice A l.length c] w fun e w' => e = .returned (lub l).val ∧ Below w.heap.size w w' := by
  rw [← lub_zero]
  unfold maxLen at hn
  have Hl := Lib.hid hl
  clear hl
  have i0 : ∀ (b c : Nat) w, (Instr.index 56 (.agg #[.int .u64 (b : Int), .int .u64 (c : Int)]) (.int .i64 0)).run Tryz.prog w = .ok (.int .u64 (b : Int)) w := fun _ _ _ => by kernel_rfl
  have i1 : ∀ (b c : Nat) w, (Instr.index 56 (.agg #[.int .u64 (b : Int), .int .u64 (c : Int)]) (.int .i64 1)).run Tryz.prog w = .ok (.int .u64 (c : Int)) w := fun _ _ _ => by kernel_rfl
  go_enter Tryz.func116, Tryz.ntmps116
  go_wp2_with fail
  go_loopw [11] (fun i wr => ∃ k : Nat, i = .int .i64 (k : Int) ∧ k ≤ l.length ∧ Below w.heap.size w wr ∧
      Own wr w.heap.size 58 [.int .u64 0, .int .u64 0, .int .u64 0] ∧ Own wr (w.heap.size + 1) 58 ((l.take k).foldl Tm.sup ⟨0, 0, 0⟩).cells)
    (fun i _ => l.length - (intOf i).toNat)
  case atStart =>
    exact ⟨0, rfl, by omega, ((Below.refl _ _).alloc (Nat.le_refl _) _).alloc (by simp) _, (Own.made w _ _).more _, by have := Own.made (w.alloc (.cells #[.int .u64 0, .int .u64 0, .int .u64 0] 58)) 58 [.int .u64 0, .int .u64 0, .int .u64 0]; simpa [Tm.cells] using this⟩
  case round =>
    obtain ⟨k, rfl, hk, hb, hr, hf⟩ := hrel
    have hs := hf.inside
    by_cases hlt : k < l.length
    · have hx : l[k]? = some l[k] := List.getElem?_eq_getElem hlt
      obtain ⟨b, o, rfl, hB, hl⟩ := Hl.out (by omega)
      obtain ⟨c0, c1, c2⟩ := (hl k _ hx).past hb hB
      have hsn := fold_take Tm.sup ⟨0, 0, 0⟩ _ l k hx
      generalize l[k] = s at *
      generalize hg : (l.take k).foldl Tm.sup ⟨0, 0, 0⟩ = g at *
      have f0 := hf.at_ 0
      have f1 := hf.at_ 1
      have f2 := hf.at_ 2
      have g0 := hf.open_ 0
      have g1 := hf.open_ 1
      have g2 := hf.open_ 2
      simp only [Tm.cells, List.getElem?_cons_zero, List.getElem?_cons_succ] at f0 f1 f2
      have HH := Lib.hid (And.intro hb (And.intro hr (And.intro hf (And.intro hsn (And.intro hx hg)))))
      have hB2 : b < wr.heap.size := by omega
      clear hb hr hf hsn hx hg hl
      go_wp2_with fail
      all_goals (go_rounds 3)
      all_goals
        obtain ⟨hb, hr, hf, hsn, hx, hg⟩ := HH.out
        go_roundw
        case rel =>
          refine ⟨k + 1, by go_num, by omega, ?_, ?_, ?_⟩
          · refine Below.alloc ?_ (by first | omega | (simp; omega)) _
            first | with_reducible exact hb | with_reducible exact hb.setCell (by simp) _ | with_reducible exact (hb.setCell (by simp) _).setCell (by simp) _ | with_reducible exact ((hb.setCell (by simp) _).setCell (by simp) _).setCell (by simp) _
          · refine Own.more ?_ _
            first | with_reducible exact hr | with_reducible exact hr.other (by simp) _ | with_reducible exact (hr.other (by simp) _).other (by simp) _ | with_reducible exact ((hr.other (by simp) _).other (by simp) _).other (by simp) _
          · rw [hsn]
            refine Own.more ?_ _
            apply own_of
            · first | with_reducible exact hf | with_reducible exact hf.set_ _ _ | with_reducible exact (hf.set_ _ _).set_ _ _ | with_reducible exact ((hf.set_ _ _).set_ _ _).set_ _ _
            · simp [Tm.cells, Tm.sup, List.set]; omega
        case measure => simp [intOf]; omega
    · have hk2 : k = l.length := by omega
      have f0 := hf.at_ 0
      have f1 := hf.at_ 1
      have f2 := hf.at_ 2
      have g0 := hr.open_ 0
      have g1 := hr.open_ 1
      have g2 := hr.open_ 2
      have e0 := hr.at_ 0
      have e1 := hr.at_ 1
      have e2 := hr.at_ 2
      subst hk2
      rw [List.take_length] at *
      generalize hg : l.foldl Tm.sup ⟨0, 0, 0⟩ = g at *
      obtain ⟨d0, d1, d2⟩ := hr.stored3 (.int .u64 (g.e : Int)) (.int .u64 (g.a : Int)) (.int .u64 (g.b : Int))
      have H1 := Lib.hid (And.intro hg (And.intro hb (And.intro d0 (And.intro d1 d2))))
      simp only [Tm.cells, List.getElem?_cons_zero, List.getElem?_cons_succ] at f0 f1 f2 e0 e1 e2
      clear hr hf hb d0 d1 d2 hg
      go_wp2_with fail
      obtain ⟨hg, hb, d0, d1, d2⟩ := H1.out
      refine bodyPost_ret (v := g.val) (by simp [results, Tryz.results116, go_sem, d0, d1, d2, Tm.val]) rfl ⟨congrArg (fun g : Tm => Ending.returned g.val) hg.symm, below_set3 hb (Nat.le_refl _) _ _ _⟩

end Go.Proofs.YtbccdmpnojdldaaGreat
namespace Go.Proofs.YtbccdmpnojdldaaGreat
open Go Go.RowKit

theorem inf_self (x : Tm) : x.inf x = x := by simp [Tm.inf]
theorem glb_all (x : Tm) (l : List Tm) : (x :: l).foldl Tm.inf x = glb (x :: l) := by
  simp [glb, inf_self]

set_option maxRecDepth 100000 in
set_option maxHeartbeats 3200000 in
theorem refGlb_from (b o c : Nat) (x : Tm) (l : List Tm) (w : World) (hx0 : TmAt w b o x) (hB : b < w.heap.size) (hpos : 0 < l.length) (hl : ∀ (i : Nat) (t : Tm), l[i]? = some t → TmAt w b (o + i * 3) t) (hn : l.length ≤ maxLen) :
    Calls Tryz.prog 117 #[.slice (some ⟨b, o, none⟩) l.length c] w fun e w' => e = .returned (l.foldl Tm.inf x).val ∧ Below w.heap.size w w' := by
  have h00 : ((l.length : Int) == 0) = false := by simp; intro h; subst h; simp at hpos
  obtain ⟨x0, x1, x2⟩ := hx0
  have hz : (0 : Int) < (l.length : Int) := by omega
  unfold maxLen at hn
  have Hl := Lib.hid hl
  clear hl
  have i0 : ∀ (b c : Nat) w, (Instr.index 56 (.agg #[.int .u64 (b : Int), .int .u64 (c : Int)]) (.int .i64 0)).run Tryz.prog w = .ok (.int .u64 (b : Int)) w := fun _ _ _ => by kernel_rfl
  have i1 : ∀ (b c : Nat) w, (Instr.index 56 (.agg #[.int .u64 (b : Int), .int .u64 (c : Int)]) (.int .i64 1)).run Tryz.prog w = .ok (.int .u64 (c : Int)) w := fun _ _ _ => by kernel_rfl
  go_enter Tryz.func117, Tryz.ntmps117
  go_wp2_with fail
  go_loopw [17] (fun i wr => ∃ k : Nat, i = .int .i64 (k : Int) ∧ k ≤ l.length ∧ Below w.heap.size w wr ∧
      Own wr w.heap.size 58 [.int .u64 0, .int .u64 0, .int .u64 0] ∧ Own wr (w.heap.size + 1) 58 ((l.take k).foldl Tm.inf x).cells)
    (fun i _ => l.length - (intOf i).toNat)
  case atStart =>
    exact ⟨0, rfl, by omega, ((Below.refl _ _).alloc (Nat.le_refl _) _).alloc (by simp) _, (Own.made w _ _).more _, by have := Own.made (w.alloc (.cells #[.int .u64 0, .int .u64 0, .int .u64 0] 58)) 58 x.cells; simpa [Tm.cells] using this⟩
  case round =>
    obtain ⟨k, rfl, hk, hb, hr, hf⟩ := hrel
    have hs := hf.inside
    by_cases hlt : k < l.length
    · have hx : l[k]? = some l[k] := List.getElem?_eq_getElem hlt
      obtain ⟨c0, c1, c2⟩ := (Hl.out k _ hx).past hb hB
      have hsn := fold_take Tm.inf x _ l k hx
      generalize l[k] = s at *
      generalize hg : (l.take k).foldl Tm.inf x = g at *
      have f0 := hf.at_ 0
      have f1 := hf.at_ 1
      have f2 := hf.at_ 2
      have g0 := hf.open_ 0
      have g1 := hf.open_ 1
      have g2 := hf.open_ 2
      simp only [Tm.cells, List.getElem?_cons_zero, List.getElem?_cons_succ] at f0 f1 f2
      have HH := Lib.hid (And.intro hb (And.intro hr (And.intro hf (And.intro hsn (And.intro hx hg)))))
      have hB2 : b < wr.heap.size := by omega
      clear hb hr hf hsn hx hg
      go_wp2_with fail
      all_goals (go_rounds 3)
      all_goals
        obtain ⟨hb, hr, hf, hsn, hx, hg⟩ := HH.out
        go_roundw
        case rel =>
          refine ⟨k + 1, by go_num, by omega, ?_, ?_, ?_⟩
          · refine Below.alloc ?_ (by first | omega | (simp; omega)) _
            first | with_reducible exact hb | with_reducible exact hb.setCell (by simp) _ | with_reducible exact (hb.setCell (by simp) _).setCell (by simp) _ | with_reducible exact ((hb.setCell (by simp) _).setCell (by simp) _).setCell (by simp) _
          · refine Own.more ?_ _
            first | with_reducible exact hr | with_reducible exact hr.other (by simp) _ | with_reducible exact (hr.other (by simp) _).other (by simp) _ | with_reducible exact ((hr.other (by simp) _).other (by simp) _).other (by simp) _
          · rw [hsn]
            refine Own.more ?_ _
            apply own_of
            · first | with_reducible exact hf | with_reducible exact hf.set_ _ _ | with_reducible exact (hf.set_ _ _).set_ _ _ | with_reducible exact ((hf.set_ _ _).set_ _ _).set_ _ _
            · simp [Tm.cells, Tm.inf, List.set]; omega
        case measure => simp [intOf]; omega
    · have hk2 : k = l.length := by omega
      have f0 := hf.at_ 0
      have f1 := hf.at_ 1
      have f2 := hf.at_ 2
      have g0 := hr.open_ 0
      have g1 := hr.open_ 1
      have g2 := hr.open_ 2
      have e0 := hr.at_ 0
      have e1 := hr.at_ 1
      have e2 := hr.at_ 2
      subst hk2
      rw [List.take_length] at *
      generalize hg : l.foldl Tm.inf x = g at *
      obtain ⟨d0, d1, d2⟩ := hr.stored3 (.int .u64 (g.e : Int)) (.int .u64 (g.a : Int)) (.int .u64 (g.b : Int))
      have H1 := Lib.hid (And.intro hg (And.intro hb (And.intro d0 (And.intro d1 d2))))
      simp only [Tm.cells, List.getElem?_cons_zero, List.getElem?_cons_succ] at f0 f1 f2 e0 e1 e2
      clear hr hf hb d0 d1 d2 hg
      go_wp2_with fail
      obtain ⟨hg, hb, d0, d1, d2⟩ := H1.out
      refine bodyPost_ret (v := g.val) (by simp [results, Tryz.results117, go_sem, d0, d1, d2, Tm.val]) rfl ⟨congrArg (fun g : Tm => Ending.returned g.val) hg.symm, below_set3 hb (Nat.le_refl _) _ _ _⟩

set_option maxRecDepth 100000 in
set_option maxHeartbeats 400000 in
theorem refGlb_nil (A : Option Addr) (c : Nat) (w : World) :
    Calls Tryz.prog 117 #[.slice A 0 c] w fun e w' => e = .returned (Tm.mk 0 0 0).val ∧ Below w.heap.size w w' := by
  unfold Tm.val
  go_enter Tryz.func117, Tryz.ntmps117
  go_wp2_with fail
  refine bodyPost_ret (v := .agg #[.int .u64 0, .int .u64 0, .int .u64 0]) (by simp [results, Tryz.results117, go_sem]) rfl ⟨rfl, (Below.refl _ _).alloc (Nat.le_refl _) _⟩
theorem refGlb_any (A : Option Addr) (c : Nat) (l : List Tm) (w : World) (hl : Times w w.heap.size A l) (hn : l.length ≤ maxLen) :
    Calls Tryz.prog 117 #[.slice A l.length c] w fun e w' => e = .returned (glb l).val ∧ Below w.heap.size w w' := by
  cases l with
  | nil => exact refGlb_nil A c w
  | cons x l =>
    obtain ⟨b, o, rfl, hB, ht⟩ := hl (by simp)
    have := refGlb_from b o c x (x :: l) w (by simpa using ht 0 x rfl) hB (by simp) ht hn
    rwa [glb_all] at this
end Go.Proofs.YtbccdmpnojdldaaGreat
namespace Go.Proofs.YtbccdmpnojdldaaGreat
open Go Go.RowKit
attribute [local go_sem ↓] Go.wp_at_zero Go.wp_at_succ

/-- t advanced to l -/
def adv (t : Tm) (l : List Tm) : Tm := match l with | [] => t | x :: l => l.foldl (fun a y => a.inf (t.sup y)) (t.sup x)
theorem adv_glb (t : Tm) (l : List Tm) (h : 0 < l.length) : adv t l = glb (l.map (t.sup ·)) := by
  cases l with
  | nil => simp at h
  | cons x l => simp [adv, glb, List.foldl_map]
/-- two times laid one behind the other in a block of their own -/
theorem times_two (w : World) (s t : Tm) : Times (w.alloc (.cells #[.int .u64 (s.e : Int), .int .u64 (s.a : Int), .int .u64 (s.b : Int), .int .u64 (t.e : Int), .int .u64 (t.a : Int), .int .u64 (t.b : Int)] 58)) (w.heap.size + 1) (some ⟨w.heap.size, 0, none⟩) [s, t] := by
  intro _
  refine ⟨_, _, rfl, by omega, fun i x hx => ?_⟩
  match i, hx with
  | 0, hx => obtain rfl : s = x := by simpa using hx
             exact ⟨by simp [go_sem], by simp [go_sem], by simp [go_sem]⟩
  | 1, hx => obtain rfl : t = x := by simpa using hx
             exact ⟨by simp [go_sem], by simp [go_sem], by simp [go_sem]⟩
theorem times_two' {w : World} {N : Nat} (s t : Tm) (hN : w.heap.size = N) : Times (w.alloc (.cells #[.int .u64 (s.e : Int), .int .u64 (s.a : Int), .int .u64 (s.b : Int), .int .u64 (t.e : Int), .int .u64 (t.a : Int), .int .u64 (t.b : Int)] 58)) (N + 1) (some ⟨N, 0, none⟩) [s, t] := hN ▸ times_two w s t
theorem fold_take2 {α β : Type} (f : β → α → β) (x : β) (s : α) (l : List α) (k : Nat) (h : l[k]? = some s) : (l.take (k + 1)).foldl f x = f ((l.take k).foldl f x) s := by
  rw [List.take_add_one, h, List.foldl_append]; rfl
theorem own_set3_other {w : World} {g h : Nat} {t : TypeId} {l : List Value} (o : Own w g t l) (hg : h ≠ g) (x y z : Value) : Own (((w.setCell ⟨h, 0, none⟩ x).setCell ⟨h, 1, none⟩ y).setCell ⟨h, 2, none⟩ z) g t l :=
  ((o.other (p := ⟨h, 0, none⟩) hg _).other (p := ⟨h, 1, none⟩) hg _).other (p := ⟨h, 2, none⟩) hg _
theorem own_drew {w : World} {g : Nat} {t : TypeId} {l : List Value} (o : Own w g t l) : Own w.drew g t l := o
theorem times_keep {a b : World} {A : Option Addr} {l : List Tm} (h : Times a a.heap.size A l) (hb : Below a.heap.size a b) : Times b b.heap.size A l := (h.past hb (Nat.le_refl _)).wide hb.size
theorem times_here {W : World} {B C : Nat} {A : Option Addr} {l : List Tm} (h : Times W B A l) (hB : B ≤ C) : Times W C A l := h.wide hB
theorem times_later {W : World} {o : Obj} {B C : Nat} {A : Option Addr} {l : List Tm} (h : Times W B A l) (hB : B ≤ C ∧ B ≤ W.heap.size) : Times (W.alloc o) C A l :=
  (h.past ((Below.refl _ _).alloc (Nat.le_refl _) _) hB.2).wide hB.1
theorem times_one (w : World) (s : Tm) : Times (w.alloc (.cells #[.int .u64 (s.e : Int), .int .u64 (s.a : Int), .int .u64 (s.b : Int)] 58)) (w.heap.size + 1) (some ⟨w.heap.size, 0, none⟩) [s] := by
  intro _
  refine ⟨_, _, rfl, by omega, fun i x hx => ?_⟩
  match i, hx with
  | 0, hx => obtain rfl : s = x := by simpa using hx
             exact ⟨by simp [go_sem], by simp [go_sem], by simp [go_sem]⟩

set_option maxRecDepth 100000 in
set_option maxHeartbeats 1600000 in
theorem advance_any (t : Tm) (A : Option Addr) (c : Nat) (l : List Tm) (w : World) (hl : Times w w.heap.size A l) (hc : l.length ≤ c) (hn : c ≤ maxLen) :
    Calls Tryz.prog 78 #[t.val, .slice A l.length c] w fun e w' => e = .returned (adv t l).val ∧ Below w.heap.size w w' := by
  cases l with
  | nil =>
    unfold Tm.val adv
    go_enter Tryz.func78, Tryz.ntmps78
    go_wp2_with fail
    refine bodyPost_ret (v := .agg #[.int .u64 (t.e : Int), .int .u64 (t.a : Int), .int .u64 (t.b : Int)]) (by simp [results, Tryz.results78, go_sem]) rfl ⟨rfl, ?_⟩
    exact ((Below.refl _ _).alloc (Nat.le_refl _) _).alloc (by simp) _
  | cons x l =>
    obtain ⟨b, o, rfl, hB, hl⟩ := hl (by simp)
    obtain ⟨x0, x1, x2⟩ := hl 0 x rfl
    rw [Nat.zero_mul, Nat.add_zero] at x0 x1 x2
    unfold maxLen at hn
    rw [List.length_cons] at hc ⊢
    have h10 : ((l.length : Int) + 1 == 0) = false := by simp; omega
    have hz : (0 : Int) < (l.length : Int) + 1 := by omega
    have Hl := Lib.hid hl
    clear hl
    have hglb := fun (s t : Tm) A W h => Lib.hid (glb_any A 2 [s, t] W h (by simp) (by unfold maxLen; omega))
    have hlub := fun (s t : Tm) A W h => Lib.hid (lub_any A 2 [s, t] W h (by simp) (by unfold maxLen; omega))
    unfold Tm.val at hlub hglb ⊢
    go_enter Tryz.func78, Tryz.ntmps78
    go_upto_region 3 with fail
    go_cut [5] (fun s5 wx => ∃ G : Nat, s5 = .pointer (some ⟨G, 0, none⟩) ∧ Below w.heap.size w wx ∧ Own wx w.heap.size 58 t.cells ∧ Own wx (w.heap.size + 1) 58 [.int .u64 0, .int .u64 0, .int .u64 0] ∧
        Own wx G 58 (t.sup x).cells ∧ w.heap.size + 1 < G)
    case first =>
      have f : Below w.heap.size w ((w.alloc (.cells #[.int .u64 (t.e : Int), .int .u64 (t.a : Int), .int .u64 (t.b : Int)] 58)).alloc (.cells #[.int .u64 0, .int .u64 0, .int .u64 0] 58)) ∧
          Own ((w.alloc (.cells #[.int .u64 (t.e : Int), .int .u64 (t.a : Int), .int .u64 (t.b : Int)] 58)).alloc (.cells #[.int .u64 0, .int .u64 0, .int .u64 0] 58)) w.heap.size 58 t.cells ∧
          Own ((w.alloc (.cells #[.int .u64 (t.e : Int), .int .u64 (t.a : Int), .int .u64 (t.b : Int)] 58)).alloc (.cells #[.int .u64 0, .int .u64 0, .int .u64 0] 58)) (w.heap.size + 1) 58 [.int .u64 0, .int .u64 0, .int .u64 0] :=
        ⟨((Below.refl _ _).alloc (Nat.le_refl _) _).alloc (by simp) _, by have := (Own.made w 58 t.cells).more (.cells #[.int .u64 0, .int .u64 0, .int .u64 0] 58); simpa [Tm.cells] using this, by
          have := Own.made (w.alloc (.cells #[.int .u64 (t.e : Int), .int .u64 (t.a : Int), .int .u64 (t.b : Int)] 58)) 58 [.int .u64 0, .int .u64 0, .int .u64 0]; simpa using this⟩
      generalize (w.alloc (.cells #[.int .u64 (t.e : Int), .int .u64 (t.a : Int), .int .u64 (t.b : Int)] 58)).alloc (.cells #[.int .u64 0, .int .u64 0, .int .u64 0] 58) = W at f ⊢
      obtain ⟨fb, ft, fr⟩ := f
      replace x0 := (fb.cell (p := ⟨b, o, none⟩) hB).trans x0
      replace x1 := (fb.cell (p := ⟨b, o + 1, none⟩) hB).trans x1
      replace x2 := (fb.cell (p := ⟨b, o + 2, none⟩) hB).trans x2
      have t0 := ft.at_ 0
      have t1 := ft.at_ 1
      have t2 := ft.at_ 2
      simp only [Tm.cells, List.getElem?_cons_zero, List.getElem?_cons_succ] at t0 t1 t2
      have hsz := fr.inside
      have ne1 := World.new_ne W _ x0
      have ne2 := World.new_ne W _ x1
      have ne3 := World.new_ne W _ x2
      have ne4 := World.new_ne W _ t0
      have ne5 := World.new_ne W _ t1
      have ne6 := World.new_ne W _ t2
      have HH := Lib.hid (And.intro fb (And.intro ft fr))
      have hB0 := hB
      have hBW : b < W.heap.size := by omega
      have hNW : w.heap.size < W.heap.size := by omega
      clear fb ft fr
      go_region_held3 (fun w' => w'.cell? ⟨w.heap.size, 0, none⟩ = some (.int .u64 (t.e : Int)) ∧ w'.cell? ⟨w.heap.size, 1, none⟩ = some (.int .u64 (t.a : Int)) ∧ w'.cell? ⟨w.heap.size, 2, none⟩ = some (.int .u64 (t.b : Int)) ∧
          w'.cell? ⟨b, o, none⟩ = some (.int .u64 (x.e : Int)) ∧ w'.cell? ⟨b, o + 1, none⟩ = some (.int .u64 (x.a : Int)) ∧ w'.cell? ⟨b, o + 2, none⟩ = some (.int .u64 (x.b : Int)))
        (first | go_keep | (((try dsimp only); (repeat' apply And.intro)) <;> (refine (Below.cell (w := W) (B := W.heap.size) ?_ (by first | exact hNW | exact hBW)).trans (by assumption); repeat (first | exact Below.refl _ _ | refine Below.drew ?_ | refine Below.alloc ?_ (by first | (simp; done) | (simp; omega) | (have hz := hb.size; simp at hz; simp; omega) | (have hz := hb.size; simp at hz; omega)) _ | refine Below.setCell ?_ (by first | (simp; done) | (simp; omega) | (have hz := hb.size; simp at hz; simp; omega) | (have hz := hb.size; simp at hz; omega)) _ | refine below_then ?_ (by first | (simp; done) | (simp; omega) | (have hz := hb.size; simp at hz; simp; omega) | (have hz := hb.size; simp at hz; omega)) hb))))
        (first | (go_at_call 111; refine (hlub t x _ _ ?_).out.mono ?_; (first | exact times_here (times_two' _ _ (by simp)) (by simp) | exact times_later (times_two' _ _ (by simp)) (by simp)); rintro e w1 ⟨rfl, hb⟩; obtain ⟨hcc, hff⟩ := olds hb))
      all_goals
        go_wp2_with fail
        go_meet
        have h1 : Below W.heap.size W w1 := by
          refine below_then ?_ (by simp) hb
          repeat (first | exact Below.refl _ _ | refine Below.drew ?_ | refine Below.alloc ?_ (by first | (simp; done) | (simp; omega)) _)
        obtain ⟨fb, ft, fr⟩ := HH.out
        have hbW : Below w.heap.size w w1 := fb.trans (h1.mono (by omega))
        have ft' := ft.past h1 hNW
        have fr' := fr.past h1 hsz
        have hz1 := h1.size
      · exact ⟨_, rfl, hbW.alloc hbW.size _, ft'.more _, fr'.more _, Own.made w1 _ (t.sup x).cells, by omega⟩
      · have hg : Own w1 (W.heap.size + 1) 58 [.int .u64 0, .int .u64 0, .int .u64 0] := by
          refine Own.past ?_ hb (by simp)
          have := (Own.made (W.alloc (.cells #[.int .u64 (t.e : Int), .int .u64 (t.a : Int), .int .u64 (t.b : Int), .int .u64 (x.e : Int), .int .u64 (x.a : Int), .int .u64 (x.b : Int)] 58)) 58 [.int .u64 0, .int .u64 0, .int .u64 0])
          simp only [World.size_alloc] at this
          exact this.draws 1
        exact ⟨_, rfl, below_set3 hbW (by omega) _ _ _, own_set3_other ft' (by omega) _ _ _, own_set3_other fr' (by omega) _ _ _, ((hg.set_ 0 _).set_ 1 _).set_ 2 _, by omega⟩
      · have hg : Own w1 W.heap.size 58 [.int .u64 0, .int .u64 0, .int .u64 0] := by
          refine Own.past ?_ hb (by simp; omega)
          exact ((Own.made W 58 [.int .u64 0, .int .u64 0, .int .u64 0]).more _).draws 1
        exact ⟨_, rfl, below_set3 hbW (by omega) _ _ _, own_set3_other ft' (by omega) _ _ _, own_set3_other fr' (by omega) _ _ _, ((hg.set_ 0 _).set_ 1 _).set_ 2 _, by omega⟩
    case rest =>
      obtain ⟨G, rfl, fb, ft, fr, fg, hG⟩ := hcut
      by_cases hc1 : c = 1
      · have hl0 : l = [] := List.eq_nil_of_length_eq_zero (by omega)
        subst hl0 hc1
        have f0 := fg.at_ 0
        have f1 := fg.at_ 1
        have f2 := fg.at_ 2
        have g0 := fr.open_ 0
        have g1 := fr.open_ 1
        have g2 := fr.open_ 2
        have e0 := fr.at_ 0
        have e1 := fr.at_ 1
        have e2 := fr.at_ 2
        generalize hg : t.sup x = g at *
        obtain ⟨d0, d1, d2⟩ := fr.stored3 (.int .u64 (g.e : Int)) (.int .u64 (g.a : Int)) (.int .u64 (g.b : Int))
        have H1 := Lib.hid (And.intro hg (And.intro fb (And.intro d0 (And.intro d1 d2))))
        simp only [Tm.cells, List.getElem?_cons_zero, List.getElem?_cons_succ] at f0 f1 f2 e0 e1 e2
        clear ft fr fg fb d0 d1 d2 hg
        go_wp2_with fail
        go_rounds 1
        obtain ⟨hg, hb, d0, d1, d2⟩ := H1.out
        refine bodyPost_ret (v := g.val) (by simp [results, Tryz.results78, go_sem, d0, d1, d2, Tm.val]) rfl ⟨congrArg (fun g : Tm => Ending.returned g.val) hg.symm, below_set3 hb (by omega) _ _ _⟩
      · have HH := Lib.hid (And.intro fb (And.intro ft (And.intro fr fg)))
        clear fb ft fr fg
        go_wp2_with fail
        go_loopw [21] (fun i wr => ∃ k : Nat, i = .int .i64 (k : Int) ∧ k ≤ l.length ∧ Below w.heap.size w wr ∧ Own wr w.heap.size 58 t.cells ∧ Own wr (w.heap.size + 1) 58 [.int .u64 0, .int .u64 0, .int .u64 0] ∧
            Own wr G 58 ((l.take k).foldl (fun a y => a.inf (t.sup y)) (t.sup x)).cells)
          (fun i _ => l.length - (intOf i).toNat)
        case atStart =>
          obtain ⟨fb, ft, fr, fg⟩ := HH.out
          exact ⟨0, rfl, by omega, fb, ft, fr, fg⟩
        case round =>
          obtain ⟨k, rfl, hk, fb, ft, fr, fg⟩ := hrel
          have hsz := fg.inside
          by_cases hlt : k < l.length
          · have hx : l[k]? = some l[k] := List.getElem?_eq_getElem hlt
            obtain ⟨c0, c1, c2⟩ := (Hl.out (k + 1) l[k] (by rw [List.getElem?_cons_succ]; exact hx)).past fb hB
            rw [show o + (k + 1) * 3 = o + 3 + k * 3 by omega] at c0 c1 c2
            have hsn := fold_take2 (fun a y => Tm.inf a (t.sup y)) (t.sup x) _ l k hx
            generalize l[k] = y at *
            generalize hg : (l.take k).foldl (fun a y => Tm.inf a (t.sup y)) (t.sup x) = g at *
            have t0 := ft.at_ 0
            have t1 := ft.at_ 1
            have t2 := ft.at_ 2
            have f0 := fg.at_ 0
            have f1 := fg.at_ 1
            have f2 := fg.at_ 2
            have g0 := fg.open_ 0
            have g1 := fg.open_ 1
            have g2 := fg.open_ 2
            simp only [Tm.cells, List.getElem?_cons_zero, List.getElem?_cons_succ] at t0 t1 t2 f0 f1 f2
            have HR := Lib.hid (And.intro fb (And.intro ft (And.intro fr (And.intro fg (And.intro hsn (And.intro hx hg))))))
            have hB2 : b < wr.heap.size := by have := fb.size; omega
            have hN2 : w.heap.size < wr.heap.size := by omega
            clear fb ft fr fg hsn hx hg
            go_wp2_with fail
            go_region_with (first | (go_at_call 111; refine (hlub t y _ _ ?_).out.mono ?_; (exact times_here (times_two' _ _ (by simp)) (by simp)); rintro e w1 ⟨rfl, hb⟩; have hz1 := hb.size; simp only [World.size_alloc, World.size_drew] at hz1; obtain ⟨hcc, hff⟩ := olds hb; have hf1 : Own w1 G 58 g.cells := (by refine Own.past ?_ hb (by simp; omega); repeat (first | exact HR.out.2.2.2.1 | refine own_drew ?_ | refine Own.more ?_ _)); have r0 := hf1.at_ 0; have r1 := hf1.at_ 1; have r2 := hf1.at_ 2; simp only [Tm.cells, List.getElem?_cons_zero, List.getElem?_cons_succ] at r0 r1 r2; have hf1 := Lib.hid hf1) | (go_at_call 112; refine (hglb g (lub [t, y]) _ _ ?_).out.mono ?_; (exact times_here (times_two' _ _ (by simp)) (by simp)); rintro e w2 ⟨rfl, hb2⟩; have hf2 : Own w2 G 58 g.cells := (by refine Own.past ?_ hb2 (by simp; omega); repeat (first | exact hf1.out | refine own_drew ?_ | refine Own.more ?_ _)); have s0 := hf2.open_ 0; have s1 := hf2.open_ 1; have s2 := hf2.open_ 2; have r0 := hf2.at_ 0; have r1 := hf2.at_ 1; have r2 := hf2.at_ 2; simp only [Tm.cells, List.getElem?_cons_zero, List.getElem?_cons_succ] at r0 r1 r2; have hf2 := Lib.hid hf2))
            all_goals
              go_wp2_with fail
              obtain ⟨fb, ft, fr, fg, hsn, hx, hg⟩ := HR.out
              have h1 : Below wr.heap.size wr w1 := by
                refine below_then ?_ (by simp) hb
                repeat (first | exact Below.refl _ _ | refine Below.drew ?_ | refine Below.alloc ?_ (by first | (simp; done) | (simp; omega)) _)
              have h2 : Below wr.heap.size wr w2 := by
                refine below_then ?_ (by simp) hb2
                repeat (first | exact h1 | refine Below.drew ?_ | refine Below.alloc ?_ (by first | exact h1.size | (simp; done) | (simp; omega)) _)
              go_roundw
              case rel => exact ⟨k + 1, by go_num, by omega, below_set3 (fb.trans (h2.mono fb.size)) (by omega) _ _ _, own_set3_other (ft.past h2 (by omega)) (by omega) _ _ _, own_set3_other (fr.past h2 (by omega)) (by omega) _ _ _, by rw [hsn]; exact ((hf2.out.set_ 0 _).set_ 1 _).set_ 2 _⟩
              case measure => simp [intOf]; omega
          · have hk2 : k = l.length := by omega
            have f0 := fg.at_ 0
            have f1 := fg.at_ 1
            have f2 := fg.at_ 2
            have g0 := fr.open_ 0
            have g1 := fr.open_ 1
            have g2 := fr.open_ 2
            have e0 := fr.at_ 0
            have e1 := fr.at_ 1
            have e2 := fr.at_ 2
            subst hk2
            rw [List.take_length] at *
            generalize hg : l.foldl (fun a y => Tm.inf a (t.sup y)) (t.sup x) = g at *
            obtain ⟨d0, d1, d2⟩ := fr.stored3 (.int .u64 (g.e : Int)) (.int .u64 (g.a : Int)) (.int .u64 (g.b : Int))
            have H1 := Lib.hid (And.intro hg (And.intro fb (And.intro d0 (And.intro d1 d2))))
            simp only [Tm.cells, List.getElem?_cons_zero, List.getElem?_cons_succ] at f0 f1 f2 e0 e1 e2
            clear ft fr fg fb d0 d1 d2 hg
            go_wp2_with fail
            obtain ⟨hg, hb, d0, d1, d2⟩ := H1.out
            refine bodyPost_ret (v := g.val) (by simp [results, Tryz.results78, go_sem, d0, d1, d2, Tm.val]) rfl ⟨congrArg (fun g : Tm => Ending.returned g.val) hg.symm, below_set3 hb (by omega) _ _ _⟩
end Go.Proofs.YtbccdmpnojdldaaGreat
namespace Go.Proofs.YtbccdmpnojdldaaGreat
open Go Go.RowKit

theorem infoTm : (Tryz.prog.info? 58).map (fun i => (i.zero, i.size, i.bytes)) = some (some (Tm.mk 0 0 0).val, 3, 24) := by kernel_rfl
theorem flat_at : ∀ (l : List Tm) (i : Nat) (t : Tm), l[i]? = some t → (l.flatMap Tm.cells)[i * 3]? = some (.int .u64 (t.e : Int)) ∧ (l.flatMap Tm.cells)[i * 3 + 1]? = some (.int .u64 (t.a : Int)) ∧ (l.flatMap Tm.cells)[i * 3 + 2]? = some (.int .u64 (t.b : Int))
  | [], i, t, h => by simp at h
  | x :: l, 0, t, h => by
    obtain rfl : x = t := by simpa using h
    simp [Tm.cells]
  | x :: l, i + 1, t, h => by
    have ih := flat_at l i t (by simpa using h)
    simp only [List.flatMap_cons, Tm.cells, show (i + 1) * 3 = i * 3 + 3 by omega, show i * 3 + 3 + 1 = i * 3 + 1 + 3 by omega, show i * 3 + 3 + 2 = i * 3 + 2 + 3 by omega]
    simpa using ih
theorem flat_len (l : List Tm) : (l.flatMap Tm.cells).length = l.length * 3 := by
  induction l with
  | nil => rfl
  | cons x l ih => rw [List.flatMap_cons, List.length_append, ih, List.length_cons]; simp [Tm.cells]; omega
theorem flatT_snoc (l : List Tm) (t : Tm) : l.flatMap Tm.cells ++ #[Value.int .u64 (t.e : Int), .int .u64 (t.a : Int), .int .u64 (t.b : Int)].toList = (l ++ [t]).flatMap Tm.cells := by
  simp [Tm.cells]
theorem times_of_own {w : World} {base : Nat} {v : Value} {l : List Tm} {n : Nat} (hn : n = l.length) (h : w.ownsRow base 58 3 v n (l.flatMap Tm.cells)) :
    ∃ A c, v = .slice A l.length c ∧ l.length ≤ c ∧ c ≤ maxLen ∧ Times w w.heap.size A l := by
  subst hn
  rcases h.2 with ⟨rfl, h0⟩ | ⟨g, cap, cur, rfl, hb, hg, h1, h2, h3, h4⟩
  · exact ⟨none, 0, by rw [h0], by omega, by omega, fun h => by omega⟩
  · refine ⟨_, cap, rfl, h1, h2, fun _ => ⟨g, 0, rfl, (Array.getElem?_eq_some_iff.1 hg).1, fun i t hi => ?_⟩⟩
    have hil : i < l.length := (List.getElem?_eq_some_iff.1 hi).1
    obtain ⟨a0, a1, a2⟩ := flat_at l i t hi
    have hc : ∀ j, j < l.length * 3 → w.cell? ⟨g, 0 + j, none⟩ = (l.flatMap Tm.cells)[j]? := fun j hj => by rw [Nat.zero_add]; exact h.cellAt j hj
    exact ⟨(hc _ (by omega)).trans a0, by rw [Nat.add_assoc]; exact (hc _ (by omega)).trans a1, by rw [Nat.add_assoc]; exact (hc _ (by omega)).trans a2⟩
end Go.Proofs.YtbccdmpnojdldaaGreat
namespace Go.Proofs.YtbccdmpnojdldaaGreat
open Go Go.RowKit

theorem tcells_one (t : Tm) : ∀ v ∈ t.cells, v.oneCell' = true := by
  intro v hv
  simp only [Tm.cells, List.mem_cons, List.not_mem_nil, or_false] at hv
  rcases hv with rfl | rfl | rfl <;> rfl
theorem lies_times {w : World} {B : Nat} {A : Option Addr} {l : List Tm} (h : Times w B A l) : Lies 3 Tm.cells w B A l := fun hp => by
  obtain ⟨b, o, e, hb, hc⟩ := h hp
  refine ⟨b, o, e, hb, fun i t hi j u hj => ?_⟩
  obtain ⟨a0, a1, a2⟩ := hc i t hi
  match j, hj with
  | 0, hj => rw [← hj]; exact a0
  | 1, hj => rw [← hj]; exact a1
  | 2, hj => rw [← hj]; exact a2
theorem times_lies {w : World} {B : Nat} {A : Option Addr} {l : List Tm} (h : Lies 3 Tm.cells w B A l) : Times w B A l := fun hp => by
  obtain ⟨b, o, e, hb, hc⟩ := h hp
  exact ⟨b, o, e, hb, fun i t hi => ⟨hc i t hi 0 _ rfl, hc i t hi 1 _ rfl, hc i t hi 2 _ rfl⟩⟩
/-- a block known whole reads as its list -/
theorem lies_owned {α : Type} {size : Nat} {cells : α → List Value} {w : World} {g : Nat} {t : TypeId} {l : List α} (hcl : ∀ x, (cells x).length = size) (h : Own w g t (l.flatMap cells)) : Lies size cells w w.heap.size (some ⟨g, 0, none⟩) l := fun _ =>
  ⟨g, 0, rfl, h.inside, fun i x hi j u hj => by rw [Nat.zero_add, h.at_]; exact flat_of hcl l i j x u hi hj⟩

set_option maxRecDepth 100000 in
set_option maxHeartbeats 3200000 in
theorem listU_any (A : Option Addr) (c : Nat) (l : List Up) (w : World) (hl : Lies 6 Up.cells w w.heap.size A l) (hn : l.length * 80 ≤ 140737488355328) :
    Calls Tryz.prog 77 #[.slice A l.length c] w fun x w' => ∃ A', x = .returned (.slice A' l.length l.length) ∧ (l = [] → A' = none ∧ w' = w) ∧ (0 < l.length → A' = some ⟨w.heap.size, 0, none⟩ ∧ Own w' w.heap.size 60 (l.flatMap Up.cells)) ∧ Below w.heap.size w w' := by
  obtain ⟨i0, hi, hz0, hz1, hz2⟩ := info_parts infoUp
  have hU := Tryz.underlying24
  have hsz1 : (Tryz.prog.info? 60).map (·.size) = some 6 := by rw [hi]; simp [hz1]
  cases l with
  | nil =>
    clear hl hn hi hz0 hz1 hz2 hU hsz1
    go_enter Tryz.func77, Tryz.ntmps77
    go_wp2_with fail
    go_ret
    exact ⟨none, rfl, fun _ => ⟨rfl, rfl⟩, fun h => absurd h (by simp), Below.refl _ _⟩
  | cons t l =>
    obtain ⟨b, o, rfl, hB, hc⟩ := hl (by simp)
    obtain ⟨m, hm⟩ : ∃ m, m = t :: l := ⟨_, rfl⟩
    have hpos : 0 < m.length := by rw [hm]; simp
    have hne : m ≠ [] := by rw [hm]; simp
    rw [← hm] at hc hn ⊢
    have t1 : ((m.length : Int) == 0) = false := beq_eq_false_iff_ne.2 (by omega)
    have HC := Lib.hid hc
    have HNE := Lib.hid hne
    clear hc hm hl hne
    go_enter Tryz.func77, Tryz.ntmps77
    go_wp2_with (refine wpList_make_full _ rfl (.tmp 8) (.tmp 8) 24 rfl w.heap.size 60 i0 _ 6 hU hi hz0 hz1 .i64 .i64 _ _ m.length rfl rfl rfl rfl ?c1 ?c2 ?c3 ?_)
    case c1 => rw [hz2]; omega
    case c2 => unfold maxLen; omega
    case c3 => exact Nat.le_refl _
    intro w1 ho1 hg1
    obtain ⟨cur, ho1⟩ : ∃ cur, w1.ownsRow w.heap.size 60 6 (.slice (some ⟨w.heap.size, 0, none⟩) m.length m.length) m.length cur := ⟨_, ho1⟩
    have hm1 := own_made ho1
    have hb1 : Below w.heap.size w w1 := (Below.refl _ _).grown hg1 (Nat.le_refl _) (fun k h => by cases h)
    have hlen1 : cur.length = m.length * 6 := ho1.1
    have hcl : (m.flatMap Up.cells).length = m.length * 6 := flat_size (size := 6) (cells := Up.cells) (fun _ => rfl) m
    have hsrc : ∀ j v, (m.flatMap Up.cells)[j]? = some v → w1.cell? ((⟨b, o, none⟩ : Addr).add j) = some v := fun j v hv => by
      obtain ⟨i, r, x, rfl, hx, hr⟩ := flat_back (size := 6) (cells := Up.cells) (by decide) (fun _ => rfl) m j v hv
      have ea : (⟨b, o, none⟩ : Addr).add (i * 6 + r) = ⟨b, o + i * 6 + r, none⟩ := by unfold Addr.add; split <;> simp_all <;> omega
      rw [ea, hb1.cell (p := ⟨b, o + i * 6 + r, none⟩) hB]
      exact HC.out i x hx r v hr
    have hrun := fun ty => run_copy_all (P := Tryz.prog) w1 24 24 ty 60 w.heap.size m.length m.length c 6 ⟨b, o, none⟩ cur (m.flatMap Up.cells) 60 hU hsz1 hm1 hcl hsrc (by rw [hcl, hlen1]) (fun v hv => by
      obtain ⟨x, _, hx⟩ := List.mem_flatMap.1 hv
      exact ucells_one x v hx)
    have ho2 : Own (w1.setRow w.heap.size (m.flatMap Up.cells).toArray) w.heap.size 60 (m.flatMap Up.cells) := own_setRow hm1
    have hb2 : Below w.heap.size w (w1.setRow w.heap.size (m.flatMap Up.cells).toArray) := below_setRow hb1 (Nat.le_refl _) _
    have HR := Lib.hid hrun
    obtain ⟨w2, hw2⟩ : ∃ w2, w2 = w1.setRow w.heap.size (m.flatMap Up.cells).toArray := ⟨_, rfl⟩
    rw [← hw2] at HR ho2 hb2
    have H2 := Lib.hid (And.intro ho2 hb2)
    clear hw2 hrun ho2 hb2 hsrc hcl hm1 hb1 hlen1 ho1 hg1 hU hsz1 hi hz0 hz1 hz2
    go_wp2_with (refine Lib.wpList_copy_run _ rfl _ _ 24 24 rfl _ _ rfl rfl (HR.out _) ?_)
    go_wp2_with fail
    go_ret
    exact ⟨_, rfl, fun h => absurd h HNE.out, fun _ => ⟨rfl, H2.out.1⟩, H2.out.2⟩

set_option maxRecDepth 100000 in
set_option maxHeartbeats 3200000 in
theorem listT_any (A : Option Addr) (c : Nat) (l : List Tm) (w : World) (hl : Lies 3 Tm.cells w w.heap.size A l) (hn : l.length * 24 ≤ 140737488355328) :
    Calls Tryz.prog 37 #[.slice A l.length c] w fun x w' => ∃ A', x = .returned (.slice A' l.length l.length) ∧ (l = [] → A' = none ∧ w' = w) ∧ (0 < l.length → A' = some ⟨w.heap.size, 0, none⟩ ∧ Own w' w.heap.size 58 (l.flatMap Tm.cells)) ∧ Below w.heap.size w w' := by
  obtain ⟨i0, hi, hz0, hz1, hz2⟩ := info_parts infoTm
  have hU := Tryz.underlying22
  have hsz1 : (Tryz.prog.info? 58).map (·.size) = some 3 := by rw [hi]; simp [hz1]
  cases l with
  | nil =>
    clear hl hn hi hz0 hz1 hz2 hU hsz1
    go_enter Tryz.func37, Tryz.ntmps37
    go_wp2_with fail
    go_ret
    exact ⟨none, rfl, fun _ => ⟨rfl, rfl⟩, fun h => absurd h (by simp), Below.refl _ _⟩
  | cons t l =>
    obtain ⟨b, o, rfl, hB, hc⟩ := hl (by simp)
    obtain ⟨m, hm⟩ : ∃ m, m = t :: l := ⟨_, rfl⟩
    have hpos : 0 < m.length := by rw [hm]; simp
    have hne : m ≠ [] := by rw [hm]; simp
    rw [← hm] at hc hn ⊢
    have t1 : ((m.length : Int) == 0) = false := beq_eq_false_iff_ne.2 (by omega)
    have HC := Lib.hid hc
    have HNE := Lib.hid hne
    clear hc hm hl hne
    go_enter Tryz.func37, Tryz.ntmps37
    go_wp2_with (refine wpList_make_full _ rfl (.tmp 8) (.tmp 8) 22 rfl w.heap.size 58 i0 _ 3 hU hi hz0 hz1 .i64 .i64 _ _ m.length rfl rfl rfl rfl ?c1 ?c2 ?c3 ?_)
    case c1 => rw [hz2]; omega
    case c2 => unfold maxLen; omega
    case c3 => exact Nat.le_refl _
    intro w1 ho1 hg1
    obtain ⟨cur, ho1⟩ : ∃ cur, w1.ownsRow w.heap.size 58 3 (.slice (some ⟨w.heap.size, 0, none⟩) m.length m.length) m.length cur := ⟨_, ho1⟩
    have hm1 := own_made ho1
    have hb1 : Below w.heap.size w w1 := (Below.refl _ _).grown hg1 (Nat.le_refl _) (fun k h => by cases h)
    have hlen1 : cur.length = m.length * 3 := ho1.1
    have hcl : (m.flatMap Tm.cells).length = m.length * 3 := flat_size (size := 3) (cells := Tm.cells) (fun _ => rfl) m
    have hsrc : ∀ j v, (m.flatMap Tm.cells)[j]? = some v → w1.cell? ((⟨b, o, none⟩ : Addr).add j) = some v := fun j v hv => by
      obtain ⟨i, r, x, rfl, hx, hr⟩ := flat_back (size := 3) (cells := Tm.cells) (by decide) (fun _ => rfl) m j v hv
      have ea : (⟨b, o, none⟩ : Addr).add (i * 3 + r) = ⟨b, o + i * 3 + r, none⟩ := by unfold Addr.add; split <;> simp_all <;> omega
      rw [ea, hb1.cell (p := ⟨b, o + i * 3 + r, none⟩) hB]
      exact HC.out i x hx r v hr
    have hrun := fun ty => run_copy_all (P := Tryz.prog) w1 22 22 ty 58 w.heap.size m.length m.length c 3 ⟨b, o, none⟩ cur (m.flatMap Tm.cells) 58 hU hsz1 hm1 hcl hsrc (by rw [hcl, hlen1]) (fun v hv => by
      obtain ⟨x, _, hx⟩ := List.mem_flatMap.1 hv
      exact tcells_one x v hx)
    have ho2 : Own (w1.setRow w.heap.size (m.flatMap Tm.cells).toArray) w.heap.size 58 (m.flatMap Tm.cells) := own_setRow hm1
    have hb2 : Below w.heap.size w (w1.setRow w.heap.size (m.flatMap Tm.cells).toArray) := below_setRow hb1 (Nat.le_refl _) _
    have HR := Lib.hid hrun
    obtain ⟨w2, hw2⟩ : ∃ w2, w2 = w1.setRow w.heap.size (m.flatMap Tm.cells).toArray := ⟨_, rfl⟩
    rw [← hw2] at HR ho2 hb2
    have H2 := Lib.hid (And.intro ho2 hb2)
    clear hw2 hrun ho2 hb2 hsrc hcl hm1 hb1 hlen1 ho1 hg1 hU hsz1 hi hz0 hz1 hz2
    go_wp2_with (refine Lib.wpList_copy_run _ rfl _ _ 22 22 rfl _ _ rfl rfl (HR.out _) ?_)
    go_wp2_with fail
    go_ret
    exact ⟨_, rfl, fun h => absurd h HNE.out, fun _ => ⟨rfl, H2.out.1⟩, H2.out.2⟩
/-- a copy of times reads as them -/
theorem listT_times (A : Option Addr) (c : Nat) (l : List Tm) (w : World) (hl : Times w w.heap.size A l) (hn : l.length * 24 ≤ 140737488355328) :
    Calls Tryz.prog 37 #[.slice A l.length c] w fun x w' => ∃ A', x = .returned (.slice A' l.length l.length) ∧ Times w' w'.heap.size A' l ∧ (∀ b o, A' = some ⟨b, o, none⟩ → w.heap.size ≤ b ∧ b < w'.heap.size) ∧ Below w.heap.size w w' :=
  (listT_any A c l w (lies_times hl) hn).mono fun x w' ⟨A', h1, h2, h3, h4⟩ => by
    refine ⟨A', h1, ?_, ?_, h4⟩
    · intro hp
      obtain ⟨rfl, ho⟩ := h3 hp
      exact times_lies (lies_owned (fun _ => rfl) ho) hp
    · intro b o e
      by_cases hp : 0 < l.length
      · obtain ⟨rfl, ho⟩ := h3 hp
        simp only [Option.some.injEq, Addr.mk.injEq, and_true] at e
        have := ho.inside
        omega
      · obtain ⟨rfl, _⟩ := h2 (List.eq_nil_of_length_eq_zero (by omega))
        cases e
end Go.Proofs.YtbccdmpnojdldaaGreat
namespace Go.Proofs.YtbccdmpnojdldaaGreat
open Go Go.RowKit

/-- the cells of a list that lies, one by one -/
theorem lies_cells {α : Type} {size : Nat} {cells : α → List Value} {w : World} {B b o : Nat} {l : List α} (hpos : 0 < size) (hcl : ∀ x, (cells x).length = size) (h : Lies size cells w B (some ⟨b, o, none⟩) l) : ∀ j u, (l.flatMap cells)[j]? = some u → w.cell? ((⟨b, o, none⟩ : Addr).add j) = some u := fun j u hu => by
  obtain ⟨i, r, y, rfl, hi, hr⟩ := flat_back hpos hcl l j u hu
  obtain ⟨b', o', e, _, hc⟩ := h (by have := (List.getElem?_eq_some_iff.1 hi).1; omega)
  simp only [Option.some.injEq, Addr.mk.injEq, and_true] at e
  obtain ⟨rfl, rfl⟩ := e
  have ea : (⟨b, o, none⟩ : Addr).add (i * size + r) = ⟨b, o + i * size + r, none⟩ := by unfold Addr.add; split <;> simp_all <;> omega
  rw [ea]
  exact hc i y hi r u hr
/-- the second type is asked for its kind alone -/
theorem append_types {P : Program} (w : World) {t tx ty e e' : TypeId} {i : TypeInfo} (ht : P.underlying t = some (.slice e)) (htx : P.underlying tx = some (.slice e')) (hi : P.info? e = some i) (ad : Option Addr) (n cap : Nat) (x : Value) : (Builtin.append_ #[t, tx] ty #[.slice ad n cap, x]).run P w = (Builtin.append_ #[t, t] ty #[.slice ad n cap, x]).run P w := by
  simp [Builtin.append_, run_underlying ht, run_underlying htx, sizeOf, typeInfo, hi]
/-- 'append(v, s...)' where there is room -/
theorem wpList_append_room {P : Program} (w : World) {ops : Array Oper} {rest : List Oper} {o : Oper} {a : Act} {Q : Exit → Act → World → Prop} (hgd : o.guard = none) (s x : Operand) (t tx e e' : TypeId)
    (ho : o.op = .call { callee := .builtin .append, args := #[s, x], argTypes := #[t, tx] }) (i0 : TypeInfo) (size : Nat) (ht : P.underlying t = some (.slice e)) (htx : P.underlying tx = some (.slice e')) (hi : P.info? e = some i0) (hsz : i0.size = size)
    (base g n cap m c b off : Nat) (xs cs : List Value) (hown : w.ownsRow base e size (.slice (some ⟨g, 0, none⟩) n cap) n xs) (hs : a.eval s = .slice (some ⟨g, 0, none⟩) n cap) (hx : a.eval x = .slice (some ⟨b, off, none⟩) m c) (hcs : cs.length = m * size) (hroom : n + m ≤ cap)
    (hsrc : ∀ j v, cs[j]? = some v → w.cell? ((⟨b, off, none⟩ : Addr).add j) = some v) (h1 : ∀ v ∈ cs, v.oneCell' = true)
    (h : ∀ w', w'.ownsRow base e size (.slice (some ⟨g, 0, none⟩) (n + m) cap) (n + m) (xs ++ cs) → w.grownBy w' (some g) → wpList P ops Q rest (a.put o.dst (.slice (some ⟨g, 0, none⟩) (n + m) cap)) w') :
    wpList P ops Q (o :: rest) a w := by
  obtain ⟨X, hrun, hB, hG⟩ := run_append_own_spare (P := P) w base t o.type e i0 size ht hi hsz g n cap xs hown ⟨b, off, none⟩ m c cs hcs hsrc h1 hroom
  refine wpList_plain hgd fun K hK => ?_
  unfold Oper.wp execOp
  simp only [ho, resolve, invoke, builtin, Sem.run_bind, Sem.run_pure, Result.andThen_ok, List.map_toArray, List.map_cons, List.map_nil, hs, hx, append_types w ht htx hi, hrun]
  exact hK _ _ (h X hB hG)
/-- 'append(v, s...)', v without room and not the call's own: a new row -/
theorem wpList_append_over {P : Program} (w : World) {ops : Array Oper} {rest : List Oper} {o : Oper} {a : Act} {Q : Exit → Act → World → Prop} (hgd : o.guard = none) (s x : Operand) (t e : TypeId)
    (ho : o.op = .call { callee := .builtin .append, args := #[s, x], argTypes := #[t, t] }) (i0 : TypeInfo) (z : Value) (size bytes : Nat) (ht : P.underlying t = some (.slice e)) (hi : P.info? e = some i0) (hz0 : i0.zero = some z) (hsz : i0.size = size) (hby : i0.bytes = bytes) (hzs : z.cells.size = size) (hpos : 0 < size)
    (b off n cap b' off' m c : Nat) (xs cs : List Value) (hs : a.eval s = .slice (some ⟨b, off, none⟩) n cap) (hx : a.eval x = .slice (some ⟨b', off', none⟩) m c) (hxl : xs.length = n * size) (hxs : ∀ j v, xs[j]? = some v → w.cell? ((⟨b, off, none⟩ : Addr).add j) = some v)
    (hcs : cs.length = m * size) (hsrc : ∀ j v, cs[j]? = some v → w.cell? ((⟨b', off', none⟩ : Addr).add j) = some v) (hroom : cap < n + m) (h63 : n + m ≤ maxLen) (hbytes : (n + m) * bytes ≤ 140737488355328)
    (h : ∀ v' w', w'.ownsRow w.heap.size e size v' (n + m) (xs ++ cs) → Below w.heap.size w w' → wpList P ops Q rest (a.put o.dst v') w') :
    wpList P ops Q (o :: rest) a w := by
  obtain ⟨v', X, hrun, hB, hG⟩ := run_append_arg_grows (P := P) w t o.type e i0 z size bytes ht hi hz0 hsz hby hzs hpos ⟨b, off, none⟩ n cap xs hxl hxs ⟨b', off', none⟩ m c cs hcs hsrc hroom h63 hbytes
  refine wpList_plain hgd fun K hK => ?_
  unfold Oper.wp execOp
  simp only [ho, resolve, invoke, builtin, Sem.run_bind, Sem.run_pure, Result.andThen_ok, List.map_toArray, List.map_cons, List.map_nil, hs, hx, hrun]
  exact hK _ _ (h v' X hB ((Below.refl _ _).grown hG (Nat.le_refl _) (fun k h => by cases h)))
end Go.Proofs.YtbccdmpnojdldaaGreat
namespace Go.Proofs.YtbccdmpnojdldaaGreat
open Go Go.RowKit Go.Sort Go.Lib

theorem ltT (x y : Tm) : ltOf Tm.cmp x y = decide (x.e < y.e ∨ x.e = y.e ∧ (x.a < y.a ∨ x.a = y.a ∧ x.b < y.b)) := by
  unfold ltOf Tm.cmp Tm.cmpN
  rw [decide_eq_decide]
  repeat' split
  all_goals omega
theorem swoT : SWO (ltOf Tm.cmp) where
  irrefl x := by rw [ltT]; simp
  trans x y z h1 h2 := by rw [ltT] at *; simp at *; omega
  ntrans x y z h1 h2 := by rw [ltT] at *; simp at *; omega
theorem totT (x y : Tm) (h1 : ltOf Tm.cmp x y = false) (h2 : ltOf Tm.cmp y x = false) : x = y := by
  rw [ltT] at *
  simp at *
  obtain ⟨a, b, c⟩ := x
  obtain ⟨d, e, f⟩ := y
  simp at *
  omega
/-- sorted in the line of times -/
def sortT (l : List Tm) : List Tm := l.mergeSort fun x y => !(ltOf Tm.cmp) y x
theorem sortT_len (l : List Tm) : (sortT l).length = l.length := List.length_mergeSort _
theorem mem_sortT {l : List Tm} {t : Tm} : t ∈ sortT l ↔ t ∈ l := List.mem_mergeSort
theorem sortT_sorted (l : List Tm) : (sortT l).Pairwise fun x y => ltOf Tm.cmp y x = false := by
  have h := List.pairwise_mergeSort (le := fun x y => !(ltOf Tm.cmp) y x) (fun a b c h1 h2 => by
    simp only [Bool.not_eq_true'] at *; exact swoT.ntrans _ _ _ h2 h1) (fun a b => by
    simp only [Bool.or_eq_true, Bool.not_eq_true', ltT]; simp; omega) l
  exact h.imp fun h => by simpa using h
end Go.Proofs.YtbccdmpnojdldaaGreat
namespace Go.Proofs.YtbccdmpnojdldaaGreat
open Go Go.RowKit

set_option maxRecDepth 100000 in
set_option maxHeartbeats 800000 in
theorem refAhead_any (s t : Tm) (w : World) :
    Calls Tryz.prog 89 #[s.val, t.val] w fun e w' => e = .returned (.bool (s.le t)) ∧ Below w.heap.size w w' := by
  obtain ⟨a, b, c⟩ := s
  obtain ⟨x, y, z⟩ := t
  unfold Tm.val Tm.le
  dsimp only
  have i0 : ∀ w, (Instr.index 56 (.agg #[.int .u64 (b : Int), .int .u64 (c : Int)]) (.int .i64 0)).run Tryz.prog w = .ok (.int .u64 (b : Int)) w := fun _ => by kernel_rfl
  have i1 : ∀ w, (Instr.index 56 (.agg #[.int .u64 (b : Int), .int .u64 (c : Int)]) (.int .i64 1)).run Tryz.prog w = .ok (.int .u64 (c : Int)) w := fun _ => by kernel_rfl
  have hB := fun (o1 o2 : Obj) => (((Below.refl w.heap.size w).alloc (Nat.le_refl _) o1).alloc (by simp) o2)
  have HB := Lib.hid hB
  clear hB
  go_enter Tryz.func89, Tryz.ntmps89
  go_wp2_with fail
  go_rounds 3
  all_goals
    go_ret
    refine ⟨ret_bool ?_, HB.out _ _⟩
    rw [Bool.eq_iff_iff]; simp only [Bool.and_eq_true, decide_eq_true_eq, Bool.false_eq_true, true_iff, false_iff, iff_true, iff_false]; omega
end Go.Proofs.YtbccdmpnojdldaaGreat
namespace Go.Proofs.YtbccdmpnojdldaaGreat
open Go Go.RowKit

/-- one of l is ahead of t -/
def beyond (l : List Tm) (t : Tm) : Bool := l.any (·.le t)
theorem beyond_snoc {l : List Tm} {t s : Tm} {k : Nat} (h : l[k]? = some s) : beyond (l.take (k + 1)) t = (beyond (l.take k) t || s.le t) := by
  unfold beyond
  rw [List.take_add_one, h]
  simp
theorem beyond_hit {l : List Tm} {t s : Tm} {k : Nat} (h : l[k]? = some s) (hs : s.le t = true) : beyond l t = true := by
  unfold beyond
  rw [List.any_eq_true]
  exact ⟨s, List.mem_of_getElem? h, hs⟩

set_option maxRecDepth 100000 in
set_option maxHeartbeats 800000 in
theorem beyond_any (A : Option Addr) (c : Nat) (l : List Tm) (t : Tm) (w : World) (hl : Times w w.heap.size A l) (hn : l.length ≤ maxLen) :
    Calls Tryz.prog 49 #[.slice A l.length c, t.val] w fun e w' => e = .returned (.bool (beyond l t)) ∧ Below w.heap.size w w' := by
  unfold maxLen at hn
  have hcall := fun (s : Tm) (W : World) => Lib.hid (ahead_any s t W)
  unfold Tm.val at hcall ⊢
  have Hl := Lib.hid hl
  clear hl
  go_enter Tryz.func49, Tryz.ntmps49
  go_wp2_with fail
  go_loopw [9] (fun i wr => ∃ k : Nat, i = .int .i64 (k : Int) ∧ k ≤ l.length ∧ beyond (l.take k) t = false ∧ Below w.heap.size w wr ∧ w.heap.size < wr.heap.size ∧ TmAt wr w.heap.size 0 t)
    (fun i _ => l.length - (intOf i).toNat)
  case atStart =>
    exact ⟨0, rfl, by omega, rfl, (Below.refl _ _).alloc (Nat.le_refl _) _, by simp, by simp [TmAt, go_sem]⟩
  case round =>
    obtain ⟨k, rfl, hk, hno, hb, hs, ht⟩ := hrel
    obtain ⟨t0, t1, t2⟩ := ht
    by_cases hlt : k < l.length
    · have hx : l[k]? = some l[k] := List.getElem?_eq_getElem hlt
      obtain ⟨b, o, rfl, hB, hc⟩ := Hl.out (by omega)
      obtain ⟨c0, c1, c2⟩ := (hc k _ hx).past hb hB
      have hsn := beyond_snoc (t := t) hx
      have hhit := fun h => beyond_hit (t := t) hx h
      generalize l[k] = s at *
      have hbs : b < w.heap.size := hB
      have HH := Lib.hid (And.intro hno (And.intro hsn (And.intro hhit (And.intro hx (And.intro hb (And.intro t0 (And.intro t1 t2)))))))
      clear hno hsn hhit hx hc hB hb
      by_cases hle : s.le t = true
      · have hcall := fun W => hcall s W
        simp only [hle] at hcall
        have HL := Lib.hid hle
        clear hle
        go_wp2_with fail
        refine (hcall _).out.mono ?_
        rintro e w1 ⟨rfl, h1⟩
        go_wp2_with fail
        go_ret
        obtain ⟨hno, hsn, hhit, hx, hb, t0, t1, t2⟩ := HH.out
        exact ⟨ret_bool (hhit HL.out).symm, hb.trans (((Below.refl _ _).alloc (by omega) _).trans (h1.mono (by simp; omega)))⟩
      · have hle : s.le t = false := by simpa using hle
        have hcall := fun W => hcall s W
        simp only [hle] at hcall
        have HL := Lib.hid hle
        clear hle
        go_wp2_with fail
        refine (hcall _).out.mono ?_
        rintro e w1 ⟨rfl, h1⟩
        go_wp2_with fail
        obtain ⟨hno, hsn, hhit, hx, hb, t0, t1, t2⟩ := HH.out
        have h2 : Below w.heap.size w w1 := hb.trans (((Below.refl _ _).alloc (by omega) _).trans (h1.mono (by simp; omega)))
        have h3 : Below wr.heap.size wr w1 := ((Below.refl _ _).alloc (Nat.le_refl _) _).trans (h1.mono (by simp))
        go_roundw
        case rel => exact ⟨k + 1, by go_num, by omega, by rw [hsn, hno, HL.out]; rfl, h2, by have := h3.size; omega, (TmAt.past ⟨t0, t1, t2⟩ h3 hs)⟩
        case measure => simp [intOf]; omega
    · have hk2 : k = l.length := by omega
      have HH := Lib.hid (And.intro hno (And.intro hb hk2))
      clear hno hb hk2
      go_wp2_with fail
      go_ret
      obtain ⟨hno, hb, rfl⟩ := HH.out
      exact ⟨ret_bool (by rw [← hno]; simp), hb⟩

set_option maxRecDepth 100000 in
set_option maxHeartbeats 800000 in
theorem refBeyond_any (A : Option Addr) (c : Nat) (l : List Tm) (t : Tm) (w : World) (hl : Times w w.heap.size A l) (hn : l.length ≤ maxLen) :
    Calls Tryz.prog 51 #[.slice A l.length c, t.val] w fun e w' => e = .returned (.bool (beyond l t)) ∧ Below w.heap.size w w' := by
  unfold maxLen at hn
  have hcall := fun (s : Tm) (W : World) => Lib.hid (refAhead_any s t W)
  unfold Tm.val at hcall ⊢
  have Hl := Lib.hid hl
  clear hl
  go_enter Tryz.func51, Tryz.ntmps51
  go_wp2_with fail
  go_loopw [9] (fun i wr => ∃ k : Nat, i = .int .i64 (k : Int) ∧ k ≤ l.length ∧ beyond (l.take k) t = false ∧ Below w.heap.size w wr ∧ w.heap.size < wr.heap.size ∧ TmAt wr w.heap.size 0 t)
    (fun i _ => l.length - (intOf i).toNat)
  case atStart =>
    exact ⟨0, rfl, by omega, rfl, (Below.refl _ _).alloc (Nat.le_refl _) _, by simp, by simp [TmAt, go_sem]⟩
  case round =>
    obtain ⟨k, rfl, hk, hno, hb, hs, ht⟩ := hrel
    obtain ⟨t0, t1, t2⟩ := ht
    by_cases hlt : k < l.length
    · have hx : l[k]? = some l[k] := List.getElem?_eq_getElem hlt
      obtain ⟨b, o, rfl, hB, hc⟩ := Hl.out (by omega)
      obtain ⟨c0, c1, c2⟩ := (hc k _ hx).past hb hB
      have hsn := beyond_snoc (t := t) hx
      have hhit := fun h => beyond_hit (t := t) hx h
      generalize l[k] = s at *
      have hbs : b < w.heap.size := hB
      have HH := Lib.hid (And.intro hno (And.intro hsn (And.intro hhit (And.intro hx (And.intro hb (And.intro t0 (And.intro t1 t2)))))))
      clear hno hsn hhit hx hc hB hb
      by_cases hle : s.le t = true
      · have hcall := fun W => hcall s W
        simp only [hle] at hcall
        have HL := Lib.hid hle
        clear hle
        go_wp2_with fail
        refine (hcall _).out.mono ?_
        rintro e w1 ⟨rfl, h1⟩
        go_wp2_with fail
        go_ret
        obtain ⟨hno, hsn, hhit, hx, hb, t0, t1, t2⟩ := HH.out
        exact ⟨ret_bool (hhit HL.out).symm, hb.trans (((Below.refl _ _).alloc (by omega) _).trans (h1.mono (by simp; omega)))⟩
      · have hle : s.le t = false := by simpa using hle
        have hcall := fun W => hcall s W
        simp only [hle] at hcall
        have HL := Lib.hid hle
        clear hle
        go_wp2_with fail
        refine (hcall _).out.mono ?_
        rintro e w1 ⟨rfl, h1⟩
        go_wp2_with fail
        obtain ⟨hno, hsn, hhit, hx, hb, t0, t1, t2⟩ := HH.out
        have h2 : Below w.heap.size w w1 := hb.trans (((Below.refl _ _).alloc (by omega) _).trans (h1.mono (by simp; omega)))
        have h3 : Below wr.heap.size wr w1 := ((Below.refl _ _).alloc (Nat.le_refl _) _).trans (h1.mono (by simp))
        go_roundw
        case rel => exact ⟨k + 1, by go_num, by omega, by rw [hsn, hno, HL.out]; rfl, h2, by have := h3.size; omega, (TmAt.past ⟨t0, t1, t2⟩ h3 hs)⟩
        case measure => simp [intOf]; omega
    · have hk2 : k = l.length := by omega
      have HH := Lib.hid (And.intro hno (And.intro hb hk2))
      clear hno hb hk2
      go_wp2_with fail
      go_ret
      obtain ⟨hno, hb, rfl⟩ := HH.out
      exact ⟨ret_bool (by rw [← hno]; simp), hb⟩
end Go.Proofs.YtbccdmpnojdldaaGreat
namespace Go.Proofs.YtbccdmpnojdldaaGreat
open Go Go.RowKit Go.Sort Go.Lib

/-- what is kept of the first k -/
def keepStep (f : List Tm) (t : Tm) : List Tm := if beyond f t = true then f else f ++ [t]
def frontTo (s : List Tm) (k : Nat) : List Tm := (s.take k).foldl keepStep []
def frontL (l : List Tm) : List Tm := frontTo (sortT l) (sortT l).length
theorem frontTo_snoc {s : List Tm} {t : Tm} {k : Nat} (h : s[k]? = some t) : frontTo s (k + 1) = keepStep (frontTo s k) t := by
  unfold frontTo; rw [List.take_add_one, h, List.foldl_append]; rfl
theorem frontTo_len (s : List Tm) : ∀ k, k ≤ s.length → (frontTo s k).length ≤ k
  | 0, _ => by simp [frontTo]
  | k + 1, h => by
    have := frontTo_len s k (by omega)
    rw [frontTo_snoc (List.getElem?_eq_getElem (by omega))]
    unfold keepStep
    split
    · omega
    · rw [List.length_append]; simp; omega

end Go.Proofs.YtbccdmpnojdldaaGreat
namespace Go.Proofs.YtbccdmpnojdldaaGreat
open Go Go.RowKit
attribute [local go_sem ↓] Go.wp_at_zero Go.wp_at_succ

end Go.Proofs.YtbccdmpnojdldaaGreat
namespace Go.Proofs.YtbccdmpnojdldaaGreat
open Go Go.RowKit

theorem foldl_inf (t : Tm) : ∀ (l : List Tm) (a s : Tm), s.le (l.foldl (fun a y => a.inf (t.sup y)) a) = (s.le a && l.all fun y => s.le (t.sup y))
  | [], a, s => by simp
  | x :: l, a, s => by
    rw [List.foldl_cons, foldl_inf t l, List.all_cons]
    have : s.le (a.inf (t.sup x)) = (s.le a && s.le (t.sup x)) := by
      rw [Bool.eq_iff_iff, Bool.and_eq_true, Tm.le_iff, Tm.le_iff, Tm.le_iff]
      simp only [Tm.inf]
      omega
    rw [this, Bool.and_assoc]
/-- what is ahead of an advanced time -/
theorem le_adv (s t : Tm) (l : List Tm) (h : l ≠ []) : s.le (adv t l) = l.all fun y => s.le (t.sup y) := by
  cases l with
  | nil => exact absurd rfl h
  | cons x l => simp [adv, foldl_inf]
theorem le_refl' (t : Tm) : t.le t = true := Tm.le_iff.2 ⟨Nat.le_refl _, Nat.le_refl _, Nat.le_refl _⟩
theorem le_anti {s t : Tm} (h : s.le t = true) (k : t.le s = true) : s = t := by
  rw [Tm.le_iff] at h k
  obtain ⟨a, b, c⟩ := s
  obtain ⟨d, e, f⟩ := t
  simp at *
  omega
theorem le_trans' {a b c : Tm} (h : a.le b = true) (k : b.le c = true) : a.le c = true := by
  rw [Tm.le_iff] at *; omega
/-- a time advanced to a list, then to a later one, is advanced to the later one -/
theorem adv_later (t : Tm) (f g : List Tm) (hg : g ≠ []) (h : ∀ x ∈ g, beyond f x = true) : adv (adv t f) g = adv t g := by
  have key : ∀ s : Tm, s.le (adv (adv t f) g) = s.le (adv t g) := by
    intro s
    rw [le_adv _ _ _ hg, le_adv _ _ _ hg, Bool.eq_iff_iff, List.all_eq_true, List.all_eq_true]
    have hsup : ∀ y ∈ g, (adv t f).sup y = t.sup y := by
      intro y hy
      by_cases hf : f = []
      · subst hf; simp [beyond] at h; exact absurd hy (by intro hy; exact (h y hy))
      obtain ⟨x, hx, hxy⟩ := List.any_eq_true.1 (h y hy)
      have h1 : t.le (adv t f) = true := by
        rw [le_adv _ _ _ hf, List.all_eq_true]; intro z _; rw [Tm.le_iff]; simp only [Tm.sup]; omega
      have h2 : (adv t f).le (t.sup x) = true := by
        have := le_refl' (adv t f)
        rw [le_adv _ _ _ hf, List.all_eq_true] at this
        exact this x hx
      rw [Tm.le_iff] at h1 h2 hxy
      simp only [Tm.sup] at h2 ⊢
      simp only [Tm.mk.injEq]
      omega
    constructor
    · intro k y hy; rw [← hsup y hy]; exact k y hy
    · intro k y hy; rw [hsup y hy]; exact k y hy
  exact le_anti (by rw [← key]; exact le_refl' _) (by rw [key]; exact le_refl' _)

attribute [local go_sem ↓] Go.wp_at_zero Go.wp_at_succ
theorem beyond_all {f g : List Tm} (h : ∀ (k : Nat) (x : Tm), g[k]? = some x → beyond f x = true) : ∀ x ∈ g, beyond f x = true := fun x hx => by
  obtain ⟨k, hk⟩ := List.mem_iff_getElem?.1 hx
  exact h k x hk

end Go.Proofs.YtbccdmpnojdldaaGreat
namespace Go.Proofs.YtbccdmpnojdldaaGreat
open Go Go.RowKit Go.Sort Go.Lib

/-- two of a frontier, the earlier one first -/
def Apart (x y : Tm) : Prop := ltOf Tm.cmp x y = true ∧ x.le y = false ∧ y.le x = false
theorem le_not_lt {x y : Tm} (h : x.le y = true) : ltOf Tm.cmp y x = false := by
  rw [Tm.le_iff] at h; rw [ltT]; simp; omega
theorem beyond_iff {l : List Tm} {t : Tm} : beyond l t = true ↔ ∃ x ∈ l, x.le t = true := by unfold beyond; rw [List.any_eq_true]
theorem sorted_unique' {R : Tm → Tm → Prop} (hi : ∀ x, ¬ R x x) (ha : ∀ x y, R x y → ¬ R y x) : ∀ l m : List Tm, l.Pairwise R → m.Pairwise R → (∀ x, x ∈ l ↔ x ∈ m) → l = m
  | [], [], _, _, _ => rfl
  | [], y :: m, _, _, h => absurd ((h y).2 List.mem_cons_self) (by simp)
  | x :: l, [], _, _, h => absurd ((h x).1 List.mem_cons_self) (by simp)
  | x :: l, y :: m, hl, hm, h => by
    rw [List.pairwise_cons] at hl hm
    have hxy : x = y := by
      rcases List.mem_cons.1 ((h x).1 List.mem_cons_self) with e | e
      · exact e
      · rcases List.mem_cons.1 ((h y).2 List.mem_cons_self) with e' | e'
        · exact e'.symm
        · exact absurd (hl.1 y e') (ha _ _ (hm.1 x e))
    subst hxy
    congr 1
    refine sorted_unique' hi ha l m hl.2 hm.2 fun z => ?_
    constructor
    · intro hz
      rcases List.mem_cons.1 ((h z).1 (List.mem_cons_of_mem _ hz)) with e | e
      · subst e; exact absurd (hl.1 z hz) (hi z)
      · exact e
    · intro hz
      rcases List.mem_cons.1 ((h z).2 (List.mem_cons_of_mem _ hz)) with e | e
      · subst e; exact absurd (hm.1 z hz) (hi z)
      · exact e
theorem frontTo_facts (s : List Tm) (hs : s.Pairwise fun x y => ltOf Tm.cmp y x = false) : ∀ k, k ≤ s.length →
    (frontTo s k).Pairwise Apart ∧ (∀ x ∈ frontTo s k, x ∈ s.take k) ∧ ∀ t, beyond (frontTo s k) t = beyond (s.take k) t
  | 0, _ => ⟨by simp [frontTo], by simp [frontTo], by simp [frontTo]⟩
  | k + 1, h => by
    obtain ⟨h1, h2, h3⟩ := frontTo_facts s hs k (by omega)
    have hx : s[k]? = some s[k] := List.getElem?_eq_getElem (by omega)
    have htk : s.take (k + 1) = s.take k ++ [s[k]] := by rw [List.take_add_one, hx]; rfl
    have hpw : ∀ x ∈ s.take k, ltOf Tm.cmp s[k] x = false := by
      have := hs.sublist (List.take_sublist (k + 1) s)
      rw [htk, List.pairwise_append] at this
      exact fun x hxk => this.2.2 x hxk _ (by simp)
    rw [frontTo_snoc hx, htk]
    generalize s[k] = t at *
    generalize frontTo s k = f at *
    unfold keepStep
    have hbs : ∀ u, beyond (s.take k ++ [t]) u = (beyond (s.take k) u || t.le u) := fun u => by simp [beyond]
    by_cases hb : beyond f t = true
    · rw [if_pos hb]
      refine ⟨h1, fun x hxf => List.mem_append_left _ (h2 x hxf), fun u => ?_⟩
      rw [hbs, h3]
      cases htu : t.le u with
      | false => simp
      | true =>
        obtain ⟨x, hxf, hxt⟩ := beyond_iff.1 hb
        rw [← h3, beyond_iff.2 ⟨x, hxf, le_trans' hxt htu⟩]; rfl
    · rw [if_neg hb]
      refine ⟨?_, fun x hxf => ?_, fun u => ?_⟩
      · rw [List.pairwise_append]
        refine ⟨h1, by simp, fun x hxf y hy => ?_⟩
        obtain rfl : y = t := by simpa using hy
        have hxt : x.le y = false := by
          cases hq : x.le y with
          | false => rfl
          | true => exact absurd (beyond_iff.2 ⟨x, hxf, hq⟩) hb
        have hlt : ltOf Tm.cmp x y = true := by
          cases hq : ltOf Tm.cmp x y with
          | true => rfl
          | false =>
            have := totT x y hq (hpw x (h2 x hxf))
            subst this
            rw [le_refl'] at hxt; cases hxt
        refine ⟨hlt, hxt, ?_⟩
        cases hq : y.le x with
        | false => rfl
        | true => have := le_not_lt hq; rw [hlt] at this; cases this
      · rcases List.mem_append.1 hxf with h | h
        · exact List.mem_append_left _ (h2 x h)
        · exact List.mem_append_right _ h
      · rw [hbs, ← h3]; simp [beyond]
theorem frontL_facts (l : List Tm) : (frontL l).Pairwise Apart ∧ (∀ x ∈ frontL l, x ∈ l) ∧ ∀ t, beyond (frontL l) t = beyond l t := by
  obtain ⟨h1, h2, h3⟩ := frontTo_facts (sortT l) (sortT_sorted l) (sortT l).length (Nat.le_refl _)
  rw [List.take_length] at h2 h3
  refine ⟨h1, fun x hx => mem_sortT.1 (h2 x hx), fun t => (h3 t).trans ?_⟩
  rw [Bool.eq_iff_iff, beyond_iff, beyond_iff]
  simp only [mem_sortT]
theorem apart_irrefl (x : Tm) : ¬ Apart x x := fun h => by have := h.2.1; rw [le_refl'] at this; cases this
theorem apart_asymm (x y : Tm) (h : Apart x y) : ¬ Apart y x := fun k => by
  have := swoT.trans _ _ _ h.1 k.1
  rw [swoT.irrefl] at this; cases this
/-- of two apart each is beyond itself alone -/
theorem mem_apart {f : List Tm} (hf : f.Pairwise Apart) {x y : Tm} (hx : x ∈ f) (hy : y ∈ f) (h : x.le y = true) : x = y := by
  by_cases e : x = y
  · exact e
  · have hs : ∀ (l : List Tm), l.Pairwise Apart → x ∈ l → y ∈ l → Apart x y ∨ Apart y x := by
      intro l
      induction l with
      | nil => intro _ h; simp at h
      | cons z l ih =>
        intro hp hx hy
        rw [List.pairwise_cons] at hp
        rcases List.mem_cons.1 hx with ex | hx'
        · rcases List.mem_cons.1 hy with ey | hy'
          · exact absurd (ex.trans ey.symm) e
          · exact .inl (ex ▸ hp.1 y hy')
        · rcases List.mem_cons.1 hy with ey | hy'
          · exact .inr (ey ▸ hp.1 x hx')
          · exact ih hp.2 hx' hy'
    rcases hs f hf hx hy with h' | h'
    · rw [h'.2.1] at h; cases h
    · rw [h'.2.2] at h; cases h
theorem apart_unique {f g : List Tm} (hf : f.Pairwise Apart) (hg : g.Pairwise Apart) (h : ∀ t, beyond f t = beyond g t) : f = g := by
  have key : ∀ {f g : List Tm}, f.Pairwise Apart → g.Pairwise Apart → (∀ t, beyond f t = beyond g t) → ∀ x, x ∈ f → x ∈ g := by
    intro f g hf hg h x hx
    obtain ⟨y, hy, hyx⟩ := beyond_iff.1 ((h x).symm.trans (beyond_iff.2 ⟨x, hx, le_refl' x⟩))
    obtain ⟨z, hz, hzy⟩ := beyond_iff.1 ((h y).trans (beyond_iff.2 ⟨y, hy, le_refl' y⟩))
    have := mem_apart hf hz hx (le_trans' hzy hyx)
    subst this
    rw [← le_anti hyx hzy]
    exact hy
  exact sorted_unique' apart_irrefl apart_asymm f g hf hg fun x => ⟨key hf hg h x, key hg hf (fun t => (h t).symm) x⟩
theorem front_congr {l m : List Tm} (h : ∀ t, beyond l t = beyond m t) : frontL l = frontL m :=
  apart_unique (frontL_facts l).1 (frontL_facts m).1 fun t => by rw [(frontL_facts l).2.2, (frontL_facts m).2.2, h]
theorem front_front (l : List Tm) : frontL (frontL l) = frontL l := front_congr (frontL_facts l).2.2
theorem front_nil {l : List Tm} (h : frontL l = []) : l = [] := by
  cases l with
  | nil => rfl
  | cons x l =>
    have := (frontL_facts (x :: l)).2.2 x
    rw [h, beyond_iff.2 ⟨x, List.mem_cons_self, le_refl' x⟩] at this
    simp [beyond] at this
theorem le_adv_t (t : Tm) (l : List Tm) : t.le (adv t l) = true := by
  by_cases h : l = []
  · subst h; exact le_refl' t
  · rw [le_adv _ _ _ h, List.all_eq_true]; intro z _; rw [Tm.le_iff]; simp only [Tm.sup]; omega
theorem sup_le {t x s : Tm} (h : t.le s = true) (k : x.le s = true) : (t.sup x).le s = true := by
  rw [Tm.le_iff] at *; simp only [Tm.sup]; omega
theorem adv_le {t x : Tm} {l : List Tm} (h : x ∈ l) : (adv t l).le (t.sup x) = true := by
  have := le_refl' (adv t l)
  rw [le_adv _ _ _ (by intro e; rw [e] at h; simp at h), List.all_eq_true] at this
  exact this x h
theorem adv_same (t s : Tm) (l : List Tm) (h : beyond l s = true) : t.le s = (adv t l).le s := by
  obtain ⟨x, hx, hxs⟩ := beyond_iff.1 h
  rw [Bool.eq_iff_iff]
  exact ⟨fun hts => le_trans' (adv_le hx) (sup_le hts hxs), fun h => le_trans' (le_adv_t t l) h⟩
theorem adv_again (t : Tm) (l : List Tm) : adv (adv t l) l = adv t l := by
  by_cases h : l = []
  · subst h; rfl
  · exact adv_later t l l h fun x hx => beyond_iff.2 ⟨x, hx, le_refl' x⟩
theorem adv_front (t : Tm) (l : List Tm) : adv t (frontL l) = adv t l := by
  by_cases h : l = []
  · subst h
    have : frontL [] = [] := by
      cases hq : frontL [] with
      | nil => rfl
      | cons x r => have := (frontL_facts []).2.1 x (by rw [hq]; exact List.mem_cons_self); simp at this
    rw [this]
  have h' : frontL l ≠ [] := fun e => h (front_nil e)
  have key : ∀ s : Tm, s.le (adv t (frontL l)) = s.le (adv t l) := by
    intro s
    rw [le_adv _ _ _ h', le_adv _ _ _ h, Bool.eq_iff_iff, List.all_eq_true, List.all_eq_true]
    constructor
    · intro k y hy
      obtain ⟨x, hx, hxy⟩ := beyond_iff.1 (((frontL_facts l).2.2 y).trans (beyond_iff.2 ⟨y, hy, le_refl' y⟩))
      refine le_trans' (k x hx) ?_
      rw [Tm.le_iff] at *; simp only [Tm.sup]; omega
    · intro k y hy; exact k y ((frontL_facts l).2.1 y hy)
  exact le_anti (by rw [← key]; exact le_refl' _) (by rw [key]; exact le_refl' _)
end Go.Proofs.YtbccdmpnojdldaaGreat
namespace Go.Proofs.YtbccdmpnojdldaaGreat
open Go Go.RowKit

/-- an update advanced -/
def Up.advd (f : List Tm) (u : Up) : Up := { u with t := adv u.t f }
def advL (f : List Tm) (l : List Up) : List Up := l.map (Up.advd f)
theorem right_down {s t : Tm} (h : s.le t = true) (ht : t.right = true) : s.right = true := by
  rw [Tm.le_iff] at h
  unfold Tm.right at *
  simp only [Bool.and_eq_true, decide_eq_true_eq] at *
  omega
theorem chk_one {t : Tm} : chk [t] = 0 ↔ t.right = true := by
  unfold chk
  cases h : t.right <;> simp [h]
theorem adv_right {t : Tm} {f : List Tm} (ht : t.right = true) (hf : ∀ x ∈ f, x.right = true) : (adv t f).right = true := by
  cases f with
  | nil => exact ht
  | cons x f =>
    have hx := hf x List.mem_cons_self
    refine right_down (adv_le (x := x) List.mem_cons_self) ?_
    unfold Tm.right at ht hx ⊢
    rw [Bool.and_eq_true, decide_eq_true_eq, decide_eq_true_eq] at ht hx ⊢
    show max t.e x.e ≤ _ ∧ max (max t.a x.a) (max t.b x.b) ≤ _
    omega
theorem chk_adv {f : List Tm} (hf : ∀ x ∈ f, x.right = true) (t : Tm) : chk [adv t f] = chk [t] := by
  cases h : t.right with
  | true => rw [chk_one.2 h, chk_one.2 (adv_right h hf)]
  | false =>
    have h2 : (adv t f).right = false := by
      cases h3 : (adv t f).right with
      | false => rfl
      | true => rw [right_down (le_adv_t t f) h3] at h; cases h
    unfold chk
    simp [h, h2]
theorem chkU_adv {f : List Tm} (hf : ∀ x ∈ f, x.right = true) (u : Up) : chkU (u.advd f) = chkU u := by
  unfold chkU chkK
  show orI (chkRow u.key) (orI (chkRow u.row) (chk [adv u.t f])) = _
  rw [chk_adv hf]
  rfl
theorem chkUs_adv {f : List Tm} (hf : ∀ x ∈ f, x.right = true) : ∀ l : List Up, chkUs (advL f l) = chkUs l
  | [] => rfl
  | u :: l => by
    have ih := chkUs_adv hf l
    unfold advL at *
    rw [List.map_cons]
    unfold chkUs
    rw [chkU_adv hf, ih]
theorem atP_adv {f : List Tm} {t : Tm} (hb : f = [] ∨ beyond f t = true) : ∀ l : List Up, atP (advL f l) t = atP l t
  | [] => rfl
  | u :: l => by
    have ih := atP_adv hb l
    have hu : (u.advd f).t.le t = u.t.le t := by
      rcases hb with rfl | hb
      · rfl
      · exact (adv_same u.t t f hb).symm
    unfold atP advL at *
    rw [List.map_cons, List.filter_cons, List.filter_cons, hu]
    split
    · rw [List.map_cons, List.map_cons, ih]; rfl
    · exact ih
theorem at_advL {f : List Tm} {t : Tm} (hf : ∀ x ∈ f, x.right = true) (hb : f = [] ∨ beyond f t = true) (l : List Up) : atL (advL f l) t = atL l t ∧ atE (advL f l) t = atE l t := by
  have hc : chkAt (advL f l) t = chkAt l t := by unfold chkAt; rw [chkUs_adv hf]
  unfold atL atE
  rw [hc, atP_adv hb]
  exact ⟨rfl, rfl⟩
/-- of updates, and of their batch -/
theorem at_batch {f : List Tm} {t : Tm} {l e : List Up} (hf : ∀ x ∈ f, x.right = true) (hb : f = [] ∨ beyond f t = true) (h : consE [advL f l] = 0) (he : e.map Up.p = consL [advL f l]) : atL l t = atL e t ∧ atE l t = atE e t := by
  obtain ⟨h1, h2⟩ := at_same t h he
  obtain ⟨h3, h4⟩ := at_advL hf hb l
  exact ⟨h3.symm.trans h1, h4.symm.trans h2⟩
/-- the updates of a batch are advanced -/
theorem batch_advd {f : List Tm} {l e : List Up} (h : consE [advL f l] = 0) (he : e.map Up.p = consL [advL f l]) : ∀ u ∈ e, adv u.t f = u.t := fun u hu => by
  obtain ⟨_, h2, h3⟩ := cons_chk h
  simp only [List.flatten_cons, List.flatten_nil, List.append_nil] at h2 h3
  have hm : u.p ∈ nz Uk.cmp ((advL f l).map Up.p) := by
    rw [← (resE_zero h2).1, ← h3, ← he]
    exact List.mem_map_of_mem hu
  have := nz_right (R := fun k : Uk => adv k.t f = k.t) (fun p hp => by
    obtain ⟨v, hv, rfl⟩ := List.mem_map.1 hp
    obtain ⟨v0, _, rfl⟩ := List.mem_map.1 hv
    exact adv_again v0.t f) _ hm
  exact this
/-- a frontier of right times -/
def FrontOk (f : List Tm) : Prop := chk f = 0 ∧ frontL f = f
theorem FrontOk.right {f : List Tm} (h : FrontOk f) : ∀ x ∈ f, x.right = true := by
  have := h.1
  unfold chk at this
  split at this
  · rename_i h1; exact fun x hx => List.all_eq_true.1 h1 x hx
  · omega
/-- a batch that is right -/
def BatchOk (f : List Tm) (l : List Up) : Prop := FrontOk f ∧ EvenP l ∧ ∀ u ∈ l, adv u.t f = u.t
theorem batch_ok {f : List Tm} {l e : List Up} (hf : FrontOk f) (h : consE [advL f l] = 0) (he : e.map Up.p = consL [advL f l]) : BatchOk f e := ⟨hf, cons_even h he, batch_advd h he⟩
theorem advL_id {f : List Tm} {l : List Up} (h : ∀ u ∈ l, adv u.t f = u.t) : advL f l = l := by
  unfold advL
  conv => rhs; rw [← List.map_id l]
  refine List.map_congr_left fun u hu => ?_
  unfold Up.advd
  rw [h u hu]
  rfl
theorem advL_nil (l : List Up) : advL [] l = l := advL_id fun _ _ => rfl
/-- a batch built of a batch's updates is that batch -/
theorem batch_twice {f : List Tm} {l e : List Up} (h : consE [advL f l] = 0) (he : e.map Up.p = consL [advL f l]) : (consE [advL f e] = 0 ∧ consL [advL f e] = e.map Up.p) ∧ consE [advL [] e] = 0 ∧ consL [advL [] e] = e.map Up.p := by
  rw [advL_id (batch_advd h he), advL_nil]
  obtain ⟨h1, h2⟩ := cons_again h he
  exact ⟨⟨h2, h1.trans he.symm⟩, h2, h1.trans he.symm⟩
end Go.Proofs.YtbccdmpnojdldaaGreat
