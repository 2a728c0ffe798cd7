/- What is there at a time: of updates evened out; of two lists; and between two times. -/
import Derived.Test.YtpfjeibhklacbaaDFacts
namespace Go.Proofs.Ytpfjeibhklacbaa
open Go Go.RowKit

section
variable {K : Type} {cmp : K → K → Int} {R : K → Prop}
def psum (p : K → Bool) : List (K × Int) → Int
  | [] => 0
  | x :: l => (if p x.1 = true then x.2 else 0) + psum p l
theorem ins_right {x : K × Int} {l : List (K × Int)} (hx : R x.1) (hl : ∀ y ∈ l, R y.1) : ∀ y ∈ ins cmp x l, R y.1 := fun y hy => by
  rcases ins_keys x l y hy with e | ⟨z, hz, e⟩
  · rw [e]; exact hx
  · rw [← e]; exact hl z hz
theorem psum_ins (L : Lin cmp R) (p : K → Bool) (x : K × Int) (hx : R x.1) : ∀ l : List (K × Int), (∀ y ∈ l, R y.1) → psum p (ins cmp x l) = psum p l + if p x.1 = true then x.2 else 0
  | [], _ => by simp [ins, psum]
  | y :: t, h => by
    have ih := psum_ins L p x hx t fun z hz => h z (by simp [hz])
    unfold ins
    by_cases h0 : cmp y.1 x.1 = 0
    · have e : y.1 = x.1 := (L.eq y.1 x.1 (h y (by simp)) hx).1 h0
      rw [if_pos h0]
      simp only [psum, e]
      split <;> omega
    · rw [if_neg h0]
      split
      · simp only [psum, ih]; omega
      · simp only [psum]; omega
theorem psum_asmF (L : Lin cmp R) (p : K → Bool) : ∀ l a : List (K × Int), (∀ y ∈ l, R y.1) → (∀ y ∈ a, R y.1) → psum p (asmF cmp a l) = psum p a + psum p l
  | [], a, _, _ => by simp [asmF, psum]
  | x :: l, a, h, ha => by
    have hx := h x (by simp)
    have ih := psum_asmF L p l (ins cmp x a) (fun y hy => h y (by simp [hy])) (ins_right hx ha)
    show psum p (asmF cmp (ins cmp x a) l) = _
    rw [ih, psum_ins L p x hx a ha]
    simp only [psum]
    omega
theorem psum_nz0 (p : K → Bool) : ∀ l : List (K × Int), psum p (l.filter fun x => x.2 != 0) = psum p l
  | [] => rfl
  | x :: l => by
    have ih := psum_nz0 p l
    rw [List.filter_cons]
    split
    · simp only [psum, ih]
    · rename_i h
      have h0 : x.2 = 0 := by simpa using h
      simp only [psum, ih, h0]
      split <;> omega
theorem psum_nz (L : Lin cmp R) (p : K → Bool) {l : List (K × Int)} (h : ∀ y ∈ l, R y.1) : psum p (nz cmp l) = psum p l := by
  unfold nz asm
  rw [psum_nz0, psum_asmF L p l [] h fun y hy => (by cases hy)]
  simp [psum]
end
theorem at_sum (t : Tm) (r : List Vl) : ∀ l : List Up, sumOf cmpRows (atP l t) r = psum (fun k : Uk => k.t.le t && decide (cmpRows k.row r = 0)) (l.map Up.p)
  | [] => rfl
  | u :: l => by
    have ih := at_sum t r l
    have e : atP (u :: l) t = if u.t.le t = true then (u.row, u.d) :: atP l t else atP l t := by
      unfold atP
      rw [List.filter_cons]
      split <;> simp
    rw [e, List.map_cons]
    simp only [psum]
    rw [show u.p = (u.k, u.d) from rfl, ← ih]
    simp only [show u.k.t = u.t from rfl, show u.k.row = u.row from rfl]
    cases hle : u.t.le t
    · simp
    · by_cases h0 : cmpRows u.row r = 0
      · simp [sumOf, h0]
      · simp [sumOf, h0]
theorem at_append (a b : List Up) (t : Tm) : atP (a ++ b) t = atP a t ++ atP b t := by unfold atP; rw [List.filter_append, List.map_append]
theorem at_right {l : List Up} {t : Tm} (h : chkUs l = 0) : ∀ x ∈ atP l t, RowR x.1 := fun x hx => by
  obtain ⟨u, hu, rfl⟩ := List.mem_map.1 hx
  exact (chkK_zero (chkUs_all.1 h u (List.mem_filter.1 hu).1)).2.1
theorem at_ne {l : List Up} {t : Tm} (h : atE l t ≠ 0) : atL l t = [] := by
  unfold atE at h
  unfold atL
  split at h
  · rename_i h1; rw [if_pos h1]; exact resE_ne h
  · rename_i h1; rw [if_neg h1]
theorem at_zero {l : List Up} {t : Tm} (h : atE l t = 0) : chkUs l = 0 ∧ chk [t] = 0 ∧ resE cmpRows (atP l t) = 0 ∧ atL l t = nz cmpRows (atP l t) := by
  unfold atE at h
  split at h
  · rename_i h1
    have h2 : chkUs l = 0 ∧ chk [t] = 0 := by unfold chkAt orI at h1; split at h1 <;> simp_all
    exact ⟨h2.1, h2.2, h, by unfold atL; rw [if_pos h1]; exact (resE_zero h).1⟩
  · rename_i h1; exact absurd h h1
theorem at_of {l : List Up} {t : Tm} (h1 : chkUs l = 0) (h2 : chk [t] = 0) : atL l t = resL cmpRows (atP l t) ∧ atE l t = resE cmpRows (atP l t) := by
  have h : chkAt l t = 0 := by unfold chkAt orI; rw [if_pos h1]; exact h2
  unfold atL atE
  rw [if_pos h, if_pos h]
  exact ⟨rfl, rfl⟩
/-- of updates, and of them evened out -/
theorem at_same {l e : List Up} (t : Tm) (h : consE [l] = 0) (he : e.map Up.p = consL [l]) : atL l t = atL e t ∧ atE l t = atE e t := by
  have hev := (cons_even h he).2.2
  obtain ⟨h1, h2, h3⟩ := cons_chk h
  have hl : chkUs l = 0 := chkLs_all.1 h1 l (by simp)
  simp only [List.flatten_cons, List.flatten_nil, List.append_nil] at h2 h3
  by_cases ht : chk [t] = 0
  · rw [(at_of hl ht).1, (at_of hl ht).2, (at_of hev ht).1, (at_of hev ht).2]
    refine resL_ext row_lin (at_right hl) (at_right hev) fun r => ?_
    rw [at_sum, at_sum, he, h3, (resE_zero h2).1, psum_nz uk_lin _ (keys_right (chkUs_all.1 hl))]
  · have c1 : chkAt l t = chk [t] := by unfold chkAt orI; rw [if_pos hl]
    have c2 : chkAt e t = chk [t] := by unfold chkAt orI; rw [if_pos hev]
    unfold atL atE
    rw [c1, c2, if_neg ht, if_neg ht, if_neg ht, if_neg ht]
    exact ⟨rfl, rfl⟩
theorem merge_two {A B C : List (List Vl × Int)} {p q : List Ct} (hA : ∀ x ∈ A, RowR x.1) (hB : ∀ x ∈ B, RowR x.1) (hC : ∀ x ∈ C, RowR x.1) (hp : p.map Ct.p = nz cmpRows A) (hq : q.map Ct.p = nz cmpRows B)
    (hs : ∀ r, sumOf cmpRows A r + sumOf cmpRows B r = sumOf cmpRows C r) : mergeL [p, q] = resL cmpRows C ∧ mergeE [p, q] = resE cmpRows C := by
  have hall : ∀ x ∈ (p ++ q).map Ct.p, RowR x.1 := fun x hx => by
    rw [List.map_append, hp, hq] at hx
    rcases List.mem_append.1 hx with hx | hx
    · exact nz_right (R := RowR) hA x hx
    · exact nz_right (R := RowR) hB x hx
  have hc : chkCs ([p, q] : List (List Ct)).flatten = 0 := chkCs_all.2 fun c hc => by
    simp only [List.flatten_cons, List.flatten_nil, List.append_nil] at hc
    exact hall c.p (List.mem_map.2 ⟨c, hc, rfl⟩)
  unfold mergeL mergeE
  rw [if_pos hc, if_pos hc]
  simp only [List.flatten_cons, List.flatten_nil, List.append_nil]
  refine resL_ext row_lin hall hC fun r => ?_
  rw [List.map_append, sumOf_append, hp, hq, nz_sum row_lin, nz_sum row_lin]
  exact hs r
/-- of two lists -/
theorem at_merge {a b : List Up} {t : Tm} {p q : List Ct} (ha : atE a t = 0) (hb : atE b t = 0) (hp : p.map Ct.p = atL a t) (hq : q.map Ct.p = atL b t) : mergeL [p, q] = atL (a ++ b) t ∧ mergeE [p, q] = atE (a ++ b) t := by
  obtain ⟨a1, a2, a3, a4⟩ := at_zero ha
  obtain ⟨b1, b2, b3, b4⟩ := at_zero hb
  have hc : chkUs (a ++ b) = 0 := chkUs_all.2 fun u hu => by
    rcases List.mem_append.1 hu with hu | hu
    · exact chkUs_all.1 a1 u hu
    · exact chkUs_all.1 b1 u hu
  rw [(at_of hc a2).1, (at_of hc a2).2]
  exact merge_two (at_right a1) (at_right b1) (at_right hc) (hp.trans a4) (hq.trans b4) fun r => by rw [at_append, sumOf_append]
def betw (l : List Up) (a : Tm) : List Up := l.filter fun u => !u.t.le a
theorem betw_next {l : List Up} {a : Tm} {j : Nat} {u : Up} (h : l[j]? = some u) : betw (l.take (j + 1)) a = betw (l.take j) a ++ if u.t.le a = true then [] else [u] := by
  unfold betw
  rw [List.take_add_one, h, List.filter_append]
  cases hh : u.t.le a <;> simp [hh]
theorem betw_sub {l : List Up} {a : Tm} {u : Up} (h : u ∈ betw l a) : u ∈ l := (List.mem_filter.1 h).1
theorem betw_len (l : List Up) (a : Tm) : (betw l a).length ≤ l.length := List.length_filter_le ..
theorem betw_sum {a b : Tm} (hab : a.le b = true) (r : List Vl) : ∀ l : List Up, sumOf cmpRows (atP l a) r + sumOf cmpRows (atP (betw l a) b) r = sumOf cmpRows (atP l b) r
  | [] => rfl
  | u :: l => by
    have ih := betw_sum hab r l
    have e : ∀ t, atP (u :: l) t = if u.t.le t = true then (u.row, u.d) :: atP l t else atP l t := fun t => by
      unfold atP
      rw [List.filter_cons]
      split <;> simp
    have e2 : betw (u :: l) a = if u.t.le a = true then betw l a else u :: betw l a := by
      unfold betw
      rw [List.filter_cons]
      cases u.t.le a <;> simp
    have hle : u.t.le a = true → u.t.le b = true := fun h => by
      unfold Tm.le at *
      simp only [Bool.and_eq_true, decide_eq_true_eq] at *
      omega
    rw [e, e, e2]
    cases h1 : u.t.le a
    · have e3 : atP (u :: betw l a) b = if u.t.le b = true then (u.row, u.d) :: atP (betw l a) b else atP (betw l a) b := by
        unfold atP
        rw [List.filter_cons]
        split <;> simp
      simp only [Bool.false_eq_true, if_false]
      rw [e3]
      cases u.t.le b
      · simpa using ih
      · simp only [if_true, sumOf]; omega
    · rw [hle h1]
      simp only [if_true, sumOf]
      omega
/-- between two times -/
theorem at_later {l : List Up} {a b : Tm} {p q : List Ct} (hab : a.le b = true) (ha : atE l a = 0) (hb : atE l b = 0) (hz : atE (betw l a) b = 0) (hp : p.map Ct.p = atL l a) (hq : q.map Ct.p = atL (betw l a) b) : mergeL [p, q] = atL l b ∧ mergeE [p, q] = 0 := by
  obtain ⟨a1, a2, a3, a4⟩ := at_zero ha
  obtain ⟨b1, b2, b3, b4⟩ := at_zero hb
  obtain ⟨z1, z2, z3, z4⟩ := at_zero hz
  have := merge_two (at_right a1) (at_right z1) (at_right a1) (hp.trans a4) (hq.trans z4) fun r => betw_sum hab r l
  rw [b3] at this
  rw [(at_of a1 b2).1]
  exact this
theorem atL_len (l : List Up) (t : Tm) : (atL l t).length ≤ l.length := by
  unfold atL
  split
  · have h1 := resL_len (cmp := cmpRows) (atP l t)
    have h2 : (atP l t).length ≤ l.length := by unfold atP; rw [List.length_map]; exact List.length_filter_le ..
    omega
  · simp
theorem merge_len (L : List (List Ct)) : (mergeL L).length ≤ L.flatten.length := by
  unfold mergeL
  split
  · have := resL_len (cmp := cmpRows) (L.flatten.map Ct.p); rwa [List.length_map] at this
  · simp
end Go.Proofs.Ytpfjeibhklacbaa
