/- Plain facts: numbers added up by their keys, in the keys' order. -/
import Derived.Test.YtpfjeibhklacbaaSmFacts
namespace Go.Proofs.Ytpfjeibhklacbaa
open Go Go.RowKit

/-- a linear order, by a comparison; keys that are right are equal where they stand equal -/
structure Lin {K : Type} (cmp : K → K → Int) (R : K → Prop) : Prop where
  swap : ∀ a b, cmp b a = - cmp a b
  le : ∀ a b c, cmp a b ≤ 0 → cmp b c ≤ 0 → cmp a c ≤ 0 ∧ (cmp a b < 0 ∨ cmp b c < 0 → cmp a c < 0)
  eq : ∀ a b, R a → R b → (cmp a b = 0 ↔ a = b)
section
variable {K : Type} {cmp : K → K → Int} {R : K → Prop}
theorem Lin.self (L : Lin cmp R) (a : K) : cmp a a = 0 := by have := L.swap a a; omega
theorem Lin.lt_trans (L : Lin cmp R) {a b c : K} (h : cmp a b < 0) (k : cmp b c < 0) : cmp a c < 0 := (L.le a b c (by omega) (by omega)).2 (.inl h)
theorem Lin.le_lt (L : Lin cmp R) {a b c : K} (h : cmp a b ≤ 0) (k : cmp b c < 0) : cmp a c < 0 := (L.le a b c h (by omega)).2 (.inr k)
theorem Lin.lt_le (L : Lin cmp R) {a b c : K} (h : cmp a b < 0) (k : cmp b c ≤ 0) : cmp a c < 0 := (L.le a b c (by omega) k).2 (.inl h)
theorem Lin.zero (L : Lin cmp R) {a b c : K} (h : cmp a b = 0) : cmp a c = 0 ↔ cmp b c = 0 := by
  have h' := L.swap a b
  have h1 := L.le a b c (by omega)
  have h2 := L.le b a c (by omega)
  have h3 := L.le c a b
  have h4 := L.le c b a
  have s1 := L.swap a c
  have s2 := L.swap b c
  constructor
  · intro h0
    have a1 := (h2 (by omega)).1
    have a2 := (h3 (by omega) (by omega)).1
    omega
  · intro h0
    have a1 := (h1 (by omega)).1
    have a2 := (h4 (by omega) (by omega)).1
    omega
def sumOf (cmp : K → K → Int) : List (K × Int) → K → Int
  | [], _ => 0
  | x :: l, k => (if cmp x.1 k = 0 then x.2 else 0) + sumOf cmp l k
theorem sumOf_append (l m : List (K × Int)) (k : K) : sumOf cmp (l ++ m) k = sumOf cmp l k + sumOf cmp m k := by
  induction l with
  | nil => simp [sumOf]
  | cons x l ih => simp only [List.cons_append, sumOf, ih]; omega
theorem sumOf_perm {l m : List (K × Int)} (h : l.Perm m) (k : K) : sumOf cmp l k = sumOf cmp m k := by
  induction h with
  | nil => rfl
  | cons x _ ih => simp only [sumOf, ih]
  | swap x y l => simp only [sumOf]; omega
  | trans _ _ ih1 ih2 => rw [ih1, ih2]
theorem sumOf_none {l : List (K × Int)} {k : K} (h : ∀ x ∈ l, cmp x.1 k ≠ 0) : sumOf cmp l k = 0 := by
  induction l with
  | nil => rfl
  | cons x l ih =>
    simp only [sumOf]
    rw [if_neg (h x (by simp)), ih fun y hy => h y (by simp [hy])]
    rfl
theorem sumOf_some {l : List (K × Int)} {k : K} (h : sumOf cmp l k ≠ 0) : ∃ x ∈ l, cmp x.1 k = 0 := by
  by_cases hx : ∃ x ∈ l, cmp x.1 k = 0
  · exact hx
  · exact absurd (sumOf_none fun x hm h0 => hx ⟨x, hm, h0⟩) h
/-- one more number at its key's place -/
def ins (cmp : K → K → Int) (x : K × Int) : List (K × Int) → List (K × Int)
  | [] => [x]
  | y :: t => if cmp y.1 x.1 = 0 then (y.1, y.2 + x.2) :: t else if cmp y.1 x.1 < 0 then y :: ins cmp x t else x :: y :: t
def asmF (cmp : K → K → Int) (a l : List (K × Int)) : List (K × Int) := l.foldl (fun a x => ins cmp x a) a
def asm (cmp : K → K → Int) (l : List (K × Int)) : List (K × Int) := asmF cmp [] l
def Srt (cmp : K → K → Int) (l : List (K × Int)) : Prop := l.Pairwise fun x y => cmp x.1 y.1 < 0
theorem ins_keys (x : K × Int) : ∀ (l : List (K × Int)) (y : K × Int), y ∈ ins cmp x l → y.1 = x.1 ∨ ∃ z ∈ l, z.1 = y.1
  | [], y, h => by
    obtain rfl : y = x := by simpa [ins] using h
    exact .inl rfl
  | z :: t, y, h => by
    unfold ins at h
    split at h
    · rcases List.mem_cons.1 h with rfl | h
      · exact .inr ⟨z, by simp, rfl⟩
      · exact .inr ⟨y, by simp [h], rfl⟩
    · split at h
      · rcases List.mem_cons.1 h with rfl | h
        · exact .inr ⟨y, by simp, rfl⟩
        · rcases ins_keys x t y h with h | ⟨u, hu, e⟩
          · exact .inl h
          · exact .inr ⟨u, by simp [hu], e⟩
      · rcases List.mem_cons.1 h with rfl | h
        · exact .inl rfl
        · exact .inr ⟨y, h, rfl⟩
theorem ins_srt (L : Lin cmp R) (x : K × Int) : ∀ (l : List (K × Int)), Srt cmp l → Srt cmp (ins cmp x l)
  | [], _ => by unfold ins Srt; simp
  | y :: t, h => by
    unfold Srt at h
    rw [List.pairwise_cons] at h
    have ih := ins_srt L x t h.2
    unfold ins
    split
    · unfold Srt
      rw [List.pairwise_cons]
      exact ⟨fun z hz => h.1 z hz, h.2⟩
    · rename_i h0
      split
      · rename_i h1
        unfold Srt
        rw [List.pairwise_cons]
        refine ⟨fun z hz => ?_, ih⟩
        rcases ins_keys x t z hz with e | ⟨u, hu, e⟩
        · rw [e]; exact h1
        · rw [← e]; exact h.1 u hu
      · rename_i h1
        have hxy : cmp x.1 y.1 < 0 := by have := L.swap x.1 y.1; omega
        unfold Srt
        rw [List.pairwise_cons, List.pairwise_cons]
        refine ⟨fun z hz => ?_, h.1, h.2⟩
        rcases List.mem_cons.1 hz with rfl | hz
        · exact hxy
        · exact L.lt_trans hxy (h.1 z hz)
theorem ins_sum (L : Lin cmp R) (x : K × Int) (k : K) : ∀ (l : List (K × Int)), sumOf cmp (ins cmp x l) k = sumOf cmp l k + (if cmp x.1 k = 0 then x.2 else 0)
  | [] => by simp only [ins, sumOf]; omega
  | y :: t => by
    unfold ins
    split
    · rename_i h0
      have hz := L.zero (c := k) h0
      simp only [sumOf]
      by_cases h1 : cmp y.1 k = 0
      · rw [if_pos h1, if_pos (hz.1 h1), if_pos h1]; omega
      · rw [if_neg h1, if_neg (fun h => h1 (hz.2 h)), if_neg h1]; omega
    · split
      · simp only [sumOf]
        rw [ins_sum L x k t]
        omega
      · simp only [sumOf]; omega
theorem asmF_srt (L : Lin cmp R) : ∀ (l a : List (K × Int)), Srt cmp a → Srt cmp (asmF cmp a l)
  | [], _, h => h
  | x :: l, a, h => asmF_srt L l (ins cmp x a) (ins_srt L x a h)
theorem asm_srt (L : Lin cmp R) (l : List (K × Int)) : Srt cmp (asm cmp l) := asmF_srt L l [] List.Pairwise.nil
theorem asmF_sum (L : Lin cmp R) (k : K) : ∀ (l a : List (K × Int)), sumOf cmp (asmF cmp a l) k = sumOf cmp a k + sumOf cmp l k
  | [], _ => by simp [asmF, sumOf]
  | x :: l, a => by
    show sumOf cmp (asmF cmp (ins cmp x a) l) k = _
    rw [asmF_sum L k l, ins_sum L x k a]
    simp only [sumOf]
    omega
theorem asm_sum (L : Lin cmp R) (l : List (K × Int)) (k : K) : sumOf cmp (asm cmp l) k = sumOf cmp l k := by
  unfold asm
  rw [asmF_sum L]
  simp [sumOf]
theorem asmF_keys : ∀ (l a : List (K × Int)) (y : K × Int), y ∈ asmF cmp a l → (∃ z ∈ l, z.1 = y.1) ∨ ∃ z ∈ a, z.1 = y.1
  | [], a, y, h => .inr ⟨y, h, rfl⟩
  | x :: l, a, y, h => by
    rcases asmF_keys l (ins cmp x a) y h with ⟨z, hz, e⟩ | ⟨z, hz, e⟩
    · exact .inl ⟨z, by simp [hz], e⟩
    · rcases ins_keys x a z hz with e' | ⟨u, hu, e'⟩
      · exact .inl ⟨x, by simp, by rw [← e', e]⟩
      · exact .inr ⟨u, hu, by rw [e', e]⟩
theorem asm_keys {l : List (K × Int)} {y : K × Int} (h : y ∈ asm cmp l) : ∃ z ∈ l, z.1 = y.1 := by
  rcases asmF_keys l [] y h with h | ⟨z, hz, _⟩
  · exact h
  · cases hz
/-- what stands ahead of all that comes stays as it is -/
theorem ins_skip (x : K × Int) : ∀ (a b : List (K × Int)), (∀ y ∈ a, cmp y.1 x.1 < 0) → ins cmp x (a ++ b) = a ++ ins cmp x b
  | [], _, _ => rfl
  | y :: a, b, h => by
    have h1 := h y (by simp)
    show ins cmp x (y :: (a ++ b)) = y :: (a ++ ins cmp x b)
    rw [show ins cmp x (y :: (a ++ b)) = if cmp y.1 x.1 = 0 then (y.1, y.2 + x.2) :: (a ++ b) else if cmp y.1 x.1 < 0 then y :: ins cmp x (a ++ b) else x :: y :: (a ++ b) from rfl, if_neg (by omega), if_pos h1, ins_skip x a b fun z hz => h z (by simp [hz])]
theorem asmF_skip : ∀ (l a b : List (K × Int)), (∀ y ∈ a, ∀ x ∈ l, cmp y.1 x.1 < 0) → asmF cmp (a ++ b) l = a ++ asmF cmp b l
  | [], _, _, _ => rfl
  | x :: l, a, b, h => by
    show asmF cmp (ins cmp x (a ++ b)) l = a ++ asmF cmp (ins cmp x b) l
    rw [ins_skip x a b fun y hy => h y hy x (by simp), asmF_skip l a _ fun y hy z hz => h y hy z (by simp [hz])]
theorem asm_append {t u : List (K × Int)} (h : ∀ x ∈ t, ∀ y ∈ u, cmp x.1 y.1 < 0) : asm cmp (t ++ u) = asm cmp t ++ asm cmp u := by
  unfold asm
  rw [show asmF cmp [] (t ++ u) = asmF cmp (asmF cmp [] t) u by unfold asmF; rw [List.foldl_append]]
  have := asmF_skip u (asmF cmp [] t) [] fun y hy x hx => by
    obtain ⟨z, hz, e⟩ := asm_keys (cmp := cmp) hy
    rw [← e]
    exact h z hz x hx
  rwa [List.append_nil] at this
/-- those of one key come to one -/
theorem asm_one (L : Lin cmp R) (x : K × Int) : ∀ (l : List (K × Int)) (n : Int), (∀ y ∈ l, cmp x.1 y.1 = 0) → asmF cmp [(x.1, n)] l = [(x.1, n + (l.map (·.2)).sum)]
  | [], n, _ => by simp [asmF]
  | y :: l, n, h => by
    show asmF cmp (ins cmp y [(x.1, n)]) l = _
    have : ins cmp y [(x.1, n)] = [(x.1, n + y.2)] := by
      unfold ins
      rw [if_pos (h y (by simp))]
    rw [this, asm_one L x l _ fun z hz => h z (by simp [hz]), List.map_cons, List.sum_cons, Int.add_assoc]
theorem asm_group (L : Lin cmp R) (x : K × Int) (l : List (K × Int)) (h : ∀ y ∈ l, cmp x.1 y.1 = 0) : asm cmp (x :: l) = [(x.1, x.2 + (l.map (·.2)).sum)] := asm_one L x l x.2 h
/-- a sorted list is told by its members -/
theorem srt_ext (L : Lin cmp R) : ∀ (a b : List (K × Int)), Srt cmp a → Srt cmp b → (∀ x, x ∈ a ↔ x ∈ b) → a = b
  | [], [], _, _, _ => rfl
  | [], y :: b, _, _, h => absurd ((h y).2 (by simp)) (by simp)
  | x :: a, [], _, _, h => absurd ((h x).1 (by simp)) (by simp)
  | x :: a, y :: b, ha, hb, h => by
    unfold Srt at ha hb
    rw [List.pairwise_cons] at ha hb
    have hxy : x = y := by
      rcases List.mem_cons.1 ((h x).1 (by simp)) with e | h1
      · exact e
      · rcases List.mem_cons.1 ((h y).2 (by simp)) with e | h2
        · exact e.symm
        · have s1 := hb.1 x h1
          have s2 := ha.1 y h2
          have := L.swap x.1 y.1
          omega
    subst hxy
    have h0 : ∀ z : K × Int, z ∈ a → z ≠ x := fun z hz e => by subst e; have := ha.1 z hz; have := L.self z.1; omega
    have h1 : ∀ z : K × Int, z ∈ b → z ≠ x := fun z hz e => by subst e; have := hb.1 z hz; have := L.self z.1; omega
    rw [srt_ext L a b ha.2 hb.2 fun z => ⟨fun hz => by
      rcases List.mem_cons.1 ((h z).1 (by simp [hz])) with e | h2
      · exact absurd e (h0 z hz)
      · exact h2, fun hz => by
      rcases List.mem_cons.1 ((h z).2 (by simp [hz])) with e | h2
      · exact absurd e (h1 z hz)
      · exact h2⟩]
theorem srt_sum (L : Lin cmp R) : ∀ {l : List (K × Int)}, Srt cmp l → ∀ {x : K × Int}, x ∈ l → sumOf cmp l x.1 = x.2
  | [], _, _, h => by cases h
  | y :: l, hs, x, h => by
    unfold Srt at hs
    rw [List.pairwise_cons] at hs
    simp only [sumOf]
    rcases List.mem_cons.1 h with rfl | h
    · rw [if_pos (L.self _), sumOf_none fun z hz h0 => ?_]
      · omega
      · have := hs.1 z hz
        have := L.swap x.1 z.1
        omega
    · have h1 := hs.1 x h
      rw [if_neg (by omega), srt_sum L hs.2 h]
      omega
/-- what the numbers come to: those that are not 0, in order -/
def nz (cmp : K → K → Int) (l : List (K × Int)) : List (K × Int) := (asm cmp l).filter fun x => x.2 != 0
def resE (cmp : K → K → Int) (l : List (K × Int)) : Int := if (asm cmp l).all (fun x => fits x.2) = true then 0 else 10
def resL (cmp : K → K → Int) (l : List (K × Int)) : List (K × Int) := if (asm cmp l).all (fun x => fits x.2) = true then nz cmp l else []
theorem nz_srt (L : Lin cmp R) (l : List (K × Int)) : Srt cmp (nz cmp l) := (asm_srt L l).filter _
theorem nz_mem (L : Lin cmp R) {l : List (K × Int)} (hR : ∀ x ∈ l, R x.1) (y : K × Int) : y ∈ nz cmp l ↔ R y.1 ∧ y.2 = sumOf cmp l y.1 ∧ y.2 ≠ 0 := by
  unfold nz
  rw [List.mem_filter]
  constructor
  · rintro ⟨h1, h2⟩
    obtain ⟨z, hz, e⟩ := asm_keys h1
    refine ⟨e ▸ hR z hz, ?_, by simpa using h2⟩
    rw [← asm_sum L, srt_sum L (asm_srt L l) h1]
  · rintro ⟨h1, h2, h3⟩
    obtain ⟨z, hz, h0⟩ := sumOf_some (cmp := cmp) (l := asm cmp l) (k := y.1) (by rw [asm_sum L, ← h2]; exact h3)
    obtain ⟨u, hu, e⟩ := asm_keys hz
    have hzk : z.1 = y.1 := (L.eq z.1 y.1 (e ▸ hR u hu) h1).1 h0
    have hzs := srt_sum L (asm_srt L l) hz
    rw [asm_sum L, hzk, ← h2] at hzs
    have : z = y := Prod.ext hzk hzs.symm
    exact ⟨this ▸ hz, by simpa using h3⟩
theorem fits0 : fits 0 = true := by decide
theorem fit_all (l : List (K × Int)) : (asm cmp l).all (fun x => fits x.2) = (nz cmp l).all (fun x => fits x.2) := by
  unfold nz
  rw [Bool.eq_iff_iff, List.all_eq_true, List.all_eq_true]
  constructor
  · intro h x hx
    exact h x (List.mem_filter.1 hx).1
  · intro h x hx
    by_cases h0 : x.2 = 0
    · rw [h0]; exact fits0
    · exact h x (List.mem_filter.2 ⟨hx, by simpa using h0⟩)
theorem nz_ext (L : Lin cmp R) {l m : List (K × Int)} (hl : ∀ x ∈ l, R x.1) (hm : ∀ x ∈ m, R x.1) (h : ∀ k, sumOf cmp l k = sumOf cmp m k) : nz cmp l = nz cmp m :=
  srt_ext L _ _ (nz_srt L l) (nz_srt L m) fun x => by rw [nz_mem L hl, nz_mem L hm, h]
theorem resL_ext (L : Lin cmp R) {l m : List (K × Int)} (hl : ∀ x ∈ l, R x.1) (hm : ∀ x ∈ m, R x.1) (h : ∀ k, sumOf cmp l k = sumOf cmp m k) : resL cmp l = resL cmp m ∧ resE cmp l = resE cmp m := by
  unfold resL resE
  rw [fit_all, fit_all, nz_ext L hl hm h]
  exact ⟨rfl, rfl⟩
theorem nz_keys {l : List (K × Int)} {y : K × Int} (h : y ∈ nz cmp l) : ∃ z ∈ l, z.1 = y.1 := asm_keys (List.mem_filter.1 h).1
theorem nz_right {l : List (K × Int)} (hl : ∀ x ∈ l, R x.1) : ∀ x ∈ nz cmp l, R x.1 := fun x hx => by
  obtain ⟨z, hz, e⟩ := nz_keys hx
  exact e ▸ hl z hz
theorem sumOf_filter (L : Lin cmp R) {l : List (K × Int)} (hs : Srt cmp l) (k : K) : sumOf cmp (l.filter fun x => x.2 != 0) k = sumOf cmp l k := by
  induction l with
  | nil => rfl
  | cons x l ih =>
    unfold Srt at hs
    rw [List.pairwise_cons] at hs
    have ih := ih hs.2
    rw [List.filter_cons]
    split
    · simp only [sumOf, ih]
    · rename_i h0
      have h0 : x.2 = 0 := by simpa using h0
      simp only [sumOf]
      rw [ih, h0]
      split <;> omega
theorem nz_sum (L : Lin cmp R) (l : List (K × Int)) (k : K) : sumOf cmp (nz cmp l) k = sumOf cmp l k := by
  unfold nz
  rw [sumOf_filter L (asm_srt L l), asm_sum L]
/-- evened out once more it is as it is -/
theorem nz_nz (L : Lin cmp R) {l : List (K × Int)} (hl : ∀ x ∈ l, R x.1) : nz cmp (nz cmp l) = nz cmp l := nz_ext L (nz_right hl) hl fun k => nz_sum L l k
end
end Go.Proofs.Ytpfjeibhklacbaa
