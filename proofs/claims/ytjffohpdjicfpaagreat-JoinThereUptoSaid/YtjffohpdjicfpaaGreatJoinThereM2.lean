/- Part 2 of the texts on which JoinThere rests: facts and contracts. -/
import Derived.Test.YtjffohpdjicfpaaGreatJoinThereM1
import Derived.Deep.Cut
import Derived.Deep.RegionHeld3
import Derived.Deep.DeepCutAuto
import Derived.Deep.CutRange
import Derived.Handy
import Derived.Lib.SlBuf
import Derived.Laws.CopyOwn
import Derived.OwnWalk
import Derived.Test.YtjffohpdjicfpaaGreatProg
import Derived.Laws.Externs
import Derived.Deep.RegionWith
import Derived.Outline
import Derived.WalkSpells
import Derived.WalkLawsBesides
import Derived.BigQuiet
import Derived.Test.YtjffohpdjicfpaaGreatSortU
import Derived.Test.YtjffohpdjicfpaaGreatSortC
import Derived.Shelf.SlSortCmp.NoneTotal
namespace Go.Proofs.YtjffohpdjicfpaaGreat
open Go Go.RowKit
structure Lin {K : Type} (cmp : K → K → Int) (R : K → Prop) : Prop where
  swap : ∀ a b, cmp b a = - cmp a b
  le : ∀ a b c, cmp a b ≤ 0 → cmp b c ≤ 0 → cmp a c ≤ 0 ∧ (cmp a b < 0 ∨ cmp b c < 0 → cmp a c < 0)
  eq : ∀ a b, R a → R b → (cmp a b = 0 ↔ a = b)
section
variable {K : Type} {cmp : K → K → Int} {R : K → Prop}
theorem Lin.self (L : Lin cmp R) (a : K) : cmp a a = 0 := by have := L.swap a a; omega
theorem Lin.lt_trans (L : Lin cmp R) {a b c : K} (h : cmp a b < 0) (k : cmp b c < 0) : cmp a c < 0 := (L.le a b c (by omega) (by omega)).2 (.inl h)
theorem Lin.le_lt (L : Lin cmp R) {a b c : K} (h : cmp a b ≤ 0) (k : cmp b c < 0) : cmp a c < 0 := (L.le a b c h (by omega)).2 (.inr k)
theorem Lin.lt_le (L : Lin cmp R) {a b c : K} (h : cmp a b < 0) (k : cmp b c ≤ 0) : cmp a c < 0 := (L.le a b c (by omega) k).2 (.inl h)
theorem Lin.zero (L : Lin cmp R) {a b c : K} (h : cmp a b = 0) : cmp a c = 0 ↔ cmp b c = 0 := by
  have h' := L.swap a b
  have h1 := L.le a b c (by omega)
  have h2 := L.le b a c (by omega)
  have h3 := L.le c a b
  have h4 := L.le c b a
  have s1 := L.swap a c
  have s2 := L.swap b c
  constructor
  · intro h0
    have a1 := (h2 (by omega)).1
    have a2 := (h3 (by omega) (by omega)).1
    omega
  · intro h0
    have a1 := (h1 (by omega)).1
    have a2 := (h4 (by omega) (by omega)).1
    omega
def sumOf (cmp : K → K → Int) : List (K × Int) → K → Int
  | [], _ => 0
  | x :: l, k => (if cmp x.1 k = 0 then x.2 else 0) + sumOf cmp l k
theorem sumOf_append (l m : List (K × Int)) (k : K) : sumOf cmp (l ++ m) k = sumOf cmp l k + sumOf cmp m k := by
  induction l with
  | nil => simp [sumOf]
  | cons x l ih => simp only [List.cons_append, sumOf, ih]; omega
theorem sumOf_perm {l m : List (K × Int)} (h : l.Perm m) (k : K) : sumOf cmp l k = sumOf cmp m k := by
  induction h with
  | nil => rfl
  | cons x _ ih => simp only [sumOf, ih]
  | swap x y l => simp only [sumOf]; omega
  | trans _ _ ih1 ih2 => rw [ih1, ih2]
theorem sumOf_none {l : List (K × Int)} {k : K} (h : ∀ x ∈ l, cmp x.1 k ≠ 0) : sumOf cmp l k = 0 := by
  induction l with
  | nil => rfl
  | cons x l ih =>
    simp only [sumOf]
    rw [if_neg (h x (by simp)), ih fun y hy => h y (by simp [hy])]
    rfl
theorem sumOf_some {l : List (K × Int)} {k : K} (h : sumOf cmp l k ≠ 0) : ∃ x ∈ l, cmp x.1 k = 0 := by
  by_cases hx : ∃ x ∈ l, cmp x.1 k = 0
  · exact hx
  · exact absurd (sumOf_none fun x hm h0 => hx ⟨x, hm, h0⟩) h
def ins (cmp : K → K → Int) (x : K × Int) : List (K × Int) → List (K × Int)
  | [] => [x]
  | y :: t => if cmp y.1 x.1 = 0 then (y.1, y.2 + x.2) :: t else if cmp y.1 x.1 < 0 then y :: ins cmp x t else x :: y :: t
def asmF (cmp : K → K → Int) (a l : List (K × Int)) : List (K × Int) := l.foldl (fun a x => ins cmp x a) a
def asm (cmp : K → K → Int) (l : List (K × Int)) : List (K × Int) := asmF cmp [] l
def Srt (cmp : K → K → Int) (l : List (K × Int)) : Prop := l.Pairwise fun x y => cmp x.1 y.1 < 0
theorem ins_keys (x : K × Int) : ∀ (l : List (K × Int)) (y : K × Int), y ∈ ins cmp x l → y.1 = x.1 ∨ ∃ z ∈ l, z.1 = y.1
  | [], y, h => by
    obtain rfl : y = x := by simpa [ins] using h
    exact .inl rfl
  | z :: t, y, h => by
    unfold ins at h
    split at h
    · rcases List.mem_cons.1 h with rfl | h
      · exact .inr ⟨z, by simp, rfl⟩
      · exact .inr ⟨y, by simp [h], rfl⟩
    · split at h
      · rcases List.mem_cons.1 h with rfl | h
        · exact .inr ⟨y, by simp, rfl⟩
        · rcases ins_keys x t y h with h | ⟨u, hu, e⟩
          · exact .inl h
          · exact .inr ⟨u, by simp [hu], e⟩
      · rcases List.mem_cons.1 h with rfl | h
        · exact .inl rfl
        · exact .inr ⟨y, h, rfl⟩
theorem ins_srt (L : Lin cmp R) (x : K × Int) : ∀ (l : List (K × Int)), Srt cmp l → Srt cmp (ins cmp x l)
  | [], _ => by unfold ins Srt; simp
  | y :: t, h => by
    unfold Srt at h
    rw [List.pairwise_cons] at h
    have ih := ins_srt L x t h.2
    unfold ins
    split
    · unfold Srt
      rw [List.pairwise_cons]
      exact ⟨fun z hz => h.1 z hz, h.2⟩
    · rename_i h0
      split
      · rename_i h1
        unfold Srt
        rw [List.pairwise_cons]
        refine ⟨fun z hz => ?_, ih⟩
        rcases ins_keys x t z hz with e | ⟨u, hu, e⟩
        · rw [e]; exact h1
        · rw [← e]; exact h.1 u hu
      · rename_i h1
        have hxy : cmp x.1 y.1 < 0 := by have := L.swap x.1 y.1; omega
        unfold Srt
        rw [List.pairwise_cons, List.pairwise_cons]
        refine ⟨fun z hz => ?_, h.1, h.2⟩
        rcases List.mem_cons.1 hz with rfl | hz
        · exact hxy
        · exact L.lt_trans hxy (h.1 z hz)
theorem ins_sum (L : Lin cmp R) (x : K × Int) (k : K) : ∀ (l : List (K × Int)), sumOf cmp (ins cmp x l) k = sumOf cmp l k + (if cmp x.1 k = 0 then x.2 else 0)
  | [] => by simp only [ins, sumOf]; omega
  | y :: t => by
    unfold ins
    split
    · rename_i h0
      have hz := L.zero (c := k) h0
      simp only [sumOf]
      by_cases h1 : cmp y.1 k = 0
      · rw [if_pos h1, if_pos (hz.1 h1), if_pos h1]; omega
      · rw [if_neg h1, if_neg (fun h => h1 (hz.2 h)), if_neg h1]; omega
    · split
      · simp only [sumOf]
        rw [ins_sum L x k t]
        omega
      · simp only [sumOf]; omega
theorem asmF_srt (L : Lin cmp R) : ∀ (l a : List (K × Int)), Srt cmp a → Srt cmp (asmF cmp a l)
  | [], _, h => h
  | x :: l, a, h => asmF_srt L l (ins cmp x a) (ins_srt L x a h)
theorem asm_srt (L : Lin cmp R) (l : List (K × Int)) : Srt cmp (asm cmp l) := asmF_srt L l [] List.Pairwise.nil
theorem asmF_sum (L : Lin cmp R) (k : K) : ∀ (l a : List (K × Int)), sumOf cmp (asmF cmp a l) k = sumOf cmp a k + sumOf cmp l k
  | [], _ => by simp [asmF, sumOf]
  | x :: l, a => by
    show sumOf cmp (asmF cmp (ins cmp x a) l) k = _
    rw [asmF_sum L k l, ins_sum L x k a]
    simp only [sumOf]
    omega
theorem asm_sum (L : Lin cmp R) (l : List (K × Int)) (k : K) : sumOf cmp (asm cmp l) k = sumOf cmp l k := by
  unfold asm
  rw [asmF_sum L]
  simp [sumOf]
theorem asmF_keys : ∀ (l a : List (K × Int)) (y : K × Int), y ∈ asmF cmp a l → (∃ z ∈ l, z.1 = y.1) ∨ ∃ z ∈ a, z.1 = y.1
  | [], a, y, h => .inr ⟨y, h, rfl⟩
  | x :: l, a, y, h => by
    rcases asmF_keys l (ins cmp x a) y h with ⟨z, hz, e⟩ | ⟨z, hz, e⟩
    · exact .inl ⟨z, by simp [hz], e⟩
    · rcases ins_keys x a z hz with e' | ⟨u, hu, e'⟩
      · exact .inl ⟨x, by simp, by rw [← e', e]⟩
      · exact .inr ⟨u, hu, by rw [e', e]⟩
theorem asm_keys {l : List (K × Int)} {y : K × Int} (h : y ∈ asm cmp l) : ∃ z ∈ l, z.1 = y.1 := by
  rcases asmF_keys l [] y h with h | ⟨z, hz, _⟩
  · exact h
  · cases hz
theorem ins_skip (x : K × Int) : ∀ (a b : List (K × Int)), (∀ y ∈ a, cmp y.1 x.1 < 0) → ins cmp x (a ++ b) = a ++ ins cmp x b
  | [], _, _ => rfl
  | y :: a, b, h => by
    have h1 := h y (by simp)
    show ins cmp x (y :: (a ++ b)) = y :: (a ++ ins cmp x b)
    rw [show ins cmp x (y :: (a ++ b)) = if cmp y.1 x.1 = 0 then (y.1, y.2 + x.2) :: (a ++ b) else if cmp y.1 x.1 < 0 then y :: ins cmp x (a ++ b) else x :: y :: (a ++ b) from rfl, if_neg (by omega), if_pos h1, ins_skip x a b fun z hz => h z (by simp [hz])]
theorem asmF_skip : ∀ (l a b : List (K × Int)), (∀ y ∈ a, ∀ x ∈ l, cmp y.1 x.1 < 0) → asmF cmp (a ++ b) l = a ++ asmF cmp b l
  | [], _, _, _ => rfl
  | x :: l, a, b, h => by
    show asmF cmp (ins cmp x (a ++ b)) l = a ++ asmF cmp (ins cmp x b) l
    rw [ins_skip x a b fun y hy => h y hy x (by simp), asmF_skip l a _ fun y hy z hz => h y hy z (by simp [hz])]
theorem asm_append {t u : List (K × Int)} (h : ∀ x ∈ t, ∀ y ∈ u, cmp x.1 y.1 < 0) : asm cmp (t ++ u) = asm cmp t ++ asm cmp u := by
  unfold asm
  rw [show asmF cmp [] (t ++ u) = asmF cmp (asmF cmp [] t) u by unfold asmF; rw [List.foldl_append]]
  have := asmF_skip u (asmF cmp [] t) [] fun y hy x hx => by
    obtain ⟨z, hz, e⟩ := asm_keys (cmp := cmp) hy
    rw [← e]
    exact h z hz x hx
  rwa [List.append_nil] at this
theorem asm_one (L : Lin cmp R) (x : K × Int) : ∀ (l : List (K × Int)) (n : Int), (∀ y ∈ l, cmp x.1 y.1 = 0) → asmF cmp [(x.1, n)] l = [(x.1, n + (l.map (·.2)).sum)]
  | [], n, _ => by simp [asmF]
  | y :: l, n, h => by
    show asmF cmp (ins cmp y [(x.1, n)]) l = _
    have : ins cmp y [(x.1, n)] = [(x.1, n + y.2)] := by
      unfold ins
      rw [if_pos (h y (by simp))]
    rw [this, asm_one L x l _ fun z hz => h z (by simp [hz]), List.map_cons, List.sum_cons, Int.add_assoc]
theorem asm_group (L : Lin cmp R) (x : K × Int) (l : List (K × Int)) (h : ∀ y ∈ l, cmp x.1 y.1 = 0) : asm cmp (x :: l) = [(x.1, x.2 + (l.map (·.2)).sum)] := asm_one L x l x.2 h
theorem srt_ext (L : Lin cmp R) : ∀ (a b : List (K × Int)), Srt cmp a → Srt cmp b → (∀ x, x ∈ a ↔ x ∈ b) → a = b
  | [], [], _, _, _ => rfl
  | [], y :: b, _, _, h => absurd ((h y).2 (by simp)) (by simp)
  | x :: a, [], _, _, h => absurd ((h x).1 (by simp)) (by simp)
  | x :: a, y :: b, ha, hb, h => by
    unfold Srt at ha hb
    rw [List.pairwise_cons] at ha hb
    have hxy : x = y := by
      rcases List.mem_cons.1 ((h x).1 (by simp)) with e | h1
      · exact e
      · rcases List.mem_cons.1 ((h y).2 (by simp)) with e | h2
        · exact e.symm
        · have s1 := hb.1 x h1
          have s2 := ha.1 y h2
          have := L.swap x.1 y.1
          omega
    subst hxy
    have h0 : ∀ z : K × Int, z ∈ a → z ≠ x := fun z hz e => by subst e; have := ha.1 z hz; have := L.self z.1; omega
    have h1 : ∀ z : K × Int, z ∈ b → z ≠ x := fun z hz e => by subst e; have := hb.1 z hz; have := L.self z.1; omega
    rw [srt_ext L a b ha.2 hb.2 fun z => ⟨fun hz => by
      rcases List.mem_cons.1 ((h z).1 (by simp [hz])) with e | h2
      · exact absurd e (h0 z hz)
      · exact h2, fun hz => by
      rcases List.mem_cons.1 ((h z).2 (by simp [hz])) with e | h2
      · exact absurd e (h1 z hz)
      · exact h2⟩]
theorem srt_sum (L : Lin cmp R) : ∀ {l : List (K × Int)}, Srt cmp l → ∀ {x : K × Int}, x ∈ l → sumOf cmp l x.1 = x.2
  | [], _, _, h => by cases h
  | y :: l, hs, x, h => by
    unfold Srt at hs
    rw [List.pairwise_cons] at hs
    simp only [sumOf]
    rcases List.mem_cons.1 h with rfl | h
    · rw [if_pos (L.self _), sumOf_none fun z hz h0 => ?_]
      · omega
      · have := hs.1 z hz
        have := L.swap x.1 z.1
        omega
    · have h1 := hs.1 x h
      rw [if_neg (by omega), srt_sum L hs.2 h]
      omega
def nz (cmp : K → K → Int) (l : List (K × Int)) : List (K × Int) := (asm cmp l).filter fun x => x.2 != 0
def resE (cmp : K → K → Int) (l : List (K × Int)) : Int := if (asm cmp l).all (fun x => fits x.2) = true then 0 else 10
def resL (cmp : K → K → Int) (l : List (K × Int)) : List (K × Int) := if (asm cmp l).all (fun x => fits x.2) = true then nz cmp l else []
theorem nz_srt (L : Lin cmp R) (l : List (K × Int)) : Srt cmp (nz cmp l) := (asm_srt L l).filter _
theorem nz_mem (L : Lin cmp R) {l : List (K × Int)} (hR : ∀ x ∈ l, R x.1) (y : K × Int) : y ∈ nz cmp l ↔ R y.1 ∧ y.2 = sumOf cmp l y.1 ∧ y.2 ≠ 0 := by
  unfold nz
  rw [List.mem_filter]
  constructor
  · rintro ⟨h1, h2⟩
    obtain ⟨z, hz, e⟩ := asm_keys h1
    refine ⟨e ▸ hR z hz, ?_, by simpa using h2⟩
    rw [← asm_sum L, srt_sum L (asm_srt L l) h1]
  · rintro ⟨h1, h2, h3⟩
    obtain ⟨z, hz, h0⟩ := sumOf_some (cmp := cmp) (l := asm cmp l) (k := y.1) (by rw [asm_sum L, ← h2]; exact h3)
    obtain ⟨u, hu, e⟩ := asm_keys hz
    have hzk : z.1 = y.1 := (L.eq z.1 y.1 (e ▸ hR u hu) h1).1 h0
    have hzs := srt_sum L (asm_srt L l) hz
    rw [asm_sum L, hzk, ← h2] at hzs
    have : z = y := Prod.ext hzk hzs.symm
    exact ⟨this ▸ hz, by simpa using h3⟩
theorem fits0 : fits 0 = true := by decide
theorem fit_all (l : List (K × Int)) : (asm cmp l).all (fun x => fits x.2) = (nz cmp l).all (fun x => fits x.2) := by
  unfold nz
  rw [Bool.eq_iff_iff, List.all_eq_true, List.all_eq_true]
  constructor
  · intro h x hx
    exact h x (List.mem_filter.1 hx).1
  · intro h x hx
    by_cases h0 : x.2 = 0
    · rw [h0]; exact fits0
    · exact h x (List.mem_filter.2 ⟨hx, by simpa using h0⟩)
theorem nz_ext (L : Lin cmp R) {l m : List (K × Int)} (hl : ∀ x ∈ l, R x.1) (hm : ∀ x ∈ m, R x.1) (h : ∀ k, sumOf cmp l k = sumOf cmp m k) : nz cmp l = nz cmp m :=
  srt_ext L _ _ (nz_srt L l) (nz_srt L m) fun x => by rw [nz_mem L hl, nz_mem L hm, h]
theorem resL_ext (L : Lin cmp R) {l m : List (K × Int)} (hl : ∀ x ∈ l, R x.1) (hm : ∀ x ∈ m, R x.1) (h : ∀ k, sumOf cmp l k = sumOf cmp m k) : resL cmp l = resL cmp m ∧ resE cmp l = resE cmp m := by
  unfold resL resE
  rw [fit_all, fit_all, nz_ext L hl hm h]
  exact ⟨rfl, rfl⟩
theorem nz_keys {l : List (K × Int)} {y : K × Int} (h : y ∈ nz cmp l) : ∃ z ∈ l, z.1 = y.1 := asm_keys (List.mem_filter.1 h).1
theorem nz_right {l : List (K × Int)} (hl : ∀ x ∈ l, R x.1) : ∀ x ∈ nz cmp l, R x.1 := fun x hx => by
  obtain ⟨z, hz, e⟩ := nz_keys hx
  exact e ▸ hl z hz
theorem sumOf_filter (L : Lin cmp R) {l : List (K × Int)} (hs : Srt cmp l) (k : K) : sumOf cmp (l.filter fun x => x.2 != 0) k = sumOf cmp l k := by
  induction l with
  | nil => rfl
  | cons x l ih =>
    unfold Srt at hs
    rw [List.pairwise_cons] at hs
    have ih := ih hs.2
    rw [List.filter_cons]
    split
    · simp only [sumOf, ih]
    · rename_i h0
      have h0 : x.2 = 0 := by simpa using h0
      simp only [sumOf]
      rw [ih, h0]
      split <;> omega
theorem nz_sum (L : Lin cmp R) (l : List (K × Int)) (k : K) : sumOf cmp (nz cmp l) k = sumOf cmp l k := by
  unfold nz
  rw [sumOf_filter L (asm_srt L l), asm_sum L]
end
def Lies {α : Type} (size : Nat) (cells : α → List Value) (w : World) (B : Nat) (A : Option Addr) (l : List α) : Prop :=
  0 < l.length → ∃ b o, A = some ⟨b, o, none⟩ ∧ b < B ∧ ∀ (i : Nat) (x : α), l[i]? = some x → ∀ (j : Nat) (u : Value), (cells x)[j]? = some u → w.cell? ⟨b, o + i * size + j, none⟩ = some u
section
variable {α : Type} {size : Nat} {cells : α → List Value} {w w' : World} {B B' : Nat} {A : Option Addr} {l : List α}
theorem Lies.past (h : Lies size cells w B A l) (hb : Below B' w w') (hB : B ≤ B') : Lies size cells w' B A l := fun hn => by
  obtain ⟨b, o, e, hlt, hc⟩ := h hn
  exact ⟨b, o, e, hlt, fun i x hi j u hj => (hb.cell (p := ⟨b, o + i * size + j, none⟩) (show b < B' by omega)).trans (hc i x hi j u hj)⟩
theorem Lies.wide (h : Lies size cells w B A l) (hB : B ≤ B') : Lies size cells w B' A l := fun hn => by
  obtain ⟨b, o, e, hlt, hc⟩ := h hn
  exact ⟨b, o, e, by omega, hc⟩
theorem Lies.nil_ : Lies size cells w B A [] := fun h => absurd h (by simp)
theorem flat_size (hcl : ∀ x, (cells x).length = size) (l : List α) : (l.flatMap cells).length = l.length * size := by
  induction l with
  | nil => simp
  | cons x l ih => rw [List.flatMap_cons, List.length_append, ih, List.length_cons, hcl, Nat.add_mul]; omega
theorem flat_of (hcl : ∀ x, (cells x).length = size) : ∀ (l : List α) (i r : Nat) (x : α) (u : Value), l[i]? = some x → (cells x)[r]? = some u → (l.flatMap cells)[i * size + r]? = some u
  | [], i, r, x, u, h, _ => by simp at h
  | y :: l, 0, r, x, u, h, hu => by
    obtain rfl : y = x := by simpa using h
    have hr : r < (cells y).length := (List.getElem?_eq_some_iff.1 hu).1
    rw [List.flatMap_cons, Nat.zero_mul, Nat.zero_add, List.getElem?_append_left hr, hu]
  | y :: l, i + 1, r, x, u, h, hu => by
    have ih := flat_of hcl l i r x u (by simpa using h) hu
    rw [List.flatMap_cons, List.getElem?_append_right (by rw [hcl, Nat.add_mul]; omega), hcl, show (i + 1) * size + r - size = i * size + r by rw [Nat.add_mul]; omega]
    exact ih
theorem flat_back (hpos : 0 < size) (hcl : ∀ x, (cells x).length = size) (l : List α) (j : Nat) (u : Value) (h : (l.flatMap cells)[j]? = some u) : ∃ i r x, j = i * size + r ∧ l[i]? = some x ∧ (cells x)[r]? = some u := by
  have hj : j < l.length * size := by have := (List.getElem?_eq_some_iff.1 h).1; rwa [flat_size hcl] at this
  have hi : j / size < l.length := (Nat.div_lt_iff_lt_mul hpos).2 hj
  have hr : j % size < size := Nat.mod_lt _ hpos
  have hd : j = j / size * size + j % size := by rw [Nat.mul_comm]; exact (Nat.div_add_mod j size).symm
  have hc : j % size < (cells l[j / size]).length := by rw [hcl]; exact hr
  refine ⟨j / size, j % size, l[j / size], hd, List.getElem?_eq_getElem hi, ?_⟩
  have := flat_of hcl l (j / size) (j % size) l[j / size] _ (List.getElem?_eq_getElem hi) (List.getElem?_eq_getElem hc)
  rw [← hd, h] at this
  rw [List.getElem?_eq_getElem hc]
  exact this.symm
theorem lies_of_own {base n : Nat} {e : TypeId} {v : Value} (hpos : 0 < size) (hcl : ∀ x, (cells x).length = size) (hn : n = l.length) (h : w.ownsRow base e size v n (l.flatMap cells)) :
    ∃ A c, v = .slice A l.length c ∧ l.length ≤ c ∧ c ≤ maxLen ∧ Lies size cells w w.heap.size A l := by
  subst hn
  rcases h.2 with ⟨rfl, h0⟩ | ⟨g, cap, cur, rfl, hb, hg, h1, h2, h3, h4⟩
  · exact ⟨none, 0, by rw [h0], by omega, by omega, fun h => by omega⟩
  · refine ⟨_, cap, rfl, h1, h2, fun _ => ⟨g, 0, rfl, (Array.getElem?_eq_some_iff.1 hg).1, fun i x hi j u hj => ?_⟩⟩
    have hf := flat_of hcl l i j x u hi hj
    have hlt : i * size + j < l.length * size := by have := (List.getElem?_eq_some_iff.1 hf).1; rwa [flat_size hcl] at this
    rw [Nat.zero_add, h.cellAt _ hlt]
    exact hf
theorem run_append_none {P : Program} (w : World) (base : Nat) (t ty e : TypeId) (i : TypeInfo) (size : Nat) (ht : P.underlying t = some (.slice e)) (hi : P.info? e = some i) (v : Value) (n : Nat) (xs : List Value) (h : w.ownsRow base e size v n xs) (c : Nat) :
    (Builtin.append_ #[t, t] ty #[v, .slice none 0 c]).run P w = .ok v w := by
  rcases h.2 with ⟨rfl, _⟩ | ⟨g, cap, cur, rfl, _, _, hnc, _⟩
  · simp [Builtin.append_, run_underlying ht, typeInfo, hi, sizeOf, Builtin.firstCells, Builtin.lenOf]
  · simp [Builtin.append_, run_underlying ht, typeInfo, hi, sizeOf, Builtin.firstCells, Builtin.lenOf, storeCells, hnc]
theorem wpList_append_lies {P : Program} (w : World) {ops : Array Oper} {rest : List Oper} {o : Oper} {a : Act} {Q : Exit → Act → World → Prop} (hgd : o.guard = none) (s x : Operand) (t e : TypeId)
    (ho : o.op = .call { callee := .builtin .append, args := #[s, x], argTypes := #[t, t] })
    (i0 : TypeInfo) (z : Value) (bytes : Nat) (ht : P.underlying t = some (.slice e)) (hi : P.info? e = some i0) (hz0 : i0.zero = some z) (hz1 : i0.size = size) (hz2 : i0.bytes = bytes) (hzs : z.cells.size = size) (hpos : 0 < size) (hcl : ∀ x, (cells x).length = size) (hone : ∀ x, ∀ u ∈ cells x, u.oneCell' = true)
    (base : Nat) (v : Value) (n : Nat) (xs : List Value) (hs : a.eval s = v) (hown : w.ownsRow base e size v n xs)
    (c : Nat) (hx : a.eval x = .slice A l.length c) (hl : Lies size cells w B A l) (h63 : n + l.length ≤ maxLen) (hn : (n + l.length) * bytes ≤ 140737488355328) (hbase : base ≤ w.heap.size)
    (h : ∀ v' w', w'.ownsRow base e size v' (n + l.length) (xs ++ l.flatMap cells) → Below base w w' → wpList P ops Q rest (a.put o.dst v') w') :
    wpList P ops Q (o :: rest) a w := by
  refine wpList_plain hgd fun K hK => ?_
  obtain ⟨v', w', hrun, ho', hb⟩ : ∃ v' w', (Builtin.append_ #[t, t] o.type #[v, .slice A l.length c]).run P w = .ok v' w' ∧ w'.ownsRow base e size v' (n + l.length) (xs ++ l.flatMap cells) ∧ Below base w w' := by
    cases A with
    | none =>
      have h0 : l = [] := by
        cases l with
        | nil => rfl
        | cons x l => obtain ⟨_, _, e, _⟩ := hl (by simp); cases e
      subst h0
      exact ⟨v, w, run_append_none w base _ _ _ i0 size ht hi v n xs hown c, by simpa using hown, Below.refl _ _⟩
    | some ad =>
      have hnews : ∀ j u, (l.flatMap cells)[j]? = some u → w.cell? (ad.add j) = some u := by
        intro j u hu
        obtain ⟨i, r, y, rfl, hi, hr⟩ := flat_back hpos hcl l j u hu
        have hp : 0 < l.length := by have := (List.getElem?_eq_some_iff.1 hi).1; omega
        obtain ⟨b, o, e, _, hc⟩ := hl hp
        obtain rfl : ad = ⟨b, o, none⟩ := by injection e
        have ea : (⟨b, o, none⟩ : Addr).add (i * size + r) = ⟨b, o + i * size + r, none⟩ := by unfold Addr.add; split <;> simp_all <;> omega
        rw [ea]
        exact hc i y hi r u hr
      obtain ⟨v', w', hr, h2, h3, _, _⟩ := run_append_own_at (P := P) w base t o.type e i0 _ size bytes ht hi hz0 hz1 hz2 hzs hpos v n xs hown ad l.length c (l.flatMap cells) (flat_size hcl l) hnews
        (fun u hu => by obtain ⟨y, _, hy⟩ := List.mem_flatMap.1 hu; exact hone y u hy) h63 hn hbase
      exact ⟨v', w', hr, h2, (Below.refl base w).grown h3 hbase (fun k hk => (hown.lt k hk).1)⟩
  unfold Oper.wp execOp
  simp only [ho, resolve, invoke, builtin, Sem.run_bind, Sem.run_pure, Result.andThen_ok, List.map_toArray, List.map_cons, List.map_nil, hs, hx, hrun]
  exact hK _ _ (h v' w' ho' hb)
theorem step_append_lies {P : Program} (w : World) {ops : Array Oper} {o : Oper} {a : Act} {K : Act → World → Prop} {Q : Exit → Act → World → Prop} {E : Prop} (hgd : o.guard = none) (s x : Operand) (t e : TypeId)
    (ho : o.op = .call { callee := .builtin .append, args := #[s, x], argTypes := #[t, t] })
    (i0 : TypeInfo) (z : Value) (bytes : Nat) (ht : P.underlying t = some (.slice e)) (hi : P.info? e = some i0) (hz0 : i0.zero = some z) (hz1 : i0.size = size) (hz2 : i0.bytes = bytes) (hzs : z.cells.size = size) (hpos : 0 < size) (hcl : ∀ x, (cells x).length = size) (hone : ∀ x, ∀ u ∈ cells x, u.oneCell' = true)
    (base : Nat) (v : Value) (n : Nat) (xs : List Value) (hs : a.eval s = v) (hown : w.ownsRow base e size v n xs)
    (c : Nat) (b off : Nat) (hx : a.eval x = .slice (some ⟨b, off, none⟩) l.length c) (hl : Lies size cells w B (some ⟨b, off, none⟩) l) (h63 : n + l.length ≤ maxLen) (hn : (n + l.length) * bytes ≤ 140737488355328) (hbase : base ≤ w.heap.size)
    (h : ∀ v' w', w'.ownsRow base e size v' (n + l.length) (xs ++ l.flatMap cells) → Below base w w' → (v'.ownBlock = v.ownBlock ∨ v'.ownBlock = some w.heap.size) → w.grownBy w' v.ownBlock → K (a.put o.dst v') w') :
    if Region.wanted o (yielded ops a.tmps) = true then Oper.wp P o a w K Q else E := by
  have hw : Region.wanted o (yielded ops a.tmps) = true := by simp [Region.wanted, hgd]
  rw [if_pos hw]
  have hnews : ∀ j u, (l.flatMap cells)[j]? = some u → w.cell? ((⟨b, off, none⟩ : Addr).add j) = some u := by
    intro j u hu
    obtain ⟨i, r, y, rfl, hi, hr⟩ := flat_back hpos hcl l j u hu
    have hp : 0 < l.length := by have := (List.getElem?_eq_some_iff.1 hi).1; omega
    obtain ⟨b', o', e, _, hc⟩ := hl hp
    simp only [Option.some.injEq, Addr.mk.injEq, and_true] at e
    obtain ⟨rfl, rfl⟩ := e
    have ea : (⟨b, off, none⟩ : Addr).add (i * size + r) = ⟨b, off + i * size + r, none⟩ := by unfold Addr.add; split <;> simp_all <;> omega
    rw [ea]
    exact hc i y hi r u hr
  obtain ⟨v', w', hrun, h2, h3, _, h5⟩ := run_append_own_at (P := P) w base t o.type e i0 _ size bytes ht hi hz0 hz1 hz2 hzs hpos v n xs hown ⟨b, off, none⟩ l.length c (l.flatMap cells) (flat_size hcl l) hnews
    (fun u hu => by obtain ⟨y, _, hy⟩ := List.mem_flatMap.1 hu; exact hone y u hy) h63 hn hbase
  unfold Oper.wp execOp
  simp only [ho, resolve, invoke, builtin, Sem.run_bind, Sem.run_pure, Result.andThen_ok, List.map_toArray, List.map_cons, List.map_nil, hs, hx, hrun]
  exact h v' w' h2 ((Below.refl base w).grown h3 hbase (fun k hk => (hown.lt k hk).1)) h5 h3
end
structure Up where
  kA : Option Addr
  kc : Nat
  key : List Vl
  rA : Option Addr
  rc : Nat
  row : List Vl
  t : Tm
  d : Int
instance : Inhabited Up := ⟨⟨none, 0, [], none, 0, [], ⟨0, 0, 0⟩, 0⟩⟩
structure Uk where
  key : List Vl
  row : List Vl
  t : Tm
namespace Up
def cells (u : Up) : List Value := [.slice u.kA u.key.length u.kc, .slice u.rA u.row.length u.rc, .int .u64 (u.t.e : Int), .int .u64 (u.t.a : Int), .int .u64 (u.t.b : Int), .int .i64 u.d]
def val (u : Up) : Value := .agg #[.slice u.kA u.key.length u.kc, .slice u.rA u.row.length u.rc, .int .u64 (u.t.e : Int), .int .u64 (u.t.a : Int), .int .u64 (u.t.b : Int), .int .i64 u.d]
def k (u : Up) : Uk := ⟨u.key, u.row, u.t⟩
def p (u : Up) : Uk × Int := (u.k, u.d)
end Up
theorem ucells_len (u : Up) : u.cells.length = 6 := rfl
theorem ucells_one (u : Up) : ∀ v ∈ u.cells, v.oneCell' = true := by
  intro v hv
  simp only [Up.cells, List.mem_cons, List.not_mem_nil, or_false] at hv
  rcases hv with rfl | rfl | rfl | rfl | rfl | rfl <;> rfl
def Uk.cmp (a b : Uk) : Int := if cmpRows a.key b.key = 0 then (if cmpRows a.row b.row = 0 then a.t.cmp b.t else cmpRows a.row b.row) else cmpRows a.key b.key
def chkK (u : Uk) : Int := orI (chkRow u.key) (orI (chkRow u.row) (chk [u.t]))
def chkU (u : Up) : Int := chkK u.k
def chkUs : List Up → Int
  | [] => 0
  | u :: l => if chkU u = 0 then chkUs l else chkU u
theorem chkUs_take {l : List Up} {k : Nat} {u : Up} (h : l[k]? = some u) (h0 : chkUs (l.take k) = 0) : chkUs (l.take (k + 1)) = chkU u := by
  induction l generalizing k with
  | nil => simp at h
  | cons x l ih =>
    cases k with
    | zero =>
      obtain rfl : x = u := by simpa using h
      simp only [List.take_succ_cons, List.take_zero, chkUs]
      split <;> simp [*]
    | succ k =>
      simp only [List.take_succ_cons, chkUs] at h0 ⊢
      split at h0
      · rename_i hx
        rw [if_pos hx]
        exact ih (by simpa using h) h0
      · rename_i hx; exact absurd h0 hx
theorem chkUs_bad {l : List Up} {k : Nat} {u : Up} (h : l[k]? = some u) (h0 : chkUs (l.take k) = 0) (hu : chkU u ≠ 0) : chkUs l = chkU u := by
  induction l generalizing k with
  | nil => simp at h
  | cons x l ih =>
    cases k with
    | zero =>
      obtain rfl : x = u := by simpa using h
      simp only [chkUs]
      rw [if_neg hu]
    | succ k =>
      simp only [List.take_succ_cons, chkUs] at h0 ⊢
      split at h0
      · rename_i hx
        rw [if_pos hx]
        exact ih (by simpa using h) h0
      · rename_i hx; exact absurd h0 hx
theorem chkUs_all {l : List Up} : chkUs l = 0 ↔ ∀ u ∈ l, chkU u = 0 := by
  induction l with
  | nil => simp [chkUs]
  | cons x l ih =>
    simp only [chkUs]
    by_cases hx : chkU x = 0
    · rw [if_pos hx, ih]; simp [hx]
    · rw [if_neg hx]
      constructor
      · intro h; exact absurd h hx
      · intro h; exact h x (by simp)
theorem chkRow_zero {l : List Vl} (h : chkRow l = 0) : l.all Vl.right = true ∧ l.length ≤ 8 := by
  unfold chkRow at h
  split at h
  · rename_i h1
    rw [Bool.and_eq_true] at h1
    exact ⟨h1.1, by simpa using h1.2⟩
  · omega
theorem chkK_zero {u : Uk} (h : chkK u = 0) : chkRow u.key = 0 ∧ chkRow u.row = 0 ∧ chk [u.t] = 0 := by
  unfold chkK orI at h
  split at h
  · rename_i h1
    split at h
    · rename_i h2; exact ⟨h1, h2, h⟩
    · rename_i h2; exact absurd h h2
  · rename_i h1; exact absurd h h1
theorem tm_zero {s t : Tm} : s.cmp t = 0 ↔ s = t := by
  have h : ∀ x y, Tm.cmpN x y = 0 ↔ x = y := fun x y => by unfold Tm.cmpN; repeat' split
                                                           all_goals omega
  obtain ⟨a, b, c⟩ := s
  obtain ⟨x, y, z⟩ := t
  unfold Tm.cmp
  dsimp only
  simp only [Tm.mk.injEq]
  by_cases h1 : a = x
  · by_cases h2 : b = y
    · simp [h1, h2, h]
    · simp [h1, h2, h]
  · simp [h1, h]
theorem tm_swap (s t : Tm) : t.cmp s = - s.cmp t := by
  unfold Tm.cmp Tm.cmpN
  by_cases h1 : s.e = t.e
  · by_cases h2 : s.a = t.a
    · simp only [h1, h2, ne_eq, not_true_eq_false, if_false]
      repeat' split
      all_goals omega
    · simp only [h1, h2, fun h : t.a = s.a => h2 h.symm, ne_eq, not_true_eq_false, not_false_eq_true, if_false, if_true]
      repeat' split
      all_goals omega
  · simp only [h1, fun h : t.e = s.e => h1 h.symm, ne_eq, not_false_eq_true, if_true]
    repeat' split
    all_goals omega
theorem tm_lt {s t : Tm} : s.cmp t < 0 ↔ s.e < t.e ∨ (s.e = t.e ∧ (s.a < t.a ∨ (s.a = t.a ∧ s.b < t.b))) := by
  unfold Tm.cmp Tm.cmpN
  repeat' split
  all_goals omega
theorem tm_le {s t : Tm} : s.cmp t ≤ 0 ↔ s.e < t.e ∨ (s.e = t.e ∧ (s.a < t.a ∨ (s.a = t.a ∧ s.b ≤ t.b))) := by
  unfold Tm.cmp Tm.cmpN
  repeat' split
  all_goals omega
theorem tm_trans (a b c : Tm) (h : a.cmp b ≤ 0) (k : b.cmp c ≤ 0) : a.cmp c ≤ 0 ∧ (a.cmp b < 0 ∨ b.cmp c < 0 → a.cmp c < 0) := by
  rw [tm_le] at *
  rw [tm_lt, tm_lt, tm_lt]
  omega
theorem lex_le {x y z p q r : Int} (h : (if x = 0 then p else x) ≤ 0) (k : (if y = 0 then q else y) ≤ 0) (h1 : x ≤ 0 → y ≤ 0 → z ≤ 0 ∧ (x < 0 ∨ y < 0 → z < 0)) (h0 : x = 0 → y = 0 → z = 0) (h2 : p ≤ 0 → q ≤ 0 → r ≤ 0 ∧ (p < 0 ∨ q < 0 → r < 0)) :
    (if z = 0 then r else z) ≤ 0 ∧ ((if x = 0 then p else x) < 0 ∨ (if y = 0 then q else y) < 0 → (if z = 0 then r else z) < 0) := by
  by_cases hx : x = 0
  · rw [if_pos hx] at *
    by_cases hy : y = 0
    · rw [if_pos hy] at *
      rw [if_pos (h0 hx hy)]
      exact h2 h k
    · rw [if_neg hy] at *
      have := (h1 (by omega) k).2 (.inr (by omega))
      rw [if_neg (by omega)]
      exact ⟨by omega, fun _ => this⟩
  · rw [if_neg hx] at *
    have hy : y ≤ 0 := by split at k <;> omega
    have := (h1 h hy).2 (.inl (by omega))
    rw [if_neg (by omega)]
    exact ⟨by omega, fun _ => this⟩
theorem rows_zero {a b c : List Vl} (h : cmpRows a b = 0) (k : cmpRows b c = 0) : cmpRows a c = 0 := by
  have h1 := (cmpRows_le a b c (by omega) (by omega)).1
  have h2 := (cmpRows_le c b a (by rw [cmpRows_swap]; omega) (by rw [cmpRows_swap]; omega)).1
  rw [cmpRows_swap a c] at h2
  omega
def UkR (u : Uk) : Prop := chkK u = 0
theorem uk_lin : Lin Uk.cmp UkR where
  swap a b := by
    unfold Uk.cmp
    rw [cmpRows_swap a.key b.key, cmpRows_swap a.row b.row, tm_swap a.t b.t]
    by_cases h1 : cmpRows a.key b.key = 0
    · by_cases h2 : cmpRows a.row b.row = 0
      · simp [h1, h2]
      · rw [if_pos (by omega), if_neg (by omega), if_pos h1, if_neg h2]
    · rw [if_neg (by omega), if_neg h1]
  le a b c h k := by
    unfold Uk.cmp at *
    refine lex_le h k (cmpRows_le a.key b.key c.key) rows_zero fun h k => ?_
    exact lex_le h k (cmpRows_le a.row b.row c.row) rows_zero (tm_trans a.t b.t c.t)
  eq a b ha hb := by
    obtain ⟨a1, a2, _⟩ := chkK_zero ha
    obtain ⟨b1, b2, _⟩ := chkK_zero hb
    have e1 := cmpRows_right (chkRow_zero a1).1 (chkRow_zero b1).1
    have e2 := cmpRows_right (chkRow_zero a2).1 (chkRow_zero b2).1
    obtain ⟨ak, ar, at_⟩ := a
    obtain ⟨bk, br, bt⟩ := b
    unfold Uk.cmp
    dsimp only at *
    simp only [Uk.mk.injEq]
    by_cases h1 : cmpRows ak bk = 0
    · by_cases h2 : cmpRows ar br = 0
      · rw [if_pos h1, if_pos h2, tm_zero]
        exact ⟨fun h => ⟨e1.1 h1, e2.1 h2, h⟩, fun h => h.2.2⟩
      · rw [if_pos h1, if_neg h2]
        exact ⟨fun h => absurd h h2, fun h => absurd (e2.2 h.2.1) h2⟩
    · rw [if_neg h1]
      exact ⟨fun h => absurd h h1, fun h => absurd (e1.2 h.1) h1⟩
structure UIn (w : World) (B : Nat) (u : Up) : Prop where
  key : Vals w B u.kA u.key
  row : Vals w B u.rA u.row
theorem UIn.past {w w' : World} {B B' : Nat} {u : Up} (h : UIn w B u) (hb : Below B' w w') (hB : B ≤ B') : UIn w' B u := ⟨h.key.past hb hB, h.row.past hb hB⟩
theorem UIn.wide {w : World} {B B' : Nat} {u : Up} (h : UIn w B u) (hB : B ≤ B') : UIn w B' u := ⟨h.key.wide hB, h.row.wide hB⟩
theorem UIn.keep {w w' : World} {u : Up} (h : UIn w w.heap.size u) (hb : Below w.heap.size w w') : UIn w' w'.heap.size u := (h.past hb (Nat.le_refl _)).wide hb.size
structure UOk (u : Up) : Prop where
  kn : u.key.length ≤ 140737488351232
  rn : u.row.length ≤ 140737488351232
  ks : ∀ v ∈ u.key, VOk v
  rs : ∀ v ∈ u.row, VOk v
  dn : -9223372036854775808 ≤ u.d ∧ u.d ≤ 9223372036854775807
structure Ups (w : World) (B : Nat) (A : Option Addr) (l : List Up) : Prop where
  head : Lies 6 Up.cells w B A l
  each_ : ∀ u ∈ l, UIn w B u
theorem Ups.past {w w' : World} {B B' : Nat} {A : Option Addr} {l : List Up} (h : Ups w B A l) (hb : Below B' w w') (hB : B ≤ B') : Ups w' B A l := ⟨h.head.past hb hB, fun u hu => (h.each_ u hu).past hb hB⟩
theorem Ups.wide {w : World} {B B' : Nat} {A : Option Addr} {l : List Up} (h : Ups w B A l) (hB : B ≤ B') : Ups w B' A l := ⟨h.head.wide hB, fun u hu => (h.each_ u hu).wide hB⟩
theorem Ups.keep {w w' : World} {A : Option Addr} {l : List Up} (h : Ups w w.heap.size A l) (hb : Below w.heap.size w w') : Ups w' w'.heap.size A l := (h.past hb (Nat.le_refl _)).wide hb.size
def UAt (w : World) (b o : Nat) (u : Up) : Prop := ∀ (j : Nat) (v : Value), u.cells[j]? = some v → w.cell? ⟨b, o + j, none⟩ = some v
theorem UAt.six {w : World} {b o : Nat} {u : Up} (h : UAt w b o u) :
    w.cell? ⟨b, o, none⟩ = some (.slice u.kA u.key.length u.kc) ∧ w.cell? ⟨b, o + 1, none⟩ = some (.slice u.rA u.row.length u.rc) ∧ w.cell? ⟨b, o + 2, none⟩ = some (.int .u64 (u.t.e : Int)) ∧
      w.cell? ⟨b, o + 3, none⟩ = some (.int .u64 (u.t.a : Int)) ∧ w.cell? ⟨b, o + 4, none⟩ = some (.int .u64 (u.t.b : Int)) ∧ w.cell? ⟨b, o + 5, none⟩ = some (.int .i64 u.d) :=
  ⟨h 0 _ rfl, h 1 _ rfl, h 2 _ rfl, h 3 _ rfl, h 4 _ rfl, h 5 _ rfl⟩
theorem UAt.past_ {w w' : World} {B b o : Nat} {u : Up} (h : UAt w b o u) (hb : Below B w w') (hB : b < B) : UAt w' b o u := fun j v hj => (hb.cell (p := ⟨b, o + j, none⟩) hB).trans (h j v hj)
theorem lies_up {w : World} {B : Nat} {A : Option Addr} {l : List Up} (h : Lies 6 Up.cells w B A l) (hp : 0 < l.length) :
    ∃ b o, A = some ⟨b, o, none⟩ ∧ b < B ∧ ∀ (i : Nat) (x : Up), l[i]? = some x → UAt w b (o + i * 6) x := by
  obtain ⟨b, o, e, hb, hc⟩ := h hp
  exact ⟨b, o, e, hb, fun i x hi j u hj => hc i x hi j u hj⟩
theorem own6 {w : World} {P : Nat} {t : TypeId} {a0 a1 a2 a3 a4 a5 : Value} (h : Own w P t [a0, a1, a2, a3, a4, a5]) :
    w.cell? ⟨P, 0, none⟩ = some a0 ∧ w.cell? ⟨P, 1, none⟩ = some a1 ∧ w.cell? ⟨P, 2, none⟩ = some a2 ∧ w.cell? ⟨P, 3, none⟩ = some a3 ∧ w.cell? ⟨P, 4, none⟩ = some a4 ∧ w.cell? ⟨P, 5, none⟩ = some a5 :=
  ⟨h.at_ 0, h.at_ 1, h.at_ 2, h.at_ 3, h.at_ 4, h.at_ 5⟩
theorem upbox (w : World) (u : Up) : ∃ W, W = w.alloc (.cells #[.slice u.kA u.key.length u.kc, .slice u.rA u.row.length u.rc, .int .u64 (u.t.e : Int), .int .u64 (u.t.a : Int), .int .u64 (u.t.b : Int), .int .i64 u.d] 49) ∧
    Below w.heap.size w W ∧ W.heap.size = w.heap.size + 1 ∧ Own W w.heap.size 49 u.cells :=
  ⟨_, rfl, (Below.refl _ _).alloc (Nat.le_refl _) _, by simp, Own.made w 49 u.cells⟩
end Go.Proofs.YtjffohpdjicfpaaGreat
namespace Go.Proofs.YtjffohpdjicfpaaGreat
open Go Go.RowKit Go.Sort
theorem two_box (w : World) (a b : Up) : ∃ W, W = (w.alloc (.cells #[.slice a.kA a.key.length a.kc, .slice a.rA a.row.length a.rc, .int .u64 (a.t.e : Int), .int .u64 (a.t.a : Int), .int .u64 (a.t.b : Int), .int .i64 a.d] 49)).alloc (.cells #[.slice b.kA b.key.length b.kc, .slice b.rA b.row.length b.rc, .int .u64 (b.t.e : Int), .int .u64 (b.t.a : Int), .int .u64 (b.t.b : Int), .int .i64 b.d] 49) ∧ Gr w W ∧ Own W w.heap.size 49 a.cells ∧ Own W (w.heap.size + 1) 49 b.cells := by
  refine ⟨_, rfl, Gr.two w _ _, (Own.made w 49 a.cells).more _, ?_⟩
  have := Own.made (w.alloc (.cells #[.slice a.kA a.key.length a.kc, .slice a.rA a.row.length a.rc, .int .u64 (a.t.e : Int), .int .u64 (a.t.a : Int), .int .u64 (a.t.b : Int), .int .i64 a.d] 49)) 49 b.cells
  rw [show (w.alloc (.cells #[.slice a.kA a.key.length a.kc, .slice a.rA a.row.length a.rc, .int .u64 (a.t.e : Int), .int .u64 (a.t.a : Int), .int .u64 (a.t.b : Int), .int .i64 a.d] 49)).heap.size = w.heap.size + 1 by simp] at this
  exact this
theorem maxn {n : Nat} (h : n ≤ 140737488351232) : n ≤ maxLen := by unfold maxLen; omega
set_option maxRecDepth 100000 in
set_option maxHeartbeats 3200000 in
theorem dcompare_gr (a b : Up) (w : World) (ha : UIn w w.heap.size a) (hb : UIn w w.heap.size b) (oa : UOk a) (ob : UOk b) :
    Calls Tryz.prog 34 #[a.val, b.val] w fun e w' => e = .returned (.int .i64 (a.k.cmp b.k)) ∧ Gr w w' := by
  have y1 := fun W h1 h2 => Lib.hid (rows_gr a.kA b.kA a.kc b.kc a.key b.key W h1 h2 (maxn oa.kn) (maxn ob.kn))
  have y2 := fun W h1 h2 => Lib.hid (rows_gr a.rA b.rA a.rc b.rc a.row b.row W h1 h2 (maxn oa.rn) (maxn ob.rn))
  have y3 := fun W => Lib.hid (compare_grows a.t b.t W)
  have hc := Lib.hid (show a.k.cmp b.k = if cmpRows a.key b.key = 0 then (if cmpRows a.row b.row = 0 then a.t.cmp b.t else cmpRows a.row b.row) else cmpRows a.key b.key from rfl)
  obtain ⟨W, hW, hg, o1, o2⟩ := two_box w a b
  have HB := Lib.hid (And.intro hg (And.intro o1 (And.intro o2 (And.intro (ha.keep hg.below) (hb.keep hg.below)))))
  obtain ⟨a0, a1, a2, a3, a4, a5⟩ := own6 o1
  obtain ⟨b0, b1, b2, b3, b4, b5⟩ := own6 o2
  generalize cmpRows a.key b.key = x at *
  generalize cmpRows a.row b.row = y at *
  generalize a.t.cmp b.t = z at *
  unfold Tm.val at y3
  have hav : a.val = .agg #[.slice a.kA a.key.length a.kc, .slice a.rA a.row.length a.rc, .int .u64 (a.t.e : Int), .int .u64 (a.t.a : Int), .int .u64 (a.t.b : Int), .int .i64 a.d] := rfl
  have hbv : b.val = .agg #[.slice b.kA b.key.length b.kc, .slice b.rA b.row.length b.rc, .int .u64 (b.t.e : Int), .int .u64 (b.t.a : Int), .int .u64 (b.t.b : Int), .int .i64 b.d] := rfl
  rw [hav, hbv]
  clear hav hbv ha hb oa ob hg o1 o2
  go_enter Tryz.func34, Tryz.ntmps34
  go_upto_region 1 with fail
  rw [← hW]
  clear hW
  go_wp2_with fail
  refine (y1 _ HB.out.2.2.2.1.key HB.out.2.2.2.2.key).out.mono ?_
  rintro _ w1 ⟨rfl, g1⟩
  have H1 := Lib.hid (And.intro (HB.out.1.trans g1) (And.intro (HB.out.2.1.past g1.below HB.out.2.1.inside) (And.intro (HB.out.2.2.1.past g1.below HB.out.2.2.1.inside) (And.intro (HB.out.2.2.2.1.keep g1.below) (HB.out.2.2.2.2.keep g1.below)))))
  clear g1 a0 a1 a2 a3 a4 a5 b0 b1 b2 b3 b4 b5 y1
  obtain ⟨a0, a1, a2, a3, a4, a5⟩ := own6 H1.out.2.1
  obtain ⟨b0, b1, b2, b3, b4, b5⟩ := own6 H1.out.2.2.1
  by_cases hx : x = 0
  case neg =>
    have t1 : (x == 0) = false := beq_eq_false_iff_ne.2 hx
    rw [if_neg hx] at hc
    clear hx
    go_wp2_with fail
    go_ret
    exact ⟨ret_i64 hc.out.symm, H1.out.1⟩
  rw [if_pos hx] at hc
  subst hx
  go_wp2_with fail
  refine (y2 _ H1.out.2.2.2.1.row H1.out.2.2.2.2.row).out.mono ?_
  rintro _ w2 ⟨rfl, g2⟩
  have H2 := Lib.hid (And.intro (H1.out.1.trans g2) (And.intro (H1.out.2.1.past g2.below H1.out.2.1.inside) (H1.out.2.2.1.past g2.below H1.out.2.2.1.inside)))
  clear g2 a0 a1 a2 a3 a4 a5 b0 b1 b2 b3 b4 b5 y2
  obtain ⟨a0, a1, a2, a3, a4, a5⟩ := own6 H2.out.2.1
  obtain ⟨b0, b1, b2, b3, b4, b5⟩ := own6 H2.out.2.2
  by_cases hy : y = 0
  case neg =>
    have t1 : (y == 0) = false := beq_eq_false_iff_ne.2 hy
    rw [if_neg hy] at hc
    clear hy
    go_wp2_with fail
    go_ret
    exact ⟨ret_i64 hc.out.symm, H2.out.1⟩
  rw [if_pos hy] at hc
  subst hy
  go_wp2_with fail
  refine (y3 _).out.mono ?_
  rintro _ w3 ⟨rfl, g3⟩
  have H3 := Lib.hid (H2.out.1.trans g3)
  clear g3 a0 a1 a2 a3 a4 a5 b0 b1 b2 b3 b4 b5 y3
  go_wp2_with fail
  go_ret
  exact ⟨ret_i64 hc.out.symm, H3.out⟩
end Go.Proofs.YtjffohpdjicfpaaGreat
namespace Go.Proofs.YtjffohpdjicfpaaGreat
open Go Go.RowKit
set_option maxRecDepth 100000 in
set_option maxHeartbeats 800000 in
theorem orE_any (g : Nat) (x y z : Int) (w : World) (h0 : w.cell? ⟨g, 0, none⟩ = some (.int .i64 x)) (h1 : w.cell? ⟨g, 1, none⟩ = some (.int .i64 y)) (h2 : w.cell? ⟨g, 2, none⟩ = some (.int .i64 z)) :
    Calls Tryz.prog 19 #[.slice (some ⟨g, 0, none⟩) 3 3] w fun e w' => e = .returned (.int .i64 (orI x (orI y z))) ∧ w = w' := by
  go_enter Tryz.func19, Tryz.ntmps19
  go_wp2_with fail
  go_rounds 4
  all_goals
    go_ret
    refine ⟨ret_i64 ?_, rfl⟩
    unfold orI
    simp_all
theorem times_made (w : World) (t : Tm) : Times (w.alloc (.cells #[.int .u64 (t.e : Int), .int .u64 (t.a : Int), .int .u64 (t.b : Int)] 26)) (w.alloc (.cells #[.int .u64 (t.e : Int), .int .u64 (t.a : Int), .int .u64 (t.b : Int)] 26)).heap.size (some ⟨w.heap.size, 0, none⟩) [t] := fun _ => by
  have ho := Own.made w 26 t.cells
  refine ⟨w.heap.size, 0, rfl, by simp, fun i x hx => ?_⟩
  match i, hx with
  | 0, hx =>
    obtain rfl : t = x := by simpa using hx
    exact ⟨ho.at_ 0, ho.at_ 1, ho.at_ 2⟩
theorem times_made_drew (w : World) (t : Tm) : Times (w.alloc (.cells #[.int .u64 (t.e : Int), .int .u64 (t.a : Int), .int .u64 (t.b : Int)] 26)).drew (w.alloc (.cells #[.int .u64 (t.e : Int), .int .u64 (t.a : Int), .int .u64 (t.b : Int)] 26)).drew.heap.size (some ⟨w.heap.size, 0, none⟩) [t] := times_made w t
theorem tms_keep {a b : World} {A : Option Addr} {l : List Tm} (h : Times a a.heap.size A l) (hb : Below a.heap.size a b) : Times b b.heap.size A l := (h.past hb (Nat.le_refl _)).wide hb.size
def Bl (V w : World) : Prop := Below V.heap.size V w
theorem Bl.refl (V : World) : Bl V V := Below.refl _ _
theorem Bl.more {V w : World} (h : Bl V w) (o : Obj) : Bl V (w.alloc o) := h.alloc h.size o
theorem Bl.drew {V w : World} (h : Bl V w) : Bl V w.drew := Below.drew h
theorem Bl.call {V a b : World} (h : Bl V a) (k : Below a.heap.size a b) : Bl V b := belows h k
theorem Bl.below {V w : World} (h : Bl V w) : Below V.heap.size V w := h
set_option maxRecDepth 100000 in
set_option maxHeartbeats 6400000 in
theorem dcheck_any (A : Option Addr) (c : Nat) (l : List Up) (w : World) (hl : Ups w w.heap.size A l) (hn : l.length ≤ 140737488351232) (hk : ∀ u ∈ l, UOk u) :
    Calls Tryz.prog 20 #[.slice A l.length c] w fun x w' => x = .returned (.int .i64 (chkUs l)) ∧ Below w.heap.size w w' := by
  have HL := Lib.hid (And.intro hl hk)
  clear hl hk
  go_enter Tryz.func20, Tryz.ntmps20
  go_wp2_with fail
  go_loopw [8] (fun i wr => ∃ k : Nat, i = .int .i64 (k : Int) ∧ k ≤ l.length ∧ Below w.heap.size w wr ∧ chkUs (l.take k) = 0) (fun i _ => l.length - (intOf i).toNat)
  case atStart => exact ⟨0, rfl, by omega, Below.refl _ _, rfl⟩
  case round =>
    obtain ⟨k, rfl, hk, hb, h0⟩ := hrel
    by_cases hlt : k < l.length
    · have hx : l[k]? = some l[k] := List.getElem?_eq_getElem hlt
      have hmem := List.mem_of_getElem? hx
      obtain ⟨b, o, rfl, hB, hxs⟩ := lies_up HL.out.1.head (by omega)
      have hxa := (hxs k _ hx).past_ hb hB
      have hin := (HL.out.1.each_ _ hmem).past hb (Nat.le_refl _)
      have hok := HL.out.2 _ hmem
      have hnx := chkUs_take hx h0
      have hbad := fun h => chkUs_bad hx h0 h
      generalize l[k] = u at *
      obtain ⟨c0, c1, c2, c3, c4, c5⟩ := hxa.six
      obtain ⟨V, hV, hvb, hvs, hvo⟩ := upbox wr u
      have hin2 := (hin.wide hb.size).keep hvb
      have HV := Lib.hid (And.intro (hb.trans (hvb.mono hb.size)) (And.intro hvo (And.intro hnx hbad)))
      have x1 := fun W (h : Bl V W) => Lib.hid (vcheck_any u.kA u.kc u.key W (hin2.keep h).key (maxn hok.kn) (fun v hv => (hok.ks v hv).1))
      have x2 := fun W (h : Bl V W) => Lib.hid (vcheck_any u.rA u.rc u.row W (hin2.keep h).row (maxn hok.rn) (fun v hv => (hok.rs v hv).1))
      have x3 : ∀ W g, Times W W.heap.size (some ⟨g, 0, none⟩) [u.t] → Hid (Calls Tryz.prog 41 #[.slice (some ⟨g, 0, none⟩) 1 1] W fun e w' => e = .returned (.int .i64 (chk [u.t])) ∧ Below W.heap.size W w') := fun W g h => Lib.hid (check_any (some ⟨g, 0, none⟩) 1 [u.t] W h (by unfold maxLen; simp))
      have x4 := fun W g h1 h2 h3 => Lib.hid (orE_any g (chkRow u.key) (chkRow u.row) (chk [u.t]) W h1 h2 h3)
      have hcu := Lib.hid (show chkU u = orI (chkRow u.key) (orI (chkRow u.row) (chk [u.t])) from rfl)
      have HS := Lib.hid (fun W (h : Bl V W) => let k := own6 (hvo.past h hvo.inside); (⟨k.1, k.2.1, k.2.2.1, k.2.2.2.1, k.2.2.2.2.1⟩ : W.cell? ⟨wr.heap.size, 0, none⟩ = some (.slice u.kA u.key.length u.kc) ∧ W.cell? ⟨wr.heap.size, 1, none⟩ = some (.slice u.rA u.row.length u.rc) ∧ W.cell? ⟨wr.heap.size, 2, none⟩ = some (.int .u64 (u.t.e : Int)) ∧ W.cell? ⟨wr.heap.size, 3, none⟩ = some (.int .u64 (u.t.a : Int)) ∧ W.cell? ⟨wr.heap.size, 4, none⟩ = some (.int .u64 (u.t.b : Int))))
      have hself := Bl.refl V
      obtain ⟨d0, d1, d2, d3, d4, d5⟩ := own6 hvo
      have q0 : (0 : Int) ≤ (k : Int) := by omega
      have q1 : (k : Int) < (l.length : Int) := by omega
      have htm := Lib.hid (fun W => times_made W u.t)
      have htd := Lib.hid (fun W => times_made_drew W u.t)
      clear hx hmem hxs hxa hin hok hnx hbad hvb hvo hin2 hb h0 hvs
      go_upto_region 4 with fail
      rw [← hV]
      clear hV c0 c1 c2 c3 c4 c5
      go_cut [5] (fun s5 wx => s5 = .int .i64 (chkU u) ∧ Bl V wx)
      case first =>
        go_region_held3 (fun w' => Bl V w' ∧ (w'.cell? ⟨wr.heap.size, 0, none⟩ = some (.slice u.kA u.key.length u.kc) ∧ w'.cell? ⟨wr.heap.size, 1, none⟩ = some (.slice u.rA u.row.length u.rc) ∧ w'.cell? ⟨wr.heap.size, 2, none⟩ = some (.int .u64 (u.t.e : Int)) ∧ w'.cell? ⟨wr.heap.size, 3, none⟩ = some (.int .u64 (u.t.a : Int)) ∧ w'.cell? ⟨wr.heap.size, 4, none⟩ = some (.int .u64 (u.t.b : Int))))
          ((refine (fun h => And.intro h (HS.out _ h)) ?_; repeat (first | with_reducible exact hb3 | with_reducible exact hb2 | with_reducible exact hb1 | with_reducible exact hself | with_reducible refine Bl.more ?_ _ | with_reducible refine Bl.drew ?_)))
          (first | (go_at_call 45; have hq := hb1; refine (x2 _ (by repeat (first | with_reducible exact hb1 | with_reducible refine Bl.more ?_ _))).out.mono ?_; rintro _ w2 ⟨rfl, k2⟩; have hb2 : Bl V w2 := Bl.call (by repeat (first | with_reducible exact hb1 | with_reducible refine Bl.more ?_ _)) k2; first | have ht2 := tms_keep ht1 k2 | have ht2 := tms_keep (htm.out _) k2 | skip) | (go_at_call 45; refine (x1 _ (by repeat (first | with_reducible exact hself | with_reducible refine Bl.more ?_ _ | with_reducible refine Bl.drew ?_))).out.mono ?_; rintro _ w1 ⟨rfl, k1⟩; have hb1 : Bl V w1 := Bl.call (by repeat (first | with_reducible exact hself | with_reducible refine Bl.more ?_ _ | with_reducible refine Bl.drew ?_)) k1; first | have ht1 := tms_keep (htm.out _) k1 | have ht1 := tms_keep (htd.out _) k1 | skip) | (go_at_call 41; refine (x3 _ _ (by first | exact ht2 | exact htm.out _)).out.mono ?_; rintro _ w3 ⟨rfl, k3⟩; have hb3 : Bl V w3 := Bl.call (by repeat (first | with_reducible exact hb2 | with_reducible refine Bl.more ?_ _)) k3) | (go_at_call 19; refine (x4 _ _ ?_ ?_ ?_).out.mono ?_; (simp [go_sem]); (simp [go_sem]); (simp [go_sem]); rintro _ w4 ⟨rfl, rfl⟩))
        all_goals
          go_wp2_with fail
          go_meet
          exact ⟨by rw [hcu.out], hb3.more _⟩
      case rest =>
        obtain ⟨rfl, hcb⟩ := hcut
        have HX := Lib.hid (HV.out.1.trans (hcb.below.mono (Nat.le_trans HV.out.1.size (Nat.le_refl _))))
        by_cases hz : chkU u = 0
        · have t1 : (chkU u != 0) = false := by simp [hz]
          have HZ := Lib.hid hz
          clear hz hcb d0 d1 d2 d3 d4 d5
          go_wp2_with fail
          go_roundw
          case rel => exact ⟨k + 1, by go_num, by omega, HX.out, by rw [HV.out.2.2.1, HZ.out]⟩
          case measure => simp [intOf]; omega
        · have t1 : (chkU u != 0) = true := bne_iff_ne.2 hz
          have hr := Lib.hid (HV.out.2.2.2 hz)
          clear hz hcb d0 d1 d2 d3 d4 d5
          go_wp2_with fail
          go_ret
          exact ⟨ret_i64 hr.out.symm, HX.out⟩
    · have hk2 : k = l.length := by omega
      subst hk2
      rw [List.take_length] at h0
      have HX := Lib.hid (And.intro h0 hb)
      clear h0 hb
      go_wp2_with fail
      go_ret
      exact ⟨ret_i64 HX.out.1.symm, HX.out.2⟩
instance : Inhabited Vl := ⟨⟨false, 0, ⟨#[]⟩⟩⟩
theorem vals_of_lies {W : World} {B : Nat} {A : Option Addr} {l : List Vl} (h : Lies 3 Vl.cells W B A l) : Vals W B A l := fun hp => by
  obtain ⟨b, o, e, hb, hc⟩ := h hp
  exact ⟨b, o, e, hb, fun i v hi => ⟨hc i v hi 0 _ rfl, hc i v hi 1 _ rfl, hc i v hi 2 _ rfl⟩⟩
theorem lies_of_vals {W : World} {B : Nat} {A : Option Addr} {l : List Vl} (h : Vals W B A l) : Lies 3 Vl.cells W B A l := fun hp => by
  obtain ⟨b, o, e, hb, hc⟩ := h hp
  refine ⟨b, o, e, hb, fun i v hi j u hj => ?_⟩
  obtain ⟨h0, h1, h2⟩ := hc i v hi
  match j, hj with
  | 0, hj => obtain rfl : Value.bool v.t = u := by simpa [Vl.cells] using hj
             exact h0
  | 1, hj => obtain rfl : Value.int .i64 v.n = u := by simpa [Vl.cells] using hj
             exact h1
  | 2, hj => obtain rfl : Value.string v.s = u := by simpa [Vl.cells] using hj
             exact h2
theorem infoVl : (Tryz.prog.info? 122).map (fun i => (i.zero, i.size, i.bytes)) = some (some (Vl.mk false 0 ⟨#[]⟩).val, 3, 32) := by kernel_rfl
theorem vl_one (x : Vl) : ∀ u ∈ x.cells, u.oneCell' = true := by
  intro u hu
  simp [Vl.cells] at hu
  rcases hu with rfl | rfl | rfl <;> rfl
theorem vals_of_own {w : World} {base : Nat} {v : Value} {l : List Vl} {n : Nat} (hn : n = l.length) (h : w.ownsRow base 122 3 v n (l.flatMap Vl.cells)) :
    ∃ A c, v = .slice A l.length c ∧ l.length ≤ c ∧ c ≤ maxLen ∧ Vals w w.heap.size A l := by
  obtain ⟨A, c, h1, h2, h3, h4⟩ := lies_of_own (size := 3) (cells := Vl.cells) (by decide) (fun _ => rfl) hn h
  exact ⟨A, c, h1, h2, h3, vals_of_lies h4⟩
theorem wpList_append_vl (w : World) {ops : Array Oper} {rest : List Oper} {o : Oper} {a : Act} {Q : Exit → Act → World → Prop} (hgd : o.guard = none) (s x : Operand)
    (ho : o.op = .call { callee := .builtin .append, args := #[s, x], argTypes := #[47, 47] })
    (base : Nat) (v : Value) (n : Nat) (xs : List Value) (hs : a.eval s = v) (hown : w.ownsRow base 122 3 v n xs)
    (B : Nat) (A : Option Addr) (c : Nat) (l : List Vl) (hx : a.eval x = .slice A l.length c) (hl : Vals w B A l) (hn : (n + l.length) * 32 ≤ 140737488355328) (hbase : base ≤ w.heap.size)
    (h : ∀ v' w', w'.ownsRow base 122 3 v' (n + l.length) (xs ++ l.flatMap Vl.cells) → Below base w w' → wpList Tryz.prog ops Q rest (a.put o.dst v') w') :
    wpList Tryz.prog ops Q (o :: rest) a w := by
  obtain ⟨i0, hi, hz0, hz1, hz2⟩ := info_parts infoVl
  exact wpList_append_lies w hgd s x _ _ ho i0 _ 32 Tryz.underlying47 hi hz0 hz1 hz2 rfl (by decide) (fun _ => rfl) vl_one base v n xs hs hown c hx (lies_of_vals hl) (by unfold maxLen; omega) hn hbase h
theorem own_made {w : World} {base g n s : Nat} {e : TypeId} {xs : List Value} (h : w.ownsRow base e s (.slice (some ⟨g, 0, none⟩) n n) n xs) : Own w g e xs := by
  rcases h.2 with ⟨h0, _⟩ | ⟨g', cap, cur, hv, hb, hg, h1, h2, h3, h4⟩
  · cases h0
  · simp only [Value.slice.injEq, Option.some.injEq, Addr.mk.injEq, and_true] at hv
    obtain ⟨rfl, _, rfl⟩ := hv
    rw [List.take_of_length_le (by rw [Array.length_toList, h3]; exact Nat.le_refl _)] at h4
    subst h4
    unfold Own
    rw [hg]
theorem run_copy_all {P : Program} (w : World) (dT sT ty elem : TypeId) (g n c c' k : Nat) (a : Addr) (cur cs : List Value) (t : TypeId) (hu : P.underlying dT = some (.slice elem)) (hs : (P.info? elem).map (·.size) = some k)
    (hg : Own w g t cur) (hcl : cs.length = n * k) (hsrc : ∀ j v, cs[j]? = some v → w.cell? (a.add j) = some v) (hfit : cs.length = cur.length) (h1 : ∀ v ∈ cs, v.oneCell' = true) :
    (Builtin.copy_ #[dT, sT] ty #[.slice (some ⟨g, 0, none⟩) n c, .slice (some a) n c']).run P w = .ok (goInt n) (w.setRow g cs.toArray) := by
  have hl := run_loadCells_list (P := P) w a cs hsrc
  have hst := run_storeCells_at P g 0 t cs 0 cur.toArray w hg (by simp; omega) h1
  have hcur : (cur.toArray.toList.take 0 ++ cs ++ cur.toArray.toList.drop (0 + cs.length)).toArray = cs.toArray := by
    rw [Nat.zero_add, hfit]; simp
  cases hq : P.info? elem with
  | none => simp [hq] at hs
  | some i =>
    have hi : i.size = k := by simpa [hq] using hs
    have hm : Nat.min n n = n := Nat.min_self n
    simp only [Nat.add_zero, Nat.zero_add] at hst
    have hz : (List.take 0 cur ++ cs ++ List.drop cs.length cur) = cs := by rw [hfit]; simp
    rw [hz] at hst
    simp [Builtin.copy_, run_underlying hu, Builtin.lenOf, Builtin.firstCells, sizeOf, typeInfo, hq, hi, hm, ← hcl, hl, hst]
theorem own_setRow {w : World} {g : Nat} {t : TypeId} {cur cs : List Value} (h : Own w g t cur) : Own (w.setRow g cs.toArray) g t cs := by
  unfold Own at *
  simp [World.setRow, Array.getElem?_modify, h]
set_option maxRecDepth 100000 in
set_option maxHeartbeats 3200000 in
theorem listV_any (A : Option Addr) (c : Nat) (l : List Vl) (w : World) (hl : Vals w w.heap.size A l) (hn : l.length * 32 ≤ 281474976710656) :
    Calls Tryz.prog 75 #[.slice A l.length c] w fun x w' => ∃ A' c', x = .returned (.slice A' l.length c') ∧ Vals w' w'.heap.size A' l ∧ (∀ b o, A' = some ⟨b, o, none⟩ → w.heap.size ≤ b ∧ b < w'.heap.size) ∧ Below w.heap.size w w' := by
  obtain ⟨i0, hi, hz0, hz1, hz2⟩ := info_parts infoVl
  have hU := Tryz.underlying47
  have hsz1 : (Tryz.prog.info? 122).map (·.size) = some 3 := by rw [hi]; simp [hz1]
  cases l with
  | nil =>
    clear hl hn hi hz0 hz1 hz2 hU hsz1
    go_enter Tryz.func75, Tryz.ntmps75
    go_wp2_with fail
    go_ret
    exact ⟨_, _, rfl, fun h => absurd h (by simp), fun _ _ h => (by cases h), Below.refl _ _⟩
  | cons t l =>
    obtain ⟨b, o, rfl, hB, hc⟩ := hl (by simp)
    obtain ⟨m, hm⟩ : ∃ m, m = t :: l := ⟨_, rfl⟩
    have hpos : 0 < m.length := by rw [hm]; simp
    rw [← hm] at hc hn ⊢
    have t1 : ((m.length : Int) == 0) = false := beq_eq_false_iff_ne.2 (by omega)
    have HC := Lib.hid hc
    clear hc hm hl
    go_enter Tryz.func75, Tryz.ntmps75
    go_wp2_with (refine wpList_make_full _ rfl (.tmp 8) (.tmp 8) 47 rfl w.heap.size 122 i0 _ 3 hU hi hz0 hz1 .i64 .i64 _ _ m.length rfl rfl rfl rfl ?c1 ?c2 ?c3 ?_)
    case c1 => rw [hz2]; omega
    case c2 => unfold maxLen; omega
    case c3 => exact Nat.le_refl _
    intro w1 ho1 hg1
    obtain ⟨cur, ho1⟩ : ∃ cur, w1.ownsRow w.heap.size 122 3 (.slice (some ⟨w.heap.size, 0, none⟩) m.length m.length) m.length cur := ⟨_, ho1⟩
    have hm1 := own_made ho1
    have hb1 : Below w.heap.size w w1 := (Below.refl _ _).grown hg1 (Nat.le_refl _) (fun k h => by cases h)
    have hlen1 : cur.length = m.length * 3 := ho1.1
    have hcl : (m.flatMap Vl.cells).length = m.length * 3 := flat_size (size := 3) (cells := Vl.cells) (fun _ => rfl) m
    have hsrc : ∀ j v, (m.flatMap Vl.cells)[j]? = some v → w1.cell? ((⟨b, o, none⟩ : Addr).add j) = some v := fun j v hv => by
      obtain ⟨i, r, x, rfl, hx, hr⟩ := flat_back (size := 3) (cells := Vl.cells) (by decide) (fun _ => rfl) m j v hv
      have ea : (⟨b, o, none⟩ : Addr).add (i * 3 + r) = ⟨b, o + i * 3 + r, none⟩ := by unfold Addr.add; split <;> simp_all <;> omega
      rw [ea, hb1.cell (p := ⟨b, o + i * 3 + r, none⟩) hB]
      obtain ⟨a0, a1, a2⟩ := HC.out i x hx
      match r, hr with
      | 0, hr => rw [← hr]; exact a0
      | 1, hr => rw [← hr]; exact a1
      | 2, hr => rw [← hr]; exact a2
    have hrun := fun ty => run_copy_all (P := Tryz.prog) w1 47 47 ty 122 w.heap.size m.length m.length c 3 ⟨b, o, none⟩ cur (m.flatMap Vl.cells) 122 hU hsz1 hm1 hcl hsrc (by rw [hcl, hlen1]) (fun v hv => by
      obtain ⟨x, _, hx⟩ := List.mem_flatMap.1 hv
      exact vl_one x v hx)
    have ho2 : Own (w1.setRow w.heap.size (m.flatMap Vl.cells).toArray) w.heap.size 122 (m.flatMap Vl.cells) := own_setRow hm1
    have hb2 : Below w.heap.size w (w1.setRow w.heap.size (m.flatMap Vl.cells).toArray) := below_setRow hb1 (Nat.le_refl _) _
    have HR := Lib.hid hrun
    obtain ⟨w2, hw2⟩ : ∃ w2, w2 = w1.setRow w.heap.size (m.flatMap Vl.cells).toArray := ⟨_, rfl⟩
    rw [← hw2] at HR ho2 hb2
    have H2 := Lib.hid (And.intro ho2 hb2)
    clear hw2 hrun ho2 hb2 hsrc hcl hm1 hb1 hlen1 ho1 hg1 hU hsz1 hi hz0 hz1 hz2
    go_wp2_with (refine Lib.wpList_copy_run _ rfl _ _ 47 47 rfl _ _ rfl rfl (HR.out _) ?_)
    go_wp2_with fail
    go_ret
    refine ⟨_, _, rfl, fun _ => ⟨w.heap.size, 0, rfl, H2.out.1.inside, fun i x hx => ?_⟩, fun b' o' e => ?_, H2.out.2⟩
    · have := fun r v hr => flat_of (cells := Vl.cells) (size := 3) (fun _ => rfl) m i r x v hx hr
      refine ⟨?_, ?_, ?_⟩
      · rw [H2.out.1.at_]; exact (by simpa using this 0 _ rfl)
      · rw [H2.out.1.at_]; exact (by simpa using this 1 _ rfl)
      · rw [H2.out.1.at_]; exact (by simpa using this 2 _ rfl)
    · simp only [Option.some.injEq, Addr.mk.injEq, and_true] at e
      have := H2.out.1.inside
      omega
theorem ret_box (w : World) (u : Up) : ∃ V, V = (w.alloc (.cells #[.slice u.kA u.key.length u.kc, .slice u.rA u.row.length u.rc, .int .u64 (u.t.e : Int), .int .u64 (u.t.a : Int), .int .u64 (u.t.b : Int), .int .i64 u.d] 49)).alloc (.cells #[.slice none 0 0, .slice none 0 0, .int .u64 0, .int .u64 0, .int .u64 0, .int .i64 0] 49) ∧ Below w.heap.size w V ∧ Own V w.heap.size 49 u.cells ∧ Own V (w.heap.size + 1) 49 [.slice none 0 0, .slice none 0 0, .int .u64 0, .int .u64 0, .int .u64 0, .int .i64 0] := by
  refine ⟨_, rfl, ((Below.refl _ _).alloc (Nat.le_refl _) _).alloc (by simp) _, (Own.made w 49 u.cells).more _, ?_⟩
  have := Own.made (w.alloc (.cells #[.slice u.kA u.key.length u.kc, .slice u.rA u.row.length u.rc, .int .u64 (u.t.e : Int), .int .u64 (u.t.a : Int), .int .u64 (u.t.b : Int), .int .i64 u.d] 49)) 49 [.slice none 0 0, .slice none 0 0, .int .u64 0, .int .u64 0, .int .u64 0, .int .i64 0]
  rw [show (w.alloc (.cells #[.slice u.kA u.key.length u.kc, .slice u.rA u.row.length u.rc, .int .u64 (u.t.e : Int), .int .u64 (u.t.a : Int), .int .u64 (u.t.b : Int), .int .i64 u.d] 49)).heap.size = w.heap.size + 1 by simp] at this
  exact this
theorem own_six {w : World} {P : Nat} {t : TypeId} {z0 z1 z2 z3 z4 z5 : Value} (h : Own w P t [z0, z1, z2, z3, z4, z5]) (a b c d e f : Value) :
    ∃ X, X = ((((((w.setCell ⟨P, 0, none⟩ a).setCell ⟨P, 1, none⟩ b).setCell ⟨P, 2, none⟩ c).setCell ⟨P, 3, none⟩ d).setCell ⟨P, 4, none⟩ e).setCell ⟨P, 5, none⟩ f) ∧ Own X P t [a, b, c, d, e, f] ∧ (∀ B u, Below B u w → B ≤ P → Below B u X) ∧ X.heap.size = w.heap.size ∧ (∀ b, b ≠ P → X.heap[b]? = w.heap[b]?) :=
  ⟨_, rfl, (((((h.set_ 0 a).set_ 1 b).set_ 2 c).set_ 3 d).set_ 4 e).set_ 5 f, fun B u hb hB => (((((hb.setCell (p := ⟨P, 0, none⟩) hB _).setCell (p := ⟨P, 1, none⟩) hB _).setCell (p := ⟨P, 2, none⟩) hB _).setCell (p := ⟨P, 3, none⟩) hB _).setCell (p := ⟨P, 4, none⟩) hB _).setCell (p := ⟨P, 5, none⟩) hB _, by simp [World.setCell], fun b hb => by
    have k := fun (W : World) (i : Nat) (v : Value) => Below.heap_setCell W ⟨P, i, none⟩ v b hb
    rw [k, k, k, k, k, k]⟩
theorem vals_other {w X : World} {P : Nat} {A : Option Addr} {l : List Vl} (h : Vals w w.heap.size A l) (hA : ∀ b o, A = some ⟨b, o, none⟩ → P < b) (hs : X.heap.size = w.heap.size) (hX : ∀ b, b ≠ P → X.heap[b]? = w.heap[b]?) : Vals X X.heap.size A l := fun hp => by
  obtain ⟨b, o, e, hb, hc⟩ := h hp
  have hne : b ≠ P := by have := hA b o e; omega
  have hk : ∀ j, X.cell? ⟨b, j, none⟩ = w.cell? ⟨b, j, none⟩ := fun j => by unfold World.cell?; rw [hX b hne]
  refine ⟨b, o, e, by omega, fun i v hi => ?_⟩
  obtain ⟨a0, a1, a2⟩ := hc i v hi
  exact ⟨(hk _).trans a0, (hk _).trans a1, (hk _).trans a2⟩
theorem own_frozen6 {w : World} {P : Nat} {t : TypeId} {z0 z1 z2 z3 z4 z5 : Value} (h : Own w P t [z0, z1, z2, z3, z4, z5]) :
    w.frozen? ⟨P, 0, none⟩ = false ∧ w.frozen? ⟨P, 1, none⟩ = false ∧ w.frozen? ⟨P, 2, none⟩ = false ∧ w.frozen? ⟨P, 3, none⟩ = false ∧ w.frozen? ⟨P, 4, none⟩ = false ∧ w.frozen? ⟨P, 5, none⟩ = false :=
  ⟨h.open_ 0, h.open_ 1, h.open_ 2, h.open_ 3, h.open_ 4, h.open_ 5⟩
def Bm (B : Nat) (V w : World) : Prop := Below B V w
theorem Bm.of {B : Nat} {V w : World} (h : Bl V w) (hB : B ≤ V.heap.size) : Bm B V w := h.below.mono hB
theorem Bm.set {B P : Nat} {V w : World} (h : Bm B V w) (hP : B ≤ P) (i : Nat) (v : Value) : Bm B V (w.setCell ⟨P, i, none⟩ v) := Below.setCell (p := ⟨P, i, none⟩) h hP v
theorem Bm.more {B : Nat} {V w : World} (h : Bm B V w) (hB : B ≤ V.heap.size) (o : Obj) : Bm B V (w.alloc o) := Below.alloc h (Nat.le_trans hB h.size) o
theorem Bm.drew {B : Nat} {V w : World} (h : Bm B V w) : Bm B V w.drew := Below.drew h
def Kept (u : Up) (n : Int) (w : World) (x : Ending) (w' : World) : Prop :=
  ∃ u' : Up, x = .returned u'.val ∧ u'.key = u.key ∧ u'.row = u.row ∧ u'.t = u.t ∧ u'.d = n ∧ UIn w' w'.heap.size u' ∧ (∀ b o, (u'.kA = some ⟨b, o, none⟩ ∨ u'.rA = some ⟨b, o, none⟩) → w.heap.size ≤ b ∧ b < w'.heap.size) ∧ Below w.heap.size w w'
set_option maxRecDepth 100000 in
set_option maxHeartbeats 6400000 in
theorem retain_any (u : Up) (n : Int) (w : World) (hu : UIn w w.heap.size u) (ok : u.key.length * 32 ≤ 281474976710656 ∧ u.row.length * 32 ≤ 281474976710656) :
    Calls Tryz.prog 35 #[u.val, .int .i64 n] w (Kept u n w) := by
  obtain ⟨V, hV, hvb, hvo, hvz⟩ := ret_box w u
  have hin := hu.keep hvb
  have y1 := fun W (h : Bl V W) => Lib.hid (listV_any u.kA u.kc u.key W (hin.keep h).key ok.1)
  have y2 := fun W (h : Bl V W) => Lib.hid (listV_any u.rA u.rc u.row W (hin.keep h).row ok.2)
  have hB := hvz.inside
  have HS := Lib.hid (fun W (h : Bm (w.heap.size + 1) V W) => let k := own6 (hvo.past h (Nat.lt_succ_self _)); (⟨k.1, k.2.1, k.2.2.1, k.2.2.2.1, k.2.2.2.2.1⟩ : W.cell? ⟨w.heap.size, 0, none⟩ = some (.slice u.kA u.key.length u.kc) ∧ W.cell? ⟨w.heap.size, 1, none⟩ = some (.slice u.rA u.row.length u.rc) ∧ W.cell? ⟨w.heap.size, 2, none⟩ = some (.int .u64 (u.t.e : Int)) ∧ W.cell? ⟨w.heap.size, 3, none⟩ = some (.int .u64 (u.t.a : Int)) ∧ W.cell? ⟨w.heap.size, 4, none⟩ = some (.int .u64 (u.t.b : Int))))
  have HZ := Lib.hid (fun W (h : Bl V W) => hvz.past h hvz.inside)
  have HB := Lib.hid hvb
  have hself := Bl.refl V
  obtain ⟨d0, d1, d2, d3, d4, d5⟩ := own6 hvo
  have huv : u.val = .agg #[.slice u.kA u.key.length u.kc, .slice u.rA u.row.length u.rc, .int .u64 (u.t.e : Int), .int .u64 (u.t.a : Int), .int .u64 (u.t.b : Int), .int .i64 u.d] := rfl
  rw [huv]
  have hbs : w.heap.size + 1 ≤ V.heap.size := Nat.le_of_lt hB
  clear huv hu ok hvb hvo hvz hin
  go_enter Tryz.func35, Tryz.ntmps35
  go_upto_region 1 with fail
  rw [← hV]
  clear hV
  go_region_held3 (fun w' => Bm (w.heap.size + 1) V w' ∧ (w'.cell? ⟨w.heap.size, 0, none⟩ = some (.slice u.kA u.key.length u.kc) ∧ w'.cell? ⟨w.heap.size, 1, none⟩ = some (.slice u.rA u.row.length u.rc) ∧ w'.cell? ⟨w.heap.size, 2, none⟩ = some (.int .u64 (u.t.e : Int)) ∧ w'.cell? ⟨w.heap.size, 3, none⟩ = some (.int .u64 (u.t.a : Int)) ∧ w'.cell? ⟨w.heap.size, 4, none⟩ = some (.int .u64 (u.t.b : Int))))
    ((refine (fun h => And.intro h (HS.out _ h)) ?_; repeat (first | with_reducible exact Bm.of hb2 hbs | with_reducible exact Bm.of hb1 hbs | with_reducible exact Bm.of hself hbs | with_reducible refine Bm.set ?_ (Nat.le_refl _) _ _ | with_reducible refine Bm.more ?_ hbs _ | with_reducible refine Bm.drew ?_)))
    (first | (go_at_call 75; have hq := hb1; refine (y2 _ hb1).out.mono ?_; rintro _ w2 ⟨A2, k2, rfl, v2, n2, b2⟩; have hb2 : Bl V w2 := Bl.call hb1 b2; have v1 := vals_keep v1 b2; obtain ⟨f0, f1, f2, f3, f4, f5⟩ := own_frozen6 (HZ.out _ hb2); obtain ⟨e0, e1, e2, e3, e4, e5⟩ := own6 (HZ.out _ hb2)) | (go_at_call 75; refine (y1 _ hself.drew).out.mono ?_; rintro _ w1 ⟨A1, k1, rfl, v1, n1, b1⟩; have hb1 : Bl V w1 := Bl.call hself.drew b1))
  all_goals
    obtain ⟨X, hX, hXo, hXb, hXs, hXh⟩ := own_six (HZ.out _ hb2) (.slice A1 u.key.length k1) (.slice A2 u.row.length k2) (.int .u64 (u.t.e : Int)) (.int .u64 (u.t.a : Int)) (.int .u64 (u.t.b : Int)) (.int .i64 n)
    have v1' := vals_other v1 (fun b o e => by have := (n1 b o e).1; simp at this; omega) hXs hXh
    have v2' := vals_other v2 (fun b o e => by have := (n2 b o e).1; have := hb1.size; omega) hXs hXh
    have hfar : ∀ b o, (A1 = some (⟨b, o, none⟩ : Addr) ∨ A2 = some (⟨b, o, none⟩ : Addr)) → w.heap.size ≤ b ∧ b < X.heap.size := fun b o h => by
      rcases h with h | h
      · have h1 := n1 b o h
        have h2 := b2.size
        have h3 := h1.1
        have h4 := h1.2
        simp at h3
        omega
      · have h1 := n2 b o h
        have h2 := hb1.size
        have h3 := h1.1
        have h4 := h1.2
        omega
    have hbX := hXb w.heap.size w (HB.out.trans (hb2.below.mono HB.out.size)) (Nat.le_succ _)
    rw [← hX]
    obtain ⟨x0, x1, x2, x3, x4, x5⟩ := own6 hXo
    clear hX hXo hXb hXs hXh f0 f1 f2 f3 f4 f5 e0 e1 e2 e3 e4 e5
    go_wp2_with fail
    exact bodyPost_ret (v := .agg #[.slice A1 u.key.length k1, .slice A2 u.row.length k2, .int .u64 (u.t.e : Int), .int .u64 (u.t.a : Int), .int .u64 (u.t.b : Int), .int .i64 n]) (by simp [results, Tryz.results35, go_sem, x0, x1, x2, x3, x4, x5]) rfl ⟨⟨A1, k1, u.key, A2, k2, u.row, u.t, n⟩, rfl, rfl, rfl, rfl, rfl, ⟨v1', v2'⟩, hfar, hbX⟩
theorem add64 (x y c : Int) (hx : 0 ≤ x) (hy : 0 ≤ y) (hc0 : 0 ≤ c) (hc : c ≤ 1) (w : World) : (callFunc 115 #[.int .u64 x, .int .u64 y, .int .u64 c]).run Tryz.prog w =
    .ok (.value (.tuple #[.int .u64 ((x + y + c) % 18446744073709551616), .int .u64 ((x + y + c) / 18446744073709551616)])) w := by
  rw [run_callFunc_extern Tryz.func115 (by kernel_rfl) (by kernel_rfl) (by kernel_rfl) (e := add64Entry) (by kernel_rfl), run_add64 x y c hx hy hc0 hc]
  rfl

theorem wrapU (x : Int) : IntKind.u64.wrap x = x % 18446744073709551616 := by simp [IntKind.wrap, IntKind.bits, IntKind.signed]
theorem wrapS (x : Int) (h1 : 0 ≤ x) (h2 : x < 18446744073709551616) : wrap64 x = sg x := by unfold wrap64 sg; split <;> omega
set_option maxRecDepth 100000 in
set_option maxHeartbeats 400000 in
theorem of_any (n : Int) (w : World) (h1 : -9223372036854775808 ≤ n) (h2 : n ≤ 9223372036854775807) :
    Calls Tryz.prog 32 #[.int .i64 n] w fun e w' => e = .returned (.agg #[.int .u64 (hiW n), .int .u64 (loW n)]) ∧ Below w.heap.size w w' := by
  have e1 : IntKind.u64.wrap (n / 9223372036854775808) = hiW n := by rw [wrapU]; unfold hiW; omega
  have e2 : IntKind.u64.wrap n = loW n := by rw [wrapU]; rfl
  have HE := Lib.hid (And.intro e1 e2)
  clear e1 e2
  go_enter Tryz.func32, Tryz.ntmps32
  go_wp2_with fail
  obtain ⟨e1, e2⟩ := HE.out
  rw [e1, e2]
  exact bodyPost_ret (v := .agg #[.int .u64 (hiW n), .int .u64 (loW n)]) (by simp [results, Tryz.results32, go_sem]) rfl ⟨rfl, (Below.refl _ _).alloc (Nat.le_refl _) _⟩

set_option maxRecDepth 100000 in
set_option maxHeartbeats 400000 in
theorem number_any (S : Int) (w : World) (h1 : -170141183460469231731687303715884105728 ≤ S) (h2 : S < 170141183460469231731687303715884105728) :
    Calls Tryz.prog 44 #[.agg #[.int .u64 (hiW S), .int .u64 (loW S)]] w fun e w' => e = .returned (.tuple #[.int .i64 (fitN S), .int .i64 (fitE S)]) ∧ Below w.heap.size w w' := by
  obtain ⟨l1, l2⟩ := loW_bound S
  have e0 : wrap64 (loW S) = sg (loW S) := wrapS _ l1 l2
  have e1 : IntKind.u64.wrap (wrap64 (loW S) / 9223372036854775808) = hiW (sg (loW S)) := by rw [e0, wrapU]; unfold hiW sg; split <;> omega
  have e2 := hi_fits S h1 h2
  have e3 := sg_lo S
  clear h1 h2 l1 l2
  have HE := Lib.hid (And.intro e0 e3)
  by_cases hf : fits S = true
  · have t1 : (hiW S != IntKind.u64.wrap (wrap64 (loW S) / 9223372036854775808)) = false := by rw [e1, bne, e2, hf]; rfl
    have HF := Lib.hid hf
    clear e0 e1 e2 e3 hf
    go_enter Tryz.func44, Tryz.ntmps44
    go_wp2_with fail
    obtain ⟨e0, e3⟩ := HE.out
    rw [e0, e3 HF.out]
    go_ret2
    exact ⟨by unfold fitN fitE; rw [HF.out]; rfl, (Below.refl _ _).alloc (Nat.le_refl _) _⟩
  · have hf : fits S = false := by simpa using hf
    have t1 : (hiW S != IntKind.u64.wrap (wrap64 (loW S) / 9223372036854775808)) = true := by rw [e1, bne, e2, hf]; rfl
    have HF := Lib.hid hf
    clear e0 e1 e2 e3 hf
    go_enter Tryz.func44, Tryz.ntmps44
    go_wp2_with fail
    go_ret2
    exact ⟨by unfold fitN fitE; rw [HF.out]; rfl, (Below.refl _ _).alloc (Nat.le_refl _) _⟩

set_option maxRecDepth 100000 in
set_option maxHeartbeats 1600000 in
theorem add_line (S T : Int) (g : Nat) (t : TypeId) (rest : List Value) (w : World) (h : Own w g t (.int .u64 (hiW S) :: .int .u64 (loW S) :: rest)) :
    Calls Tryz.prog 72 #[.pointer (some ⟨g, 0, none⟩), .agg #[.int .u64 (hiW T), .int .u64 (loW T)]] w fun e w' => e = .returned (.tuple #[]) ∧ Own w' g t (.int .u64 (hiW (S + T)) :: .int .u64 (loW (S + T)) :: rest) ∧ ∀ B, B ≤ g → Below B w w' := by
  have c0 := h.at_ 0
  have c1 := h.at_ 1
  have f1 := h.open_ 1
  have f0 := h.open_ 0
  have hg := h.inside
  simp only [List.getElem?_cons_zero, List.getElem?_cons_succ] at c0 c1
  obtain ⟨a1, a2⟩ := loW_bound S
  obtain ⟨b1, b2⟩ := loW_bound T
  obtain ⟨a3, a4⟩ := hiW_bound S
  obtain ⟨b3, b4⟩ := hiW_bound T
  have k1 := add64 (loW S) (loW T) 0 a1 b1 (by omega) (by omega)
  have k2 := add64 (hiW S) (hiW T) ((loW S + loW T) / 18446744073709551616) a3 b3 (by omega) (by omega)
  clear a1 a2 b1 b2 a3 a4 b3 b4
  go_enter Tryz.func72, Tryz.ntmps72
  go_wp2_with fail
  go_region_with (simp only [k1])
  all_goals
    go_wp2_with fail
    go_region_with (simp only [k2])
  all_goals
    go_wp2_with fail
    rw [lo_add, hi_add]
    exact bodyPost_end (results_none rfl _ _ _) rfl ⟨rfl, own_of ((((h.set_ 1 _).set_ 0 _).more _).draws 2) rfl, fun B hB => ((((Below.refl B w).setCell hB _).setCell hB _).alloc (by simp; omega) _).drew.drew⟩
end Go.Proofs.YtjffohpdjicfpaaGreat
namespace Go.Proofs.YtjffohpdjicfpaaGreat
open Go Go.RowKit Go.Sort Go.Lib Go.Shelf
section
variable {α : Type} [Inhabited α] {enc : α → List Value} {k : Nat} {w : World} {blk off m : Nat} {dk : Array α} {os : Array Obj}
theorem sortWorld_other {b : Nat} (hb : b ≠ blk) (hlt : b < w.heap.size) : (sortWorldK enc k w blk off m dk os).heap[b]? = w.heap[b]? := by
  unfold sortWorldK putRowK putRow mapBlock
  show (_ ++ os)[b]? = _
  rw [Array.getElem?_append_left (by simp [ahead]; omega), Array.getElem?_modify, if_neg (Ne.symm hb)]
  rfl
theorem sortWorld_below {B : Nat} (hB : B ≤ blk) (hlt : blk < w.heap.size) : RowKit.Below B w (sortWorldK enc k w blk off m dk os) := by
  refine ⟨rfl, rfl, rfl, size_sortWorldK_c enc k w blk off m dk os, fun b hb => sortWorld_other (by omega) (by omega)⟩
theorem list_get!_some {l : List α} {i : Nat} {t : α} (h : l[i]? = some t) : l.toArray[i]! = t := by
  obtain ⟨hi, h⟩ := List.getElem?_eq_some_iff.1 h
  rw [getElem!_pos _ i (by simpa using hi)]
  simpa using h
def RowOf (enc : α → List Value) (k : Nat) (w : World) (g : Nat) (l : List α) : Prop :=
  ∀ (i : Nat) (x : α), l[i]? = some x → ∀ (j : Nat) (v : Value), (enc x)[j]? = some v → w.cell? ⟨g, i * k + j, none⟩ = some v ∧ w.frozen? ⟨g, i * k + j, none⟩ = false
theorem holds_row (hk : ∀ x, (enc x).length = k) (hpos : 0 < k) {g : Nat} {l : List α} (h : RowOf enc k w g l) : HoldsK enc k w g 0 l.toArray := by
  intro j hj
  rw [size_flatK] at hj
  rw [get_flatK _ _ _ _ hj]
  have hs : l.toArray.size = l.length := by simp
  rw [hs] at hj
  have hi : j / k < l.length := (Nat.div_lt_iff_lt_mul hpos).2 hj
  have hr : j % k < k := Nat.mod_lt _ hpos
  have hx : l[j / k]? = some l[j / k] := List.getElem?_eq_getElem hi
  have hc : j % k < (enc l[j / k]).length := by rw [hk]; exact hr
  have := h (j / k) _ hx (j % k) _ (List.getElem?_eq_getElem hc)
  rw [Nat.div_add_mod' j k] at this
  rw [Nat.zero_add, list_get!_some hx, getElem!_pos (enc l[j / k]) (j % k) hc]
  exact this
theorem row_holds (hk : ∀ x, (enc x).length = k) {g : Nat} {d : Array α} (h : HoldsK enc k w g 0 d) : RowOf enc k w g d.toList := by
  intro i x hx j v hv
  have hi : i < d.size := by have := (List.getElem?_eq_some_iff.1 hx).1; simpa using this
  have hj : j < k := by have := (List.getElem?_eq_some_iff.1 hv).1; rwa [hk] at this
  have hxi : d[i]! = x := by
    have := list_get!_some hx
    simpa using this
  obtain ⟨h1, h2⟩ := h.cell hi hj
  rw [Nat.zero_add] at h1 h2
  rw [hxi, getElem!_pos (enc x) j (by rw [hk]; exact hj)] at h1
  rw [List.getElem?_eq_getElem (by rw [hk]; exact hj)] at hv
  injection hv with hv
  exact ⟨by rw [h1, hv], h2⟩
theorem perm_all {n : Nat} {d d' : Array α} (hn : d.size = n) (h : PermIn 0 n d d') : d'.toList.Perm d.toList := by
  obtain ⟨h1, _, h3⟩ := h
  have e1 : d'.extract 0 n = d' := by rw [← hn, ← h1]; exact Array.extract_size
  have e2 : d.extract 0 n = d := by rw [← hn]; exact Array.extract_size
  rwa [e1, e2] at h3
theorem sorted_all {lt : α → α → Bool} {n : Nat} {d : Array α} (hn : d.size = n) (h : SortedIn lt 0 n d) : d.toList.Pairwise fun x y => lt y x = false := by
  rw [List.pairwise_iff_getElem]
  intro i j hi hj hij
  have := h i j (Nat.zero_le _) hij (by simpa [hn] using hj)
  rw [getElem!_pos d j (by simpa using hj), getElem!_pos d i (by simpa using hi)] at this
  simpa using this
end
theorem sort_gen {P : Program} {ρ : Ren} {α : Type} [Inhabited α] (L : SlLaysF0.n6 P ρ) (k : Nat) (aE : ∀ w, (isAgg (ρ.t 24)).run P w = .ok true w) (zE : ∀ w, (Go.sizeOf (ρ.t 24)).run P w = .ok k w) (enc : α → List Value) (hk : ∀ x, (enc x).length = k) (hpos : 0 < k) (h1 : ∀ x, ∀ v ∈ enc x, v.oneCell' = true)
    (cf : α → α → Int) (hO : SWO (ltOf cf)) (fn : Nat) (cb : Array Value) (g cap : Nat) (l : List α) (w : World) (eg : ∀ args w, (callFunc fn args).run P w = .ok (.enter fn args) w) (hcmp : CmpLays P fn cb enc k cf g 0 l.length w) (hrow : RowOf enc k w g l) (hg : g < w.heap.size) (hn : l.length < 4611686018427387904) :
    Calls P (ρ.f 6) #[.slice (some ⟨g, 0, none⟩) l.length cap, .func (.func fn) #[] cb] w fun e w' => e = .returned (.tuple #[]) ∧ ∃ l' : List α, l'.Perm l ∧ l'.Pairwise (fun x y => ¬ cf y x < 0) ∧ RowOf enc k w' g l' ∧ RowKit.Below g w w' ∧ ∀ b, b ≠ g → b < w.heap.size → w'.heap[b]? = w.heap[b]? := by
  have hcon := AnyQ.slices_SortFunc L k aE zE enc hk h1 cf hO fn cb g 0 cap l.toArray w eg (by simpa using hcmp) (holds_row hk hpos hrow) hg (by simpa using hn)
  simp only [List.size_toArray] at hcon
  refine hcon.mono ?_
  rintro e w' ⟨rfl, d', n, os, hp, hs, rfl⟩
  have hsz : d'.size = l.length := by have := hp.1; simpa using this
  refine ⟨rfl, d'.toList, ?_, ?_, ?_, sortWorld_below (Nat.le_refl _) hg, fun b hb hlt => sortWorld_other hb hlt⟩
  · have := perm_all (d := l.toArray) (by simp) hp
    simpa using this
  · exact (sorted_all hsz hs).imp fun h => by unfold ltOf at h; simpa using h
  · exact row_holds hk (holdsK_sortWorldK_c enc k w g 0 l.toArray d' n os (holds_row hk hpos hrow) hg (by simpa using hsz))
theorem swo_lin {K α : Type} {cmp : K → K → Int} {R : K → Prop} (L : Lin cmp R) (f : α → K) : SWO (ltOf fun x y : α => cmp (f x) (f y)) where
  irrefl x := by
    show decide (cmp (f x) (f x) < 0) = false
    rw [L.self]
    rfl
  trans x y z h k := by
    unfold ltOf at *
    simp only [decide_eq_true_eq] at *
    exact L.lt_trans h k
  ntrans x y z h k := by
    unfold ltOf at *
    simp only [decide_eq_false_iff_not] at *
    have s1 := L.swap (f x) (f y)
    have s2 := L.swap (f y) (f z)
    have s3 := L.swap (f x) (f z)
    have := (L.le (f z) (f y) (f x) (by omega) (by omega)).1
    omega
structure Ln (I : Type) where
  S : Int
  u : I
def Ln.cells {I : Type} (c : I → List Value) (x : Ln I) : List Value := .int .u64 (hiW x.S) :: .int .u64 (loW x.S) :: c x.u
theorem lucells_one (x : Ln Up) : ∀ v ∈ Ln.cells Up.cells x, v.oneCell' = true := by
  intro v hv
  unfold Ln.cells at hv
  rcases List.mem_cons.1 hv with rfl | hv
  · rfl
  · rcases List.mem_cons.1 hv with rfl | hv
    · rfl
    · exact ucells_one x.u v hv
theorem lu_box (w : World) (x y : Ln Up) : ∃ W, W = (w.alloc (.cells #[.int .u64 (hiW x.S), .int .u64 (loW x.S), .slice x.u.kA x.u.key.length x.u.kc, .slice x.u.rA x.u.row.length x.u.rc, .int .u64 (x.u.t.e : Int), .int .u64 (x.u.t.a : Int), .int .u64 (x.u.t.b : Int), .int .i64 x.u.d] 86)).alloc (.cells #[.int .u64 (hiW y.S), .int .u64 (loW y.S), .slice y.u.kA y.u.key.length y.u.kc, .slice y.u.rA y.u.row.length y.u.rc, .int .u64 (y.u.t.e : Int), .int .u64 (y.u.t.a : Int), .int .u64 (y.u.t.b : Int), .int .i64 y.u.d] 86) ∧ Gr w W ∧ Own W w.heap.size 86 (Ln.cells Up.cells x) ∧ Own W (w.heap.size + 1) 86 (Ln.cells Up.cells y) := by
  refine ⟨_, rfl, Gr.two w _ _, (Own.made w 86 (Ln.cells Up.cells x)).more _, ?_⟩
  have := Own.made (w.alloc (.cells #[.int .u64 (hiW x.S), .int .u64 (loW x.S), .slice x.u.kA x.u.key.length x.u.kc, .slice x.u.rA x.u.row.length x.u.rc, .int .u64 (x.u.t.e : Int), .int .u64 (x.u.t.a : Int), .int .u64 (x.u.t.b : Int), .int .i64 x.u.d] 86)) 86 (Ln.cells Up.cells y)
  rw [show (w.alloc (.cells #[.int .u64 (hiW x.S), .int .u64 (loW x.S), .slice x.u.kA x.u.key.length x.u.kc, .slice x.u.rA x.u.row.length x.u.rc, .int .u64 (x.u.t.e : Int), .int .u64 (x.u.t.a : Int), .int .u64 (x.u.t.b : Int), .int .i64 x.u.d] 86)).heap.size = w.heap.size + 1 by simp] at this
  exact this
theorem own8l {w : World} {P : Nat} {t : TypeId} {a0 a1 a2 a3 a4 a5 a6 a7 : Value} (h : Own w P t [a0, a1, a2, a3, a4, a5, a6, a7]) :
    w.cell? ⟨P, 2, none⟩ = some a2 ∧ w.cell? ⟨P, 3, none⟩ = some a3 ∧ w.cell? ⟨P, 4, none⟩ = some a4 ∧ w.cell? ⟨P, 5, none⟩ = some a5 ∧ w.cell? ⟨P, 6, none⟩ = some a6 ∧ w.cell? ⟨P, 7, none⟩ = some a7 :=
  ⟨h.at_ 2, h.at_ 3, h.at_ 4, h.at_ 5, h.at_ 6, h.at_ 7⟩
set_option maxRecDepth 100000 in
set_option maxHeartbeats 3200000 in
theorem closU_gr (x y : Ln Up) (bx : Nat) (w : World) (hbx : w.cell? ⟨bx, 0, none⟩ = some (.func (.func 34) #[] #[])) (hx : UIn w w.heap.size x.u) (hy : UIn w w.heap.size y.u) (ox : UOk x.u) (oy : UOk y.u) :
    Calls Tryz.prog 71 #[.agg #[.int .u64 (hiW x.S), .int .u64 (loW x.S), .slice x.u.kA x.u.key.length x.u.kc, .slice x.u.rA x.u.row.length x.u.rc, .int .u64 (x.u.t.e : Int), .int .u64 (x.u.t.a : Int), .int .u64 (x.u.t.b : Int), .int .i64 x.u.d], .agg #[.int .u64 (hiW y.S), .int .u64 (loW y.S), .slice y.u.kA y.u.key.length y.u.kc, .slice y.u.rA y.u.row.length y.u.rc, .int .u64 (y.u.t.e : Int), .int .u64 (y.u.t.a : Int), .int .u64 (y.u.t.b : Int), .int .i64 y.u.d], .pointer (some ⟨bx, 0, none⟩)] w fun e w' => e = .returned (.int .i64 (x.u.k.cmp y.u.k)) ∧ Gr w w' := by
  obtain ⟨W, hW, hg, o1, o2⟩ := lu_box w x y
  have hb := hg.below
  have hbW : W.cell? ⟨bx, 0, none⟩ = some (.func (.func 34) #[] #[]) := (hb.cell (p := ⟨bx, 0, none⟩) (World.block_lt_of_cell? w _ hbx)).trans hbx
  have hcall := Lib.hid (dcompare_gr x.u y.u W (hx.keep hb) (hy.keep hb) ox oy)
  obtain ⟨a0, a1, a2, a3, a4, a5⟩ := own8l o1
  obtain ⟨b0, b1, b2, b3, b4, b5⟩ := own8l o2
  have HG := Lib.hid hg
  rw [show x.u.val = .agg #[.slice x.u.kA x.u.key.length x.u.kc, .slice x.u.rA x.u.row.length x.u.rc, .int .u64 (x.u.t.e : Int), .int .u64 (x.u.t.a : Int), .int .u64 (x.u.t.b : Int), .int .i64 x.u.d] from rfl, show y.u.val = .agg #[.slice y.u.kA y.u.key.length y.u.kc, .slice y.u.rA y.u.row.length y.u.rc, .int .u64 (y.u.t.e : Int), .int .u64 (y.u.t.a : Int), .int .u64 (y.u.t.b : Int), .int .i64 y.u.d] from rfl] at hcall
  generalize x.u.k.cmp y.u.k = r at *
  clear hg hb hx hy ox oy o1 o2 hbx
  go_enter Tryz.func71, Tryz.ntmps71
  go_upto_region 1 with fail
  rw [← hW]
  clear hW
  go_wp2_with fail
  refine hcall.out.mono ?_
  rintro _ w1 ⟨rfl, g1⟩
  have H1 := Lib.hid (HG.out.trans g1)
  clear g1
  go_wp2_with fail
  go_ret
  exact ⟨rfl, H1.out⟩
theorem cell_heap {w w' : World} {b j : Nat} (h : w'.heap[b]? = w.heap[b]?) : w'.cell? ⟨b, j, none⟩ = w.cell? ⟨b, j, none⟩ := by unfold World.cell?; rw [h]
theorem map_pick {α : Type} {p : α → Prop} : ∀ (l : List α) (h : ∀ x ∈ l, p x), ∃ m : List {x : α // p x}, m.map (·.1) = l
  | [], _ => ⟨[], rfl⟩
  | x :: l, h => by
    obtain ⟨m, hm⟩ := map_pick l fun y hy => h y (by simp [hy])
    exact ⟨⟨x, h x (by simp)⟩ :: m, by rw [List.map_cons, hm]⟩
set_option maxRecDepth 100000 in
set_option maxHeartbeats 3200000 in
theorem sortU_any (bx g cap : Nat) (l : List (Ln Up)) (w : World) (hrow : RowOf (Ln.cells Up.cells) 8 w g l) (hg : g < w.heap.size) (hbx : w.cell? ⟨bx, 0, none⟩ = some (.func (.func 34) #[] #[])) (hne : bx ≠ g) (hin : ∀ x ∈ l, UIn w g x.u) (hok : ∀ x ∈ l, UOk x.u) (hpos : 0 < l.length) (hn : l.length < 4611686018427387904) :
    Calls Tryz.prog 70 #[.slice (some ⟨g, 0, none⟩) l.length cap, .func (.func 71) #[] #[.pointer (some ⟨bx, 0, none⟩)]] w fun e w' => e = .returned (.tuple #[]) ∧ ∃ l' : List (Ln Up), l'.Perm l ∧ l'.Pairwise (fun x y => x.u.k.cmp y.u.k ≤ 0) ∧ RowOf (Ln.cells Up.cells) 8 w' g l' ∧ RowKit.Below g w w' ∧ ∀ b, b ≠ g → b < w.heap.size → w'.heap[b]? = w.heap[b]? := by
  obtain ⟨m, rfl⟩ := map_pick (p := fun x : Ln Up => UIn w g x.u ∧ UOk x.u) l fun x hx => ⟨hin x hx, hok x hx⟩
  have eg : ∀ args w, (callFunc 71 args).run Tryz.prog w = .ok (.enter 71 args) w := enters_of Tryz.func71 (by kernel_rfl) rfl
  have hlen : (m.map (·.1)).length = m.length := List.length_map ..
  letI : Inhabited {x : Ln Up // UIn w g x.u ∧ UOk x.u} := ⟨m[0]'(by rw [hlen] at hpos; exact hpos)⟩
  have hbl := World.block_lt_of_cell? w _ hbx
  have hcon := sort_gen (α := {x : Ln Up // UIn w g x.u ∧ UOk x.u}) Tryz.sortU 8 Tryz.isAgg86 Tryz.sizeOf86 (fun x => Ln.cells Up.cells x.1) (fun _ => rfl) (by decide) (fun x => lucells_one x.1)
    (fun x y => x.1.u.k.cmp y.1.u.k) (swo_lin uk_lin fun x : {x : Ln Up // UIn w g x.u ∧ UOk x.u} => x.1.u.k) 71 #[.pointer (some ⟨bx, 0, none⟩)] g cap m w eg
    (fun mm os dk _ x y => by
      have hb := sortWorld_below (enc := fun x : {x : Ln Up // UIn w g x.u ∧ UOk x.u} => Ln.cells Up.cells x.1) (k := 8) (off := 0) (m := mm) (dk := dk) (os := os) (Nat.le_refl g) hg
      have hs := hb.size
      exact closU_gr x.1 y.1 bx _ ((cell_heap (sortWorld_other hne hbl)).trans hbx) ((x.2.1.past hb (Nat.le_refl _)).wide (by omega)) ((y.2.1.past hb (Nat.le_refl _)).wide (by omega)) x.2.2 y.2.2)
    (fun i x hx j v hv => hrow i x.1 (by rw [List.getElem?_map, hx]; rfl) j v hv) hg (by rw [hlen] at hn; exact hn)
  change Calls Tryz.prog 70 _ _ _ at hcon
  rw [hlen]
  refine hcon.mono ?_
  rintro e w' ⟨rfl, l', hp, hs, hr, hb, ho⟩
  refine ⟨rfl, l'.map (·.1), hp.map _, ?_, fun i x hx j v hv => ?_, hb, ho⟩
  · rw [List.pairwise_map]
    exact hs.imp fun {a b} h => by
      have := uk_lin.swap a.1.u.k b.1.u.k
      omega
  · rw [List.getElem?_map] at hx
    obtain ⟨y, hy, rfl⟩ := Option.map_eq_some_iff.1 hx
    exact hr i y hy j v hv
end Go.Proofs.YtjffohpdjicfpaaGreat
namespace Go.Proofs.YtjffohpdjicfpaaGreat
open Go Go.RowKit
section
variable {I K : Type} {cmp : K → K → Int} {R : K → Prop} {f : I → K}
def pL (f : I → K) (x : Ln I) : K × Int := (f x.u, x.S)
def gsum (s : List (Ln I)) (k j : Nat) : Int := (((s.drop k).take (j - k)).map (·.S)).sum
theorem gsum_one {s : List (Ln I)} {k : Nat} {x : Ln I} (hx : s[k]? = some x) : gsum s k (k + 1) = x.S := by
  unfold gsum
  obtain ⟨h, rfl⟩ := List.getElem?_eq_some_iff.1 hx
  rw [show k + 1 - k = 1 by omega, List.drop_eq_getElem_cons h, List.take_succ_cons, List.take_zero]
  simp only [List.map_cons, List.map_nil, List.sum_cons, List.sum_nil, Int.add_zero]
theorem gsum_next {s : List (Ln I)} {k j : Nat} {y : Ln I} (hk : k ≤ j) (hy : s[j]? = some y) : gsum s k (j + 1) = gsum s k j + y.S := by
  unfold gsum
  rw [show j + 1 - k = (j - k) + 1 by omega, List.take_add_one, List.getElem?_drop, show k + (j - k) = j by omega, hy]
  simp
theorem gsum_bound {s : List (Ln I)} (h : ∀ x ∈ s, -9223372036854775808 ≤ x.S ∧ x.S ≤ 9223372036854775807) (hn : s.length ≤ 1099511627776) (k j : Nat) :
    -170141183460469231731687303715884105728 ≤ gsum s k j ∧ gsum s k j < 170141183460469231731687303715884105728 := by
  have h1 := sum_bound (((s.drop k).take (j - k)).map (·.S)) fun n hn => by
    obtain ⟨x, hx, rfl⟩ := List.mem_map.1 hn
    exact h x (List.mem_of_mem_drop (List.mem_of_mem_take hx))
  have h2 : (((s.drop k).take (j - k)).map (·.S)).length ≤ s.length := by
    rw [List.length_map, List.length_take, List.length_drop]; omega
  unfold gsum
  generalize (((s.drop k).take (j - k)).map (·.S)).length = a at *
  omega
def Bound (cmp : K → K → Int) (f : I → K) (s : List (Ln I)) (k : Nat) : Prop := ∀ a ∈ s.take k, ∀ b ∈ s.drop k, cmp (f a.u) (f b.u) < 0
theorem split_at (s : List (Ln I)) {k j : Nat} (hk : k ≤ j) : s.take j = s.take k ++ (s.drop k).take (j - k) := by
  rw [← List.take_append_drop k (s.take j), List.take_take, Nat.min_eq_left hk, List.drop_take]
theorem mem_mid {s : List (Ln I)} {k j : Nat} {y : Ln I} (h : y ∈ (s.drop k).take (j - k)) : ∃ m, k ≤ m ∧ m < j ∧ s[m]? = some y := by
  obtain ⟨i, hi⟩ := List.getElem?_of_mem h
  have h1 := (List.getElem?_eq_some_iff.1 hi).1
  rw [List.length_take, List.length_drop] at h1
  rw [List.getElem?_take_of_lt (by omega), List.getElem?_drop] at hi
  exact ⟨k + i, by omega, by omega, hi⟩
theorem group_step (L : Lin cmp R) {s : List (Ln I)} (hs : s.Pairwise fun x y => cmp (f x.u) (f y.u) ≤ 0) {k j : Nat} (hk : k < j) (hj : j ≤ s.length) {x : Ln I} (hx : s[k]? = some x)
    (heq : ∀ m y, k ≤ m → m < j → s[m]? = some y → cmp (f x.u) (f y.u) = 0) (hmax : ∀ y, s[j]? = some y → cmp (f x.u) (f y.u) ≠ 0) (hb : Bound cmp f s k) :
    Bound cmp f s j ∧ asm cmp ((s.take j).map (pL f)) = asm cmp ((s.take k).map (pL f)) ++ [(f x.u, gsum s k j)] := by
  have hpw := fun i j' (hi : i < s.length) (hj' : j' < s.length) (h : i < j') => List.pairwise_iff_getElem.1 hs i j' hi hj' h
  have hxk : x ∈ s.drop k := by
    have : (s.drop k)[0]? = some x := by rw [List.getElem?_drop]; exact hx
    exact List.mem_of_getElem? this
  have hlate : ∀ b ∈ s.drop j, cmp (f x.u) (f b.u) < 0 := fun b hb' => by
    obtain ⟨i, hi⟩ := List.getElem?_of_mem hb'
    rw [List.getElem?_drop] at hi
    obtain ⟨hlt, hbe⟩ := List.getElem?_eq_some_iff.1 hi
    have hjl : j < s.length := by omega
    have hy : s[j]? = some s[j] := List.getElem?_eq_getElem hjl
    obtain ⟨hkl, hxe⟩ := List.getElem?_eq_some_iff.1 hx
    have h1 := hpw k j hkl hjl hk
    rw [hxe] at h1
    have h2 := hmax _ hy
    rcases Nat.eq_zero_or_pos i with rfl | hi0
    · have hbe' : s[j] = b := hbe
      rw [← hbe']; omega
    · have h3 := hpw j (j + i) hjl hlt (by omega)
      rw [hbe] at h3
      exact L.lt_le (by omega) h3
  have hmid : ∀ y ∈ (s.drop k).take (j - k), cmp (f x.u) (f y.u) = 0 := fun y hy => by
    obtain ⟨m, h1, h2, h3⟩ := mem_mid hy
    exact heq m y h1 h2 h3
  constructor
  · intro a ha b hb'
    rw [split_at s (Nat.le_of_lt hk)] at ha
    rcases List.mem_append.1 ha with ha | ha
    · exact L.lt_trans (hb a ha x hxk) (hlate b hb')
    · have h0 := hmid a ha
      have := L.swap (f x.u) (f a.u)
      exact L.le_lt (by omega) (hlate b hb')
  · rw [split_at s (Nat.le_of_lt hk), List.map_append, asm_append]
    · congr 1
      obtain ⟨hkl, hxe⟩ := List.getElem?_eq_some_iff.1 hx
      have hc : (s.drop k).take (j - k) = x :: ((s.drop (k + 1)).take (j - k - 1)) := by
        rw [List.drop_eq_getElem_cons hkl, hxe, show j - k = (j - k - 1) + 1 by omega, List.take_succ_cons]
        simp
      unfold gsum
      rw [hc] at hmid ⊢
      rw [List.map_cons, asm_group L (pL f x) _ fun y hy => ?_]
      · simp only [pL, List.map_map, List.map_cons, List.sum_cons]
        rfl
      · obtain ⟨z, hz, rfl⟩ := List.mem_map.1 hy
        exact hmid z (by simp [hz])
    · intro a ha b hb'
      obtain ⟨a', ha', rfl⟩ := List.mem_map.1 ha
      obtain ⟨b', hb'', rfl⟩ := List.mem_map.1 hb'
      exact hb a' ha' b' (List.mem_of_mem_take hb'')
theorem nz_step {t u : List (K × Int)} {k : K} {n : Int} (h : asm cmp u = asm cmp t ++ [(k, n)]) : nz cmp u = nz cmp t ++ if n = 0 then [] else [(k, n)] := by
  unfold nz
  rw [h, List.filter_append]
  congr 1
  by_cases hn : n = 0 <;> simp [hn]
theorem fit_step {t u : List (K × Int)} {k : K} {n : Int} (h : asm cmp u = asm cmp t ++ [(k, n)]) : (asm cmp u).all (fun x => fits x.2) = ((asm cmp t).all (fun x => fits x.2) && fits n) := by
  rw [h, List.all_append]
  simp
theorem bad_step {s : List (Ln I)} {j : Nat} (hb : Bound cmp f s j) (h : (asm cmp ((s.take j).map (pL f))).all (fun x => fits x.2) = false) : (asm cmp (s.map (pL f))).all (fun x => fits x.2) = false := by
  have : s.map (pL f) = (s.take j).map (pL f) ++ (s.drop j).map (pL f) := by rw [← List.map_append, List.take_append_drop]
  rw [this, asm_append, List.all_append, h]
  · rfl
  · intro a ha b hb'
    obtain ⟨a', ha', rfl⟩ := List.mem_map.1 ha
    obtain ⟨b', hb'', rfl⟩ := List.mem_map.1 hb'
    exact hb a' ha' b' hb''
theorem res_perm (L : Lin cmp R) {s l : List (Ln I)} (hp : s.Perm l) (hR : ∀ x ∈ l, R (f x.u)) : resL cmp (s.map (pL f)) = resL cmp (l.map (pL f)) ∧ resE cmp (s.map (pL f)) = resE cmp (l.map (pL f)) :=
  resL_ext L (fun x hx => by
    obtain ⟨y, hy, rfl⟩ := List.mem_map.1 hx
    exact hR y (hp.mem_iff.1 hy)) (fun x hx => by
    obtain ⟨y, hy, rfl⟩ := List.mem_map.1 hx
    exact hR y hy) fun k => sumOf_perm (hp.map _) k
end
end Go.Proofs.YtjffohpdjicfpaaGreat
namespace Go.Proofs.YtjffohpdjicfpaaGreat
open Go Go.RowKit Go.Sort Go.Lib Go.Shelf
theorem sortU_all (v : Value) (n bx base : Nat) (l : List (Ln Up)) (w : World) (hnl : n = l.length) (h : w.ownsRow base 86 8 v n (l.flatMap (Ln.cells Up.cells))) (hbx : w.cell? ⟨bx, 0, none⟩ = some (.func (.func 34) #[] #[])) (hin : ∀ x ∈ l, UIn w base x.u) (hok : ∀ x ∈ l, UOk x.u) (hn : l.length < 4611686018427387904) :
    ∃ A c, v = .slice A n c ∧ Calls Tryz.prog 70 #[.slice A n c, .func (.func 71) #[] #[.pointer (some ⟨bx, 0, none⟩)]] w fun e w' => e = .returned (.tuple #[]) ∧ ∃ l' : List (Ln Up), l'.Perm l ∧ l'.Pairwise (fun x y => x.u.k.cmp y.u.k ≤ 0) ∧ Lies 8 (Ln.cells Up.cells) w' w'.heap.size A l' ∧ RowKit.Below base w w' ∧ w'.cell? ⟨bx, 0, none⟩ = some (.func (.func 34) #[] #[]) := by
  subst hnl
  by_cases h0 : l.length = 0
  · obtain rfl : l = [] := List.eq_nil_of_length_eq_zero h0
    have key : ∀ A c, Calls Tryz.prog 70 #[.slice A 0 c, .func (.func 71) #[] #[.pointer (some ⟨bx, 0, none⟩)]] w fun e w' => e = .returned (.tuple #[]) ∧ ∃ l' : List (Ln Up), l'.Perm [] ∧ l'.Pairwise (fun x y => x.u.k.cmp y.u.k ≤ 0) ∧ Lies 8 (Ln.cells Up.cells) w' w'.heap.size A l' ∧ RowKit.Below base w w' ∧ w'.cell? ⟨bx, 0, none⟩ = some (.func (.func 34) #[] #[]) := fun A c =>
      (AnyF.slices_SortFunc_none Tryz.sortU A c _ w).mono fun e w' ⟨he, hw⟩ => ⟨he, [], List.Perm.refl _, List.Pairwise.nil, Lies.nil_, hw ▸ RowKit.Below.refl _ _, hw ▸ hbx⟩
    rcases h.2 with ⟨rfl, _⟩ | ⟨g, cap, cur, rfl, _⟩
    · exact ⟨_, _, rfl, key _ _⟩
    · exact ⟨_, _, rfl, key _ _⟩
  · rcases h.2 with ⟨_, hz⟩ | ⟨g, cap, cur, rfl, hb, hheap, _⟩
    · exact absurd hz h0
    · have hg : g < w.heap.size := (Array.getElem?_eq_some_iff.1 hheap).1
      have hrow : RowOf (Ln.cells Up.cells) 8 w g l := fun i x hx j u hj => by
        have hf := flat_of (cells := Ln.cells Up.cells) (size := 8) (fun _ => rfl) l i j x u hx hj
        have hlt : i * 8 + j < l.length * 8 := by have := (List.getElem?_eq_some_iff.1 hf).1; rwa [flat_size (cells := Ln.cells Up.cells) (size := 8) (fun _ => rfl)] at this
        exact ⟨by rw [h.cellAt _ hlt]; exact hf, h.frozenAt _⟩
      have hne : bx ≠ g := fun e => by
        subst e
        have := (hrow 0 _ (List.getElem?_eq_getElem (show 0 < l.length by omega)) 0 _ rfl).1
        rw [show 0 * 8 + 0 = 0 by rfl, hbx] at this
        cases this
      refine ⟨_, _, rfl, (sortU_any bx g cap l w hrow hg hbx hne (fun x hx => (hin x hx).wide hb) hok (by omega) hn).mono ?_⟩
      rintro e w' ⟨he, l', hp, hs, hr, hbe, ho⟩
      refine ⟨he, l', hp, hs, fun _ => ⟨g, 0, rfl, Nat.lt_of_lt_of_le hg hbe.size, fun i x hx j u hj => ?_⟩, hbe.mono hb, (cell_heap (ho bx hne (World.block_lt_of_cell? w _ hbx))).trans hbx⟩
      rw [Nat.zero_add]
      exact (hr i x hx j u hj).1
end Go.Proofs.YtjffohpdjicfpaaGreat
