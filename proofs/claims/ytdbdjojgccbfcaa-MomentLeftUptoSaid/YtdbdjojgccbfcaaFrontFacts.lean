/- What a frontier is: sorted, none ahead of another one, and beyond it just what was beyond the list. -/
import Derived.Test.YtdbdjojgccbfcaaFartherFacts
namespace Go.Proofs.Ytdbdjojgccbfcaa
open Go Go.RowKit Go.Sort Go.Lib

/-- two of a frontier, the earlier one first -/
def Apart (x y : Tm) : Prop := ltOf Tm.cmp x y = true ∧ x.le y = false ∧ y.le x = false
theorem le_not_lt {x y : Tm} (h : x.le y = true) : ltOf Tm.cmp y x = false := by
  rw [Tm.le_iff] at h; rw [ltT]; simp; omega
theorem beyond_iff {l : List Tm} {t : Tm} : beyond l t = true ↔ ∃ x ∈ l, x.le t = true := by unfold beyond; rw [List.any_eq_true]
theorem sorted_unique' {R : Tm → Tm → Prop} (hi : ∀ x, ¬ R x x) (ha : ∀ x y, R x y → ¬ R y x) : ∀ l m : List Tm, l.Pairwise R → m.Pairwise R → (∀ x, x ∈ l ↔ x ∈ m) → l = m
  | [], [], _, _, _ => rfl
  | [], y :: m, _, _, h => absurd ((h y).2 List.mem_cons_self) (by simp)
  | x :: l, [], _, _, h => absurd ((h x).1 List.mem_cons_self) (by simp)
  | x :: l, y :: m, hl, hm, h => by
    rw [List.pairwise_cons] at hl hm
    have hxy : x = y := by
      rcases List.mem_cons.1 ((h x).1 List.mem_cons_self) with e | e
      · exact e
      · rcases List.mem_cons.1 ((h y).2 List.mem_cons_self) with e' | e'
        · exact e'.symm
        · exact absurd (hl.1 y e') (ha _ _ (hm.1 x e))
    subst hxy
    congr 1
    refine sorted_unique' hi ha l m hl.2 hm.2 fun z => ?_
    constructor
    · intro hz
      rcases List.mem_cons.1 ((h z).1 (List.mem_cons_of_mem _ hz)) with e | e
      · subst e; exact absurd (hl.1 z hz) (hi z)
      · exact e
    · intro hz
      rcases List.mem_cons.1 ((h z).2 (List.mem_cons_of_mem _ hz)) with e | e
      · subst e; exact absurd (hm.1 z hz) (hi z)
      · exact e
theorem frontTo_facts (s : List Tm) (hs : s.Pairwise fun x y => ltOf Tm.cmp y x = false) : ∀ k, k ≤ s.length →
    (frontTo s k).Pairwise Apart ∧ (∀ x ∈ frontTo s k, x ∈ s.take k) ∧ ∀ t, beyond (frontTo s k) t = beyond (s.take k) t
  | 0, _ => ⟨by simp [frontTo], by simp [frontTo], by simp [frontTo]⟩
  | k + 1, h => by
    obtain ⟨h1, h2, h3⟩ := frontTo_facts s hs k (by omega)
    have hx : s[k]? = some s[k] := List.getElem?_eq_getElem (by omega)
    have htk : s.take (k + 1) = s.take k ++ [s[k]] := by rw [List.take_add_one, hx]; rfl
    have hpw : ∀ x ∈ s.take k, ltOf Tm.cmp s[k] x = false := by
      have := hs.sublist (List.take_sublist (k + 1) s)
      rw [htk, List.pairwise_append] at this
      exact fun x hxk => this.2.2 x hxk _ (by simp)
    rw [frontTo_snoc hx, htk]
    generalize s[k] = t at *
    generalize frontTo s k = f at *
    unfold keepStep
    have hbs : ∀ u, beyond (s.take k ++ [t]) u = (beyond (s.take k) u || t.le u) := fun u => by simp [beyond]
    by_cases hb : beyond f t = true
    · rw [if_pos hb]
      refine ⟨h1, fun x hxf => List.mem_append_left _ (h2 x hxf), fun u => ?_⟩
      rw [hbs, h3]
      cases htu : t.le u with
      | false => simp
      | true =>
        obtain ⟨x, hxf, hxt⟩ := beyond_iff.1 hb
        rw [← h3, beyond_iff.2 ⟨x, hxf, le_trans' hxt htu⟩]; rfl
    · rw [if_neg hb]
      refine ⟨?_, fun x hxf => ?_, fun u => ?_⟩
      · rw [List.pairwise_append]
        refine ⟨h1, by simp, fun x hxf y hy => ?_⟩
        obtain rfl : y = t := by simpa using hy
        have hxt : x.le y = false := by
          cases hq : x.le y with
          | false => rfl
          | true => exact absurd (beyond_iff.2 ⟨x, hxf, hq⟩) hb
        have hlt : ltOf Tm.cmp x y = true := by
          cases hq : ltOf Tm.cmp x y with
          | true => rfl
          | false =>
            have := totT x y hq (hpw x (h2 x hxf))
            subst this
            rw [le_refl'] at hxt; cases hxt
        refine ⟨hlt, hxt, ?_⟩
        cases hq : y.le x with
        | false => rfl
        | true => have := le_not_lt hq; rw [hlt] at this; cases this
      · rcases List.mem_append.1 hxf with h | h
        · exact List.mem_append_left _ (h2 x h)
        · exact List.mem_append_right _ h
      · rw [hbs, ← h3]; simp [beyond]
theorem frontL_facts (l : List Tm) : (frontL l).Pairwise Apart ∧ (∀ x ∈ frontL l, x ∈ l) ∧ ∀ t, beyond (frontL l) t = beyond l t := by
  obtain ⟨h1, h2, h3⟩ := frontTo_facts (sortT l) (sortT_sorted l) (sortT l).length (Nat.le_refl _)
  rw [List.take_length] at h2 h3
  refine ⟨h1, fun x hx => mem_sortT.1 (h2 x hx), fun t => (h3 t).trans ?_⟩
  rw [Bool.eq_iff_iff, beyond_iff, beyond_iff]
  simp only [mem_sortT]
theorem apart_irrefl (x : Tm) : ¬ Apart x x := fun h => by have := h.2.1; rw [le_refl'] at this; cases this
theorem apart_asymm (x y : Tm) (h : Apart x y) : ¬ Apart y x := fun k => by
  have := swoT.trans _ _ _ h.1 k.1
  rw [swoT.irrefl] at this; cases this
/-- of two apart each is beyond itself alone -/
theorem mem_apart {f : List Tm} (hf : f.Pairwise Apart) {x y : Tm} (hx : x ∈ f) (hy : y ∈ f) (h : x.le y = true) : x = y := by
  by_cases e : x = y
  · exact e
  · have hs : ∀ (l : List Tm), l.Pairwise Apart → x ∈ l → y ∈ l → Apart x y ∨ Apart y x := by
      intro l
      induction l with
      | nil => intro _ h; simp at h
      | cons z l ih =>
        intro hp hx hy
        rw [List.pairwise_cons] at hp
        rcases List.mem_cons.1 hx with ex | hx'
        · rcases List.mem_cons.1 hy with ey | hy'
          · exact absurd (ex.trans ey.symm) e
          · exact .inl (ex ▸ hp.1 y hy')
        · rcases List.mem_cons.1 hy with ey | hy'
          · exact .inr (ey ▸ hp.1 x hx')
          · exact ih hp.2 hx' hy'
    rcases hs f hf hx hy with h' | h'
    · rw [h'.2.1] at h; cases h
    · rw [h'.2.2] at h; cases h
theorem apart_unique {f g : List Tm} (hf : f.Pairwise Apart) (hg : g.Pairwise Apart) (h : ∀ t, beyond f t = beyond g t) : f = g := by
  have key : ∀ {f g : List Tm}, f.Pairwise Apart → g.Pairwise Apart → (∀ t, beyond f t = beyond g t) → ∀ x, x ∈ f → x ∈ g := by
    intro f g hf hg h x hx
    obtain ⟨y, hy, hyx⟩ := beyond_iff.1 ((h x).symm.trans (beyond_iff.2 ⟨x, hx, le_refl' x⟩))
    obtain ⟨z, hz, hzy⟩ := beyond_iff.1 ((h y).trans (beyond_iff.2 ⟨y, hy, le_refl' y⟩))
    have := mem_apart hf hz hx (le_trans' hzy hyx)
    subst this
    rw [← le_anti hyx hzy]
    exact hy
  exact sorted_unique' apart_irrefl apart_asymm f g hf hg fun x => ⟨key hf hg h x, key hg hf (fun t => (h t).symm) x⟩
theorem front_congr {l m : List Tm} (h : ∀ t, beyond l t = beyond m t) : frontL l = frontL m :=
  apart_unique (frontL_facts l).1 (frontL_facts m).1 fun t => by rw [(frontL_facts l).2.2, (frontL_facts m).2.2, h]
theorem front_front (l : List Tm) : frontL (frontL l) = frontL l := front_congr (frontL_facts l).2.2
theorem front_nil {l : List Tm} (h : frontL l = []) : l = [] := by
  cases l with
  | nil => rfl
  | cons x l =>
    have := (frontL_facts (x :: l)).2.2 x
    rw [h, beyond_iff.2 ⟨x, List.mem_cons_self, le_refl' x⟩] at this
    simp [beyond] at this
theorem le_adv_t (t : Tm) (l : List Tm) : t.le (adv t l) = true := by
  by_cases h : l = []
  · subst h; exact le_refl' t
  · rw [le_adv _ _ _ h, List.all_eq_true]; intro z _; rw [Tm.le_iff]; simp only [Tm.sup]; omega
theorem sup_le {t x s : Tm} (h : t.le s = true) (k : x.le s = true) : (t.sup x).le s = true := by
  rw [Tm.le_iff] at *; simp only [Tm.sup]; omega
theorem adv_le {t x : Tm} {l : List Tm} (h : x ∈ l) : (adv t l).le (t.sup x) = true := by
  have := le_refl' (adv t l)
  rw [le_adv _ _ _ (by intro e; rw [e] at h; simp at h), List.all_eq_true] at this
  exact this x h
theorem adv_same (t s : Tm) (l : List Tm) (h : beyond l s = true) : t.le s = (adv t l).le s := by
  obtain ⟨x, hx, hxs⟩ := beyond_iff.1 h
  rw [Bool.eq_iff_iff]
  exact ⟨fun hts => le_trans' (adv_le hx) (sup_le hts hxs), fun h => le_trans' (le_adv_t t l) h⟩
theorem adv_again (t : Tm) (l : List Tm) : adv (adv t l) l = adv t l := by
  by_cases h : l = []
  · subst h; rfl
  · exact adv_later t l l h fun x hx => beyond_iff.2 ⟨x, hx, le_refl' x⟩
theorem adv_front (t : Tm) (l : List Tm) : adv t (frontL l) = adv t l := by
  by_cases h : l = []
  · subst h
    have : frontL [] = [] := by
      cases hq : frontL [] with
      | nil => rfl
      | cons x r => have := (frontL_facts []).2.1 x (by rw [hq]; exact List.mem_cons_self); simp at this
    rw [this]
  have h' : frontL l ≠ [] := fun e => h (front_nil e)
  have key : ∀ s : Tm, s.le (adv t (frontL l)) = s.le (adv t l) := by
    intro s
    rw [le_adv _ _ _ h', le_adv _ _ _ h, Bool.eq_iff_iff, List.all_eq_true, List.all_eq_true]
    constructor
    · intro k y hy
      obtain ⟨x, hx, hxy⟩ := beyond_iff.1 (((frontL_facts l).2.2 y).trans (beyond_iff.2 ⟨y, hy, le_refl' y⟩))
      refine le_trans' (k x hx) ?_
      rw [Tm.le_iff] at *; simp only [Tm.sup]; omega
    · intro k y hy; exact k y ((frontL_facts l).2.1 y hy)
  exact le_anti (by rw [← key]; exact le_refl' _) (by rw [key]; exact le_refl' _)
end Go.Proofs.Ytdbdjojgccbfcaa
