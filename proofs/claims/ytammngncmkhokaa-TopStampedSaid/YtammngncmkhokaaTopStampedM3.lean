/- Part 3 of the texts on which TopStamped rests: facts and contracts. -/
import Derived.Test.YtammngncmkhokaaTopStampedM2
import Derived.Tactics2
import Derived.Orders
import Derived.RegionTactic
import Derived.Deep.Cut
import Derived.Lib.Bytealg
import Derived.Laws.CopyRow
import Derived.Laws.CopyOwn
import Derived.OwnWalk
import Derived.Lib.AppendZerosOnto
import Derived.Lib.Overlaps
import Derived.Laws.Externs
namespace Go.Proofs.Ytammngncmkhokaa
open Go Go.RowKit

theorem foldl_inf (t : Tm) : ∀ (l : List Tm) (a s : Tm), s.le (l.foldl (fun a y => a.inf (t.sup y)) a) = (s.le a && l.all fun y => s.le (t.sup y))
  | [], a, s => by simp
  | x :: l, a, s => by
    rw [List.foldl_cons, foldl_inf t l, List.all_cons]
    have : s.le (a.inf (t.sup x)) = (s.le a && s.le (t.sup x)) := by
      rw [Bool.eq_iff_iff, Bool.and_eq_true, Tm.le_iff, Tm.le_iff, Tm.le_iff]
      simp only [Tm.inf]
      omega
    rw [this, Bool.and_assoc]
/-- what is ahead of an advanced time -/
theorem le_adv (s t : Tm) (l : List Tm) (h : l ≠ []) : s.le (adv t l) = l.all fun y => s.le (t.sup y) := by
  cases l with
  | nil => exact absurd rfl h
  | cons x l => simp [adv, foldl_inf]
theorem le_refl' (t : Tm) : t.le t = true := Tm.le_iff.2 ⟨Nat.le_refl _, Nat.le_refl _, Nat.le_refl _⟩
theorem le_anti {s t : Tm} (h : s.le t = true) (k : t.le s = true) : s = t := by
  rw [Tm.le_iff] at h k
  obtain ⟨a, b, c⟩ := s
  obtain ⟨d, e, f⟩ := t
  simp at *
  omega
theorem le_trans' {a b c : Tm} (h : a.le b = true) (k : b.le c = true) : a.le c = true := by
  rw [Tm.le_iff] at *; omega
/-- a time advanced to a list, then to a later one, is advanced to the later one -/
theorem adv_later (t : Tm) (f g : List Tm) (hg : g ≠ []) (h : ∀ x ∈ g, beyond f x = true) : adv (adv t f) g = adv t g := by
  have key : ∀ s : Tm, s.le (adv (adv t f) g) = s.le (adv t g) := by
    intro s
    rw [le_adv _ _ _ hg, le_adv _ _ _ hg, Bool.eq_iff_iff, List.all_eq_true, List.all_eq_true]
    have hsup : ∀ y ∈ g, (adv t f).sup y = t.sup y := by
      intro y hy
      by_cases hf : f = []
      · subst hf; simp [beyond] at h; exact absurd hy (by intro hy; exact (h y hy))
      obtain ⟨x, hx, hxy⟩ := List.any_eq_true.1 (h y hy)
      have h1 : t.le (adv t f) = true := by
        rw [le_adv _ _ _ hf, List.all_eq_true]; intro z _; rw [Tm.le_iff]; simp only [Tm.sup]; omega
      have h2 : (adv t f).le (t.sup x) = true := by
        have := le_refl' (adv t f)
        rw [le_adv _ _ _ hf, List.all_eq_true] at this
        exact this x hx
      rw [Tm.le_iff] at h1 h2 hxy
      simp only [Tm.sup] at h2 ⊢
      simp only [Tm.mk.injEq]
      omega
    constructor
    · intro k y hy; rw [← hsup y hy]; exact k y hy
    · intro k y hy; rw [hsup y hy]; exact k y hy
  exact le_anti (by rw [← key]; exact le_refl' _) (by rw [key]; exact le_refl' _)

attribute [local go_sem ↓] Go.wp_at_zero Go.wp_at_succ
theorem beyond_all {f g : List Tm} (h : ∀ (k : Nat) (x : Tm), g[k]? = some x → beyond f x = true) : ∀ x ∈ g, beyond f x = true := fun x hx => by
  obtain ⟨k, hk⟩ := List.mem_iff_getElem?.1 hx
  exact h k x hk

end Go.Proofs.Ytammngncmkhokaa
namespace Go.Proofs.Ytammngncmkhokaa
open Go Go.RowKit Go.Sort Go.Lib

/-- two of a frontier, the earlier one first -/
def Apart (x y : Tm) : Prop := ltOf Tm.cmp x y = true ∧ x.le y = false ∧ y.le x = false
theorem le_not_lt {x y : Tm} (h : x.le y = true) : ltOf Tm.cmp y x = false := by
  rw [Tm.le_iff] at h; rw [ltT]; simp; omega
theorem beyond_iff {l : List Tm} {t : Tm} : beyond l t = true ↔ ∃ x ∈ l, x.le t = true := by unfold beyond; rw [List.any_eq_true]
theorem sorted_unique' {R : Tm → Tm → Prop} (hi : ∀ x, ¬ R x x) (ha : ∀ x y, R x y → ¬ R y x) : ∀ l m : List Tm, l.Pairwise R → m.Pairwise R → (∀ x, x ∈ l ↔ x ∈ m) → l = m
  | [], [], _, _, _ => rfl
  | [], y :: m, _, _, h => absurd ((h y).2 List.mem_cons_self) (by simp)
  | x :: l, [], _, _, h => absurd ((h x).1 List.mem_cons_self) (by simp)
  | x :: l, y :: m, hl, hm, h => by
    rw [List.pairwise_cons] at hl hm
    have hxy : x = y := by
      rcases List.mem_cons.1 ((h x).1 List.mem_cons_self) with e | e
      · exact e
      · rcases List.mem_cons.1 ((h y).2 List.mem_cons_self) with e' | e'
        · exact e'.symm
        · exact absurd (hl.1 y e') (ha _ _ (hm.1 x e))
    subst hxy
    congr 1
    refine sorted_unique' hi ha l m hl.2 hm.2 fun z => ?_
    constructor
    · intro hz
      rcases List.mem_cons.1 ((h z).1 (List.mem_cons_of_mem _ hz)) with e | e
      · subst e; exact absurd (hl.1 z hz) (hi z)
      · exact e
    · intro hz
      rcases List.mem_cons.1 ((h z).2 (List.mem_cons_of_mem _ hz)) with e | e
      · subst e; exact absurd (hm.1 z hz) (hi z)
      · exact e
theorem frontTo_facts (s : List Tm) (hs : s.Pairwise fun x y => ltOf Tm.cmp y x = false) : ∀ k, k ≤ s.length →
    (frontTo s k).Pairwise Apart ∧ (∀ x ∈ frontTo s k, x ∈ s.take k) ∧ ∀ t, beyond (frontTo s k) t = beyond (s.take k) t
  | 0, _ => ⟨by simp [frontTo], by simp [frontTo], by simp [frontTo]⟩
  | k + 1, h => by
    obtain ⟨h1, h2, h3⟩ := frontTo_facts s hs k (by omega)
    have hx : s[k]? = some s[k] := List.getElem?_eq_getElem (by omega)
    have htk : s.take (k + 1) = s.take k ++ [s[k]] := by rw [List.take_add_one, hx]; rfl
    have hpw : ∀ x ∈ s.take k, ltOf Tm.cmp s[k] x = false := by
      have := hs.sublist (List.take_sublist (k + 1) s)
      rw [htk, List.pairwise_append] at this
      exact fun x hxk => this.2.2 x hxk _ (by simp)
    rw [frontTo_snoc hx, htk]
    generalize s[k] = t at *
    generalize frontTo s k = f at *
    unfold keepStep
    have hbs : ∀ u, beyond (s.take k ++ [t]) u = (beyond (s.take k) u || t.le u) := fun u => by simp [beyond]
    by_cases hb : beyond f t = true
    · rw [if_pos hb]
      refine ⟨h1, fun x hxf => List.mem_append_left _ (h2 x hxf), fun u => ?_⟩
      rw [hbs, h3]
      cases htu : t.le u with
      | false => simp
      | true =>
        obtain ⟨x, hxf, hxt⟩ := beyond_iff.1 hb
        rw [← h3, beyond_iff.2 ⟨x, hxf, le_trans' hxt htu⟩]; rfl
    · rw [if_neg hb]
      refine ⟨?_, fun x hxf => ?_, fun u => ?_⟩
      · rw [List.pairwise_append]
        refine ⟨h1, by simp, fun x hxf y hy => ?_⟩
        obtain rfl : y = t := by simpa using hy
        have hxt : x.le y = false := by
          cases hq : x.le y with
          | false => rfl
          | true => exact absurd (beyond_iff.2 ⟨x, hxf, hq⟩) hb
        have hlt : ltOf Tm.cmp x y = true := by
          cases hq : ltOf Tm.cmp x y with
          | true => rfl
          | false =>
            have := totT x y hq (hpw x (h2 x hxf))
            subst this
            rw [le_refl'] at hxt; cases hxt
        refine ⟨hlt, hxt, ?_⟩
        cases hq : y.le x with
        | false => rfl
        | true => have := le_not_lt hq; rw [hlt] at this; cases this
      · rcases List.mem_append.1 hxf with h | h
        · exact List.mem_append_left _ (h2 x h)
        · exact List.mem_append_right _ h
      · rw [hbs, ← h3]; simp [beyond]
theorem frontL_facts (l : List Tm) : (frontL l).Pairwise Apart ∧ (∀ x ∈ frontL l, x ∈ l) ∧ ∀ t, beyond (frontL l) t = beyond l t := by
  obtain ⟨h1, h2, h3⟩ := frontTo_facts (sortT l) (sortT_sorted l) (sortT l).length (Nat.le_refl _)
  rw [List.take_length] at h2 h3
  refine ⟨h1, fun x hx => mem_sortT.1 (h2 x hx), fun t => (h3 t).trans ?_⟩
  rw [Bool.eq_iff_iff, beyond_iff, beyond_iff]
  simp only [mem_sortT]
theorem apart_irrefl (x : Tm) : ¬ Apart x x := fun h => by have := h.2.1; rw [le_refl'] at this; cases this
theorem apart_asymm (x y : Tm) (h : Apart x y) : ¬ Apart y x := fun k => by
  have := swoT.trans _ _ _ h.1 k.1
  rw [swoT.irrefl] at this; cases this
/-- of two apart each is beyond itself alone -/
theorem mem_apart {f : List Tm} (hf : f.Pairwise Apart) {x y : Tm} (hx : x ∈ f) (hy : y ∈ f) (h : x.le y = true) : x = y := by
  by_cases e : x = y
  · exact e
  · have hs : ∀ (l : List Tm), l.Pairwise Apart → x ∈ l → y ∈ l → Apart x y ∨ Apart y x := by
      intro l
      induction l with
      | nil => intro _ h; simp at h
      | cons z l ih =>
        intro hp hx hy
        rw [List.pairwise_cons] at hp
        rcases List.mem_cons.1 hx with ex | hx'
        · rcases List.mem_cons.1 hy with ey | hy'
          · exact absurd (ex.trans ey.symm) e
          · exact .inl (ex ▸ hp.1 y hy')
        · rcases List.mem_cons.1 hy with ey | hy'
          · exact .inr (ey ▸ hp.1 x hx')
          · exact ih hp.2 hx' hy'
    rcases hs f hf hx hy with h' | h'
    · rw [h'.2.1] at h; cases h
    · rw [h'.2.2] at h; cases h
theorem apart_unique {f g : List Tm} (hf : f.Pairwise Apart) (hg : g.Pairwise Apart) (h : ∀ t, beyond f t = beyond g t) : f = g := by
  have key : ∀ {f g : List Tm}, f.Pairwise Apart → g.Pairwise Apart → (∀ t, beyond f t = beyond g t) → ∀ x, x ∈ f → x ∈ g := by
    intro f g hf hg h x hx
    obtain ⟨y, hy, hyx⟩ := beyond_iff.1 ((h x).symm.trans (beyond_iff.2 ⟨x, hx, le_refl' x⟩))
    obtain ⟨z, hz, hzy⟩ := beyond_iff.1 ((h y).trans (beyond_iff.2 ⟨y, hy, le_refl' y⟩))
    have := mem_apart hf hz hx (le_trans' hzy hyx)
    subst this
    rw [← le_anti hyx hzy]
    exact hy
  exact sorted_unique' apart_irrefl apart_asymm f g hf hg fun x => ⟨key hf hg h x, key hg hf (fun t => (h t).symm) x⟩
theorem front_congr {l m : List Tm} (h : ∀ t, beyond l t = beyond m t) : frontL l = frontL m :=
  apart_unique (frontL_facts l).1 (frontL_facts m).1 fun t => by rw [(frontL_facts l).2.2, (frontL_facts m).2.2, h]
theorem front_front (l : List Tm) : frontL (frontL l) = frontL l := front_congr (frontL_facts l).2.2
theorem front_nil {l : List Tm} (h : frontL l = []) : l = [] := by
  cases l with
  | nil => rfl
  | cons x l =>
    have := (frontL_facts (x :: l)).2.2 x
    rw [h, beyond_iff.2 ⟨x, List.mem_cons_self, le_refl' x⟩] at this
    simp [beyond] at this
theorem le_adv_t (t : Tm) (l : List Tm) : t.le (adv t l) = true := by
  by_cases h : l = []
  · subst h; exact le_refl' t
  · rw [le_adv _ _ _ h, List.all_eq_true]; intro z _; rw [Tm.le_iff]; simp only [Tm.sup]; omega
theorem sup_le {t x s : Tm} (h : t.le s = true) (k : x.le s = true) : (t.sup x).le s = true := by
  rw [Tm.le_iff] at *; simp only [Tm.sup]; omega
theorem adv_le {t x : Tm} {l : List Tm} (h : x ∈ l) : (adv t l).le (t.sup x) = true := by
  have := le_refl' (adv t l)
  rw [le_adv _ _ _ (by intro e; rw [e] at h; simp at h), List.all_eq_true] at this
  exact this x h
theorem adv_same (t s : Tm) (l : List Tm) (h : beyond l s = true) : t.le s = (adv t l).le s := by
  obtain ⟨x, hx, hxs⟩ := beyond_iff.1 h
  rw [Bool.eq_iff_iff]
  exact ⟨fun hts => le_trans' (adv_le hx) (sup_le hts hxs), fun h => le_trans' (le_adv_t t l) h⟩
theorem adv_again (t : Tm) (l : List Tm) : adv (adv t l) l = adv t l := by
  by_cases h : l = []
  · subst h; rfl
  · exact adv_later t l l h fun x hx => beyond_iff.2 ⟨x, hx, le_refl' x⟩
theorem adv_front (t : Tm) (l : List Tm) : adv t (frontL l) = adv t l := by
  by_cases h : l = []
  · subst h
    have : frontL [] = [] := by
      cases hq : frontL [] with
      | nil => rfl
      | cons x r => have := (frontL_facts []).2.1 x (by rw [hq]; exact List.mem_cons_self); simp at this
    rw [this]
  have h' : frontL l ≠ [] := fun e => h (front_nil e)
  have key : ∀ s : Tm, s.le (adv t (frontL l)) = s.le (adv t l) := by
    intro s
    rw [le_adv _ _ _ h', le_adv _ _ _ h, Bool.eq_iff_iff, List.all_eq_true, List.all_eq_true]
    constructor
    · intro k y hy
      obtain ⟨x, hx, hxy⟩ := beyond_iff.1 (((frontL_facts l).2.2 y).trans (beyond_iff.2 ⟨y, hy, le_refl' y⟩))
      refine le_trans' (k x hx) ?_
      rw [Tm.le_iff] at *; simp only [Tm.sup]; omega
    · intro k y hy; exact k y ((frontL_facts l).2.1 y hy)
  exact le_anti (by rw [← key]; exact le_refl' _) (by rw [key]; exact le_refl' _)
end Go.Proofs.Ytammngncmkhokaa
namespace Go.Proofs.Ytammngncmkhokaa
open Go

/-- the state behind those operations that have come up: each has left its value -/
def putsR : List (Option Tmp × Option Value) → Act → Act
  | [], a => a
  | (_, none) :: l, a => putsR l a
  | (d, some v) :: l, a => putsR l (a.put d v)
/-- no two operations leave their values in one temporary -/
def ApartR : List (Option Tmp) → Prop
  | [] => True
  | d :: l => (∀ t, d = some t → some t ∉ l) ∧ ApartR l
theorem putsR_put : ∀ (l : List (Option Tmp × Option Value)) (a : Act) (d : Option Tmp) (v : Value), (∀ t, d = some t → some t ∉ l.map Prod.fst) → putsR l (a.put d v) = (putsR l a).put d v
  | [], _, _, _, _ => rfl
  | (_, none) :: l, a, d, v, h => putsR_put l a d v fun t ht hm => h t ht (List.mem_cons_of_mem _ hm)
  | (e, some u) :: l, a, d, v, h => by
    show putsR l ((a.put d v).put e u) = (putsR l (a.put e u)).put d v
    rw [← putsR_put l (a.put e u) d v fun t ht hm => h t ht (List.mem_cons_of_mem _ hm)]
    congr 1
    exact Act.put_comm a v u fun t ht he => h t ht (by subst he; exact List.mem_cons_self)
theorem putsR_set : ∀ (l : List (Option Tmp × Option Value)) (a : Act) (i : Nat) (d : Option Tmp) (v : Value), ApartR (l.map Prod.fst) → l[i]? = some (d, none) → (putsR l a).put d v = putsR (l.set i (d, some v)) a
  | [], _, _, _, _, _, h => by simp at h
  | (e, x) :: l, a, 0, d, v, ha, h => by
    obtain ⟨rfl, rfl⟩ : e = d ∧ x = none := by simpa using h
    show (putsR l a).put e v = putsR l (a.put e v)
    exact (putsR_put l a e v ha.1).symm
  | (e, none) :: l, a, i + 1, d, v, ha, h => putsR_set l a i d v ha.2 (by simpa using h)
  | (e, some u) :: l, a, i + 1, d, v, ha, h => putsR_set l (a.put e u) i d v ha.2 (by simpa using h)
theorem putsR_size : ∀ (l : List (Option Tmp × Option Value)) (a : Act), (putsR l a).tmps.size = a.tmps.size
  | [], _ => rfl
  | (_, none) :: l, a => putsR_size l a
  | (d, some v) :: l, a => (putsR_size l (a.put d v)).trans (by cases d <;> simp [Act.put])
/-- a temporary that none leaves its value in -/
theorem putsR_miss : ∀ (l : List (Option Tmp × Option Value)) (a : Act) (t : Tmp), (∀ v, (some t, some v) ∉ l) → (putsR l a).eval (.tmp t) = a.eval (.tmp t)
  | [], _, _, _ => rfl
  | (_, none) :: l, a, t, h => putsR_miss l a t fun v hm => h v (List.mem_cons_of_mem _ hm)
  | (d, some v) :: l, a, t, h => by
    show (putsR l (a.put d v)).eval (.tmp t) = _
    rw [putsR_miss l (a.put d v) t fun v hm => h v (List.mem_cons_of_mem _ hm)]
    exact Act.eval_put fun e he ht => h v (by cases ht; subst he; exact List.mem_cons_self)
theorem putsR_hit : ∀ (l : List (Option Tmp × Option Value)) (a : Act) (i : Nat) (t : Tmp) (v : Value), ApartR (l.map Prod.fst) → l[i]? = some (some t, some v) → t < a.tmps.size → (putsR l a).eval (.tmp t) = v
  | [], _, _, _, _, _, h, _ => by simp at h
  | (e, x) :: l, a, 0, t, v, ha, h, ht => by
    obtain ⟨rfl, rfl⟩ : e = some t ∧ x = some v := by simpa using h
    show (putsR l (a.put (some t) v)).eval (.tmp t) = v
    rw [putsR_miss l _ t fun u hm => ha.1 t rfl (List.mem_map.2 ⟨_, hm, rfl⟩)]
    simp [Act.eval, Act.put, ht]
  | (e, none) :: l, a, i + 1, t, v, ha, h, ht => putsR_hit l a i t v ha.2 (by simpa using h) ht
  | (e, some u) :: l, a, i + 1, t, v, ha, h, ht => putsR_hit l (a.put e u) i t v ha.2 (by simpa using h) (by cases e <;> simpa [Act.put] using ht)
theorem apartR_of {l : List (Option Tmp)} (h : (l.filterMap id).Nodup) : ApartR l := by
  induction l with
  | nil => trivial
  | cons d l ih =>
    cases d with
    | none => exact ⟨fun t ht => (by cases ht), ih (by simpa using h)⟩
    | some t =>
      have h' : (t :: l.filterMap id).Nodup := by simpa using h
      refine ⟨fun s hs hm => ?_, ih (List.nodup_cons.1 h').2⟩
      cases hs
      exact (List.nodup_cons.1 h').1 (List.mem_filterMap.2 ⟨_, hm, rfl⟩)

section
variable {P : Program} {Q : Exit → Act → World → Prop}
/-- every operation waits for earlier ones alone -/
def earlyR (l : List Oper) : Bool := (List.range l.length).all fun i => ((l[i]?).map fun o => o.after.all fun e => decide (e.on < i)).getD true
theorem earlyR_spec {l : List Oper} (h : earlyR l = true) {i : Nat} {o : Oper} (ho : l[i]? = some o) : ∀ e ∈ o.after, e.on < i := by
  unfold earlyR at h
  rw [List.all_eq_true] at h
  have := h i (List.mem_range.2 (List.getElem?_eq_some_iff.1 ho).1)
  rw [ho] at this
  simp only [Option.map_some, Option.getD_some, Array.all_eq_true_iff_forall_mem, decide_eq_true_eq] at this
  exact this
def slotsR (l : List Oper) (vals : List (Option Value)) : List (Option Tmp × Option Value) := (l.map Oper.dst).zip vals
theorem slotsR_fst {l : List Oper} {vals : List (Option Value)} (h : vals.length = l.length) : (slotsR l vals).map Prod.fst = l.map Oper.dst := by
  unfold slotsR; rw [List.map_fst_zip]; simp [h]
theorem slotsR_at {l : List Oper} {vals : List (Option Value)} {i : Nat} {o : Oper} {x : Option Value} (ho : l[i]? = some o) (hx : vals[i]? = some x) : (slotsR l vals)[i]? = some (o.dst, x) := by
  unfold slotsR; rw [List.getElem?_zip_eq_some]; simp [ho, hx]
theorem slotsR_set {l : List Oper} {vals : List (Option Value)} {i : Nat} {o : Oper} {x : Option Value} (ho : l[i]? = some o) : slotsR l (vals.set i x) = (slotsR l vals).set i (o.dst, x) := by
  unfold slotsR
  apply List.ext_getElem?
  intro j
  by_cases hij : i = j
  · subst hij
    rw [List.getElem?_set]
    rw [if_pos rfl]
    by_cases hl : i < vals.length
    · have : (vals.set i x)[i]? = some x := by simp [hl]
      have h2 := slotsR_at ho this
      unfold slotsR at h2
      rw [h2, if_pos]
      have := (List.getElem?_eq_some_iff.1 ho).1
      simp; omega
    · rw [List.set_eq_of_length_le (by omega), if_neg (by simp; omega)]
      rw [List.getElem?_eq_none]; simp; omega
  · rw [List.getElem?_set_ne hij, List.zip_eq_zipWith, List.zip_eq_zipWith, List.getElem?_zipWith, List.getElem?_zipWith, List.getElem?_set_ne hij]
/-- what has come up: some operations, those that they wait for among them -/
structure CameUp (l : List Oper) (vals : List (Option Value)) : Prop where
  len : vals.length = l.length
  closed : ∀ (i : Nat) (o : Oper) (v : Value), l[i]? = some o → vals[i]? = some (some v) → ∀ e ∈ o.after, Region.binds .any e = true → ∃ u, vals[e.on]? = some (some u)
def flagsR (vals : List (Option Value)) : Array Bool := (vals.map Option.isSome).toArray
theorem flagsR_set (vals : List (Option Value)) (i : Nat) (v : Value) : (flagsR vals).setIfInBounds i true = flagsR (vals.set i (some v)) := by
  unfold flagsR
  apply Array.ext'
  simp [List.map_set]
theorem flagR_at {vals : List (Option Value)} {i : Nat} {d : Bool} (h : i < vals.length) : (flagsR vals).getD i d = (vals[i]).isSome := by
  unfold flagsR
  rw [Array.getD_eq_getD_getElem?]
  simp [h]
/-- **a region that draws its order, one step law an operation**: F holds of what has come up and of the world -/
theorem wp_region_steps {id : Nat} {l : List Oper} {a : Act} {w : World} (hm : P.follows .mixedOrders = true) (he : earlyR l = true) (hd : ((l.map Oper.dst).filterMap _root_.id).Nodup)
    (F : List (Option Value) → World → Prop) (h0 : F (l.map fun _ => none) w.drew)
    (hstep : ∀ (i : Nat) (o : Oper) (vals : List (Option Value)) (w' : World), l[i]? = some o → CameUp l vals → vals[i]? = some none → (∀ e ∈ o.after, Region.binds .any e = true → ∃ u, vals[e.on]? = some (some u)) → F vals w' →
      ∀ K : Act → World → Prop, (∀ v w'', F (vals.set i (some v)) w'' → K ((putsR (slotsR l vals) a).put o.dst v) w'') →
      if Region.wanted o (yielded l.toArray (putsR (slotsR l vals) a).tmps) = true then Oper.wp P o (putsR (slotsR l vals) a) w' K Q else K ((putsR (slotsR l vals) a).put o.dst undef) w')
    (hend : ∀ (vs : List Value) (w' : World), vs.length = l.length → F (vs.map some) w' → Q .normal (putsR (slotsR l (vs.map some)) a) w') :
    (Code.region id l.toArray true).wp P Q a w := by
  refine wp_region_any hm ?_
  have hap : ∀ vals : List (Option Value), vals.length = l.length → ApartR ((slotsR l vals).map Prod.fst) := fun vals hv => by rw [slotsR_fst hv]; exact apartR_of hd
  have key : ∀ (n : Nat) (vals : List (Option Value)) (w' : World), CameUp l vals → (vals.filter (fun x => x.isNone)).length ≤ n → F vals w' → wpAny P .any l.toArray Q n (flagsR vals) (putsR (slotsR l vals) a) w' := by
    have all : ∀ (vals : List (Option Value)), CameUp l vals → Region.ready .any l.toArray (flagsR vals) = [] → ∀ i, i < l.length → ∃ v, vals[i]? = some (some v) := by
      intro vals hc hr i
      induction i using Nat.strongRecOn with
      | _ i ih =>
        intro hi
        have hiv : i < vals.length := by rw [hc.len]; exact hi
        cases hx : vals[i] with
        | some v => exact ⟨v, by rw [List.getElem?_eq_getElem hiv, hx]⟩
        | none =>
          exfalso
          have hmem : i ∈ Region.ready .any l.toArray (flagsR vals) := mem_ready.2 ⟨by rw [flagR_at hiv, hx]; rfl, l[i], by simp [hi], fun e hem hb => by
            have hlt := earlyR_spec he (List.getElem?_eq_getElem hi) e hem
            obtain ⟨u, hu⟩ := ih e.on hlt (by omega)
            have hel : e.on < vals.length := by omega
            rw [flagR_at hel]
            rw [List.getElem?_eq_getElem hel] at hu
            injection hu with hu
            rw [hu]; rfl⟩
          rw [hr] at hmem
          cases hmem
    have done : ∀ (vals : List (Option Value)) (w' : World), CameUp l vals → F vals w' → Region.ready .any l.toArray (flagsR vals) = [] → Q .normal (putsR (slotsR l vals) a) w' := by
      intro vals w' hc hF hr
      have hall := all vals hc hr
      have hv : vals = (vals.map fun x => x.getD undef).map some := by
        apply List.ext_getElem?
        intro i
        rw [List.getElem?_map, List.getElem?_map]
        by_cases hi : i < vals.length
        · obtain ⟨v, hv⟩ := hall i (by rw [← hc.len]; exact hi)
          rw [hv]; rfl
        · rw [List.getElem?_eq_none (by omega)]; rfl
      rw [hv] at hF ⊢
      exact hend _ w' (by rw [List.length_map]; exact hc.len) hF
    intro n
    induction n with
    | zero =>
      intro vals w' hc hn hF
      have hr : Region.ready .any l.toArray (flagsR vals) = [] := by
        rw [List.eq_nil_iff_forall_not_mem]
        intro i hi
        obtain ⟨h1, o, ho, _⟩ := mem_ready.1 hi
        have hil : i < l.length := by have := (Array.getElem?_eq_some_iff.1 ho).1; simpa using this
        have hiv : i < vals.length := by rw [hc.len]; exact hil
        rw [flagR_at hiv] at h1
        have hno : vals[i] = none := by cases h : vals[i] with | none => rfl | some v => rw [h] at h1; cases h1
        have : vals[i] ∈ vals.filter (fun x => x.isNone) := List.mem_filter.2 ⟨List.getElem_mem hiv, by rw [hno]; rfl⟩
        have := List.length_pos_of_mem this
        omega
      exact ⟨hr, done vals w' hc hF hr⟩
    | succ n ih =>
      intro vals w' hc hn hF
      refine ⟨fun hr => done vals w' hc hF hr, fun i hi => ?_⟩
      obtain ⟨h1, o, ho, hdeps⟩ := mem_ready.1 hi
      have ho' : l[i]? = some o := by simpa using ho
      have hil : i < l.length := (List.getElem?_eq_some_iff.1 ho').1
      have hiv : i < vals.length := by rw [hc.len]; exact hil
      rw [flagR_at hiv] at h1
      have hno : vals[i] = none := by cases h : vals[i] with | none => rfl | some v => rw [h] at h1; cases h1
      have hno' : vals[i]? = some none := by rw [List.getElem?_eq_getElem hiv, hno]
      have hdeps' : ∀ e ∈ o.after, Region.binds .any e = true → ∃ u, vals[e.on]? = some (some u) := fun e hem hb => by
        have h2 := hdeps e hem hb
        have hlt := earlyR_spec he ho' e hem
        have hel : e.on < vals.length := by omega
        rw [flagR_at hel] at h2
        obtain ⟨u, hu⟩ := Option.isSome_iff_exists.1 h2
        exact ⟨u, by rw [List.getElem?_eq_getElem hel, hu]⟩
      refine wpOp_step ho fun K' hK => hstep i o vals w' ho' hc hno' hdeps' hF K' fun v w'' hF' => hK _ _ ?_
      have hc' : CameUp l (vals.set i (some v)) := by
        refine ⟨by rw [List.length_set]; exact hc.len, fun j oj u hoj hu e hem hb => ?_⟩
        have hs : ∀ k u, vals[k]? = some (some u) → ∃ u', (vals.set i (some v))[k]? = some (some u') := fun k u hk => by
          by_cases hik : i = k
          · subst hik; rw [hno'] at hk; cases hk
          · exact ⟨u, by rw [List.getElem?_set_ne hik]; exact hk⟩
        by_cases hij : i = j
        · subst hij
          rw [ho'] at hoj
          cases hoj
          obtain ⟨u', hu'⟩ := hdeps' e hem hb
          exact hs _ _ hu'
        · rw [List.getElem?_set_ne hij] at hu
          obtain ⟨u', hu'⟩ := hc.closed j oj u hoj hu e hem hb
          exact hs _ _ hu'
      rw [flagsR_set vals i v, putsR_set _ a i o.dst v (hap vals hc.len) (slotsR_at ho' hno'), ← slotsR_set ho']
      refine ih _ w'' hc' ?_ hF'
      have hcnt : ∀ (vals : List (Option Value)) (i : Nat), vals[i]? = some none → ((vals.set i (some v)).filter (fun x => x.isNone)).length + 1 = (vals.filter (fun x => x.isNone)).length := by
        intro vals
        induction vals with
        | nil => intro i h; simp at h
        | cons x vals ih =>
          intro i h
          cases i with
          | zero =>
            obtain rfl : x = none := by simpa using h
            simp
          | succ i =>
            have := ih i (by simpa using h)
            rw [List.set_cons_succ, List.filter_cons, List.filter_cons]
            split <;> simp_all
      have := hcnt vals i hno'
      omega
  have h := key l.length (l.map fun _ => none) w.drew ⟨by simp, fun i o v _ hv => by rw [List.getElem?_map] at hv; cases l[i]? <;> simp at hv⟩ (by
    refine Nat.le_trans (List.length_filter_le _ _) (by simp)) h0
  have e1 : flagsR (l.map fun _ => none) = Array.replicate l.toArray.size false := by
    unfold flagsR
    apply Array.ext'
    rw [List.map_map]
    show List.map (fun _ => false) l = _
    rw [List.map_const', List.size_toArray, Array.toList_replicate]
  have e2 : putsR (slotsR l (l.map fun _ => none)) a = a := by
    have : ∀ (m : List (Option Tmp × Option Value)) (a : Act), (∀ x ∈ m, x.2 = none) → putsR m a = a := by
      intro m
      induction m with
      | nil => intro a _; rfl
      | cons x m ih =>
        intro a h
        obtain ⟨d, y⟩ := x
        obtain rfl : y = none := h (d, y) List.mem_cons_self
        exact ih a fun z hz => h z (List.mem_cons_of_mem _ hz)
    refine this _ a fun x hx => ?_
    obtain ⟨d, y⟩ := x
    have := (List.of_mem_zip hx).2
    simp at this
    exact this.2.symm
  rw [e1, e2] at h
  simpa using h
end
end Go.Proofs.Ytammngncmkhokaa
namespace Go.Proofs.Ytammngncmkhokaa
open Go Go.RowKit

/-- the operations of the region: T the slice's type, 'so' its slot, 'sa' the place's, op5 what makes the new one -/
abbrev insOps (T TI T5 : TypeId) (d0 d1 d2 d3 d4 d5 d6 d7 d8 d9 d10 d11 so sa : Tmp) (op5 : Op) (p0 p1 p2 p3 p4 p5 p6 p7 p8 p9 p10 p11 p12 : String) : List Oper :=
  [{ dst := some d0, op := .buildSlice T 0 #[], type := T, pos := p0, after := #[], guard := none },
   { dst := some d1, op := .move (.tmp so), type := T, pos := p1, after := #[], guard := none },
   { dst := some d2, op := .move (.tmp sa), type := TI, pos := p2, after := #[], guard := none },
   { dst := some d3, op := .slice T (.tmp d1) none (some (.tmp d2)) none, type := T, pos := p3, after := #[{ on := 1, ground := .data }, { on := 2, ground := .data }], guard := none },
   { dst := some d4, op := .call { callee := .builtin .append, args := #[.tmp d0, .tmp d3], argTypes := #[T, T] }, type := T, pos := p4, after := #[{ on := 0, ground := .data }, { on := 3, ground := .data }], guard := none },
   { dst := some d5, op := op5, type := T5, pos := p5, after := #[], guard := none },
   { dst := some d6, op := .buildSlice T 1 #[(0, .tmp d5)], type := T, pos := p6, after := #[{ on := 5, ground := .data }], guard := none },
   { dst := some d7, op := .call { callee := .builtin .append, args := #[.tmp d4, .tmp d6], argTypes := #[T, T] }, type := T, pos := p7, after := #[{ on := 4, ground := .data }, { on := 6, ground := .data }, { on := 4, ground := .chain }], guard := none },
   { dst := some d8, op := .move (.tmp so), type := T, pos := p8, after := #[], guard := none },
   { dst := some d9, op := .move (.tmp sa), type := TI, pos := p9, after := #[], guard := none },
   { dst := some d10, op := .slice T (.tmp d8) (some (.tmp d9)) none none, type := T, pos := p10, after := #[{ on := 8, ground := .data }, { on := 9, ground := .data }], guard := none },
   { dst := some d11, op := .call { callee := .builtin .append, args := #[.tmp d7, .tmp d10], argTypes := #[T, T] }, type := T, pos := p11, after := #[{ on := 7, ground := .data }, { on := 10, ground := .data }, { on := 7, ground := .chain }], guard := none },
   { dst := some so, op := .assign (.tmp d11), type := T, pos := p12, after := #[{ on := 11, ground := .data }, { on := 11, ground := .chain }, { on := 0, ground := .phase }, { on := 1, ground := .phase }, { on := 2, ground := .phase }, { on := 3, ground := .phase }, { on := 4, ground := .phase }, { on := 5, ground := .phase }, { on := 6, ground := .phase }, { on := 7, ground := .phase }, { on := 8, ground := .phase }, { on := 9, ground := .phase }, { on := 10, ground := .phase }, { on := 11, ground := .phase }], guard := none }]
section
variable {P : Program} {α : Type} {size : Nat} {cells : α → List Value}
/-- what holds while they come up -/
structure InsG (V : World) (e : TypeId) (size : Nat) (cells : α → List Value) (l : List α) (x : α) (i : Nat) (O I S1 S2 X : Value) (x0 x1 x2 x3 x4 x5 x6 x7 x8 x9 x10 x11 x12 : Option Value) (w : World) : Prop where
  below : Below V.heap.size V w
  m1 : ∀ v, x1 = some v → v = O
  m2 : ∀ v, x2 = some v → v = I
  s3 : ∀ v, x3 = some v → v = S1
  k5 : ∀ v, x5 = some v → v = X
  m8 : ∀ v, x8 = some v → v = O
  m9 : ∀ v, x9 = some v → v = I
  s10 : ∀ v, x10 = some v → v = S2
  r0 : ∀ v, x0 = some v → x4 = none → w.ownsRow V.heap.size e size v 0 []
  r4 : ∀ v, x4 = some v → x7 = none → w.ownsRow V.heap.size e size v i ((l.take i).flatMap cells)
  b6 : ∀ v, x6 = some v → x7 = none → ∃ g, v = .slice (some ⟨g, 0, none⟩) 1 1 ∧ Own w g e (cells x) ∧ ∀ v0, x0 = some v0 → x4 = none → v0.ownBlock ≠ some g
  r7 : ∀ v, x7 = some v → x11 = none → w.ownsRow V.heap.size e size v (i + 1) ((l.take i ++ [x]).flatMap cells)
  r11 : ∀ v, x11 = some v → w.ownsRow V.heap.size e size v (l.length + 1) ((l.take i ++ x :: l.drop i).flatMap cells)
  a12 : ∀ v, x12 = some v → x11 = some v
theorem step_value {P : Program} {Q : Exit → Act → World → Prop} {ops : Array Oper} {o : Oper} {a : Act} {K : Act → World → Prop} {w w' : World} {v : Value} {E : Prop} (hg : o.guard = none) (hr : (execOp a.eval o).run P w = .ok (.value v) w') (h : K (a.put o.dst v) w') :
    if Region.wanted o (yielded ops a.tmps) = true then Oper.wp P o a w K Q else E := by
  have hw : Region.wanted o (yielded ops a.tmps) = true := by simp [Region.wanted, hg]
  rw [if_pos hw]
  unfold Oper.wp
  rw [hr]
  exact h
theorem nodup_at {β : Type} {l : List β} (h : l.Nodup) {i j : Nat} {x : β} (hi : l[i]? = some x) (hj : l[j]? = some x) : i = j := by
  obtain ⟨h1, e1⟩ := List.getElem?_eq_some_iff.1 hi
  obtain ⟨h2, e2⟩ := List.getElem?_eq_some_iff.1 hj
  exact (List.getElem_inj h).1 (e1.trans e2.symm)
theorem slots_mem {l : List Oper} {vals : List (Option Value)} {t : Tmp} {v : Value} (h : (some t, some v) ∈ slotsR l vals) : ∃ j : Nat, (l.map Oper.dst)[j]? = some (some t) ∧ vals[j]? = some (some v) := by
  obtain ⟨j, hj⟩ := List.mem_iff_getElem?.1 h
  unfold slotsR at hj
  rw [List.getElem?_zip_eq_some] at hj
  exact ⟨j, hj.1, hj.2⟩
theorem step_app {Q : Exit → Act → World → Prop} (w : World) {ops : Array Oper} {o : Oper} {a : Act} {K : Act → World → Prop} {E : Prop} (hgd : o.guard = none) (s x : Operand) (t e : TypeId)
    (ho : o.op = .call { callee := .builtin .append, args := #[s, x], argTypes := #[t, t] })
    (i0 : TypeInfo) (z : Value) (bytes : Nat) (ht : P.underlying t = some (.slice e)) (hi : P.info? e = some i0) (hz0 : i0.zero = some z) (hz1 : i0.size = size) (hz2 : i0.bytes = bytes) (hzs : z.cells.size = size) (hpos : 0 < size) (hcl : ∀ x, (cells x).length = size) (hone : ∀ x, ∀ u ∈ cells x, u.oneCell' = true)
    (base : Nat) (v : Value) (n : Nat) (xs : List Value) (hs : a.eval s = v) (hown : w.ownsRow base e size v n xs)
    (B : Nat) (A : Option Addr) (c : Nat) (l : List α) (k : Nat) (hk : l.length = k) (hx : a.eval x = .slice A k c) (hl : Lies size cells w B A l) (h63 : n + k ≤ maxLen) (hn : (n + k) * bytes ≤ 140737488355328) (hbase : base ≤ w.heap.size)
    (h : ∀ v' w', w'.ownsRow base e size v' (n + k) (xs ++ l.flatMap cells) → Below base w w' → w.grownBy w' v.ownBlock → K (a.put o.dst v') w') :
    if Region.wanted o (yielded ops a.tmps) = true then Oper.wp P o a w K Q else E := by
  subst hk
  obtain ⟨v', w', hrun, ho', hb, hg⟩ : ∃ v' w', (Builtin.append_ #[t, t] o.type #[v, .slice A l.length c]).run P w = .ok v' w' ∧ w'.ownsRow base e size v' (n + l.length) (xs ++ l.flatMap cells) ∧ Below base w w' ∧ w.grownBy w' v.ownBlock := by
    cases A with
    | none =>
      have h0 : l = [] := by
        cases l with
        | nil => rfl
        | cons x l => obtain ⟨_, _, e, _⟩ := hl (by simp); cases e
      subst h0
      exact ⟨v, w, run_append_none w base _ _ _ i0 size ht hi v n xs hown c, by simpa using hown, Below.refl _ _, ⟨rfl, rfl, rfl, Nat.le_refl _, fun _ _ _ => rfl⟩⟩
    | some ad =>
      have hnews : ∀ j u, (l.flatMap cells)[j]? = some u → w.cell? (ad.add j) = some u := by
        intro j u hu
        obtain ⟨i, r, y, rfl, hi, hr⟩ := flat_back hpos hcl l j u hu
        have hp : 0 < l.length := by have := (List.getElem?_eq_some_iff.1 hi).1; omega
        obtain ⟨b, o, e, _, hc⟩ := hl hp
        obtain rfl : ad = ⟨b, o, none⟩ := by injection e
        have ea : (⟨b, o, none⟩ : Addr).add (i * size + r) = ⟨b, o + i * size + r, none⟩ := by unfold Addr.add; split <;> simp_all <;> omega
        rw [ea]
        exact hc i y hi r u hr
      obtain ⟨v', w', hr, h2, h3, _, _⟩ := run_append_own_at (P := P) w base t o.type e i0 _ size bytes ht hi hz0 hz1 hz2 hzs hpos v n xs hown ad l.length c (l.flatMap cells) (flat_size hcl l) hnews
        (fun u hu => by obtain ⟨y, _, hy⟩ := List.mem_flatMap.1 hu; exact hone y u hy) h63 hn hbase
      exact ⟨v', w', hr, h2, (Below.refl base w).grown h3 hbase (fun k hk => (hown.lt k hk).1), h3⟩
  refine step_value (v := v') (w' := w') hgd ?_ (h v' w' ho' hb hg)
  unfold execOp
  simp only [ho, resolve, invoke, builtin, Sem.run_bind, Sem.run_pure, Result.andThen_ok, List.map_toArray, List.map_cons, List.map_nil, hs, hx, hrun]
set_option maxRecDepth 100000 in
set_option maxHeartbeats 3200000 in
/-- **the three appends**, in whatever order: the new row lies in memory of its own -/
theorem wp_ins {id : Nat} {Q : Exit → Act → World → Prop} {a : Act} {V : World} (hm : P.follows .mixedOrders = true) {T TI T5 e : TypeId} {d0 d1 d2 d3 d4 d5 d6 d7 d8 d9 d10 d11 so sa : Tmp} {op5 : Op} {p0 p1 p2 p3 p4 p5 p6 p7 p8 p9 p10 p11 p12 : String}
    (hd : [d0, d1, d2, d3, d4, d5, d6, d7, d8, d9, d10, d11, so].Nodup) (hda : sa ∉ [d0, d1, d2, d3, d4, d5, d6, d7, d8, d9, d10, d11, so]) (nt : Nat) (hnt : a.tmps.size = nt) (hsz : ∀ d ∈ [d0, d1, d2, d3, d4, d5, d6, d7, d8, d9, d10, d11, so], d < nt)
    (i0 : TypeInfo) (z : Value) (bytes : Nat) (ht : P.underlying T = some (.slice e)) (hi : P.info? e = some i0) (hz0 : i0.zero = some z) (hz1 : i0.size = size) (hz2 : i0.bytes = bytes) (hzs : z.cells.size = size) (hpos : 0 < size) (hcl : ∀ x, (cells x).length = size) (hone : ∀ x, ∀ u ∈ cells x, u.oneCell' = true)
    (l : List α) (x : α) (i : Nat) (A : Option Addr) (c n : Nat) (hln : l.length = n) (hil : i ≤ n) (hnc : n ≤ c) (hbig : n + 1 ≤ maxLen) (hby : (n + 1) * bytes ≤ 140737488355328)
    (ho : a.eval (.tmp so) = .slice A n c) (hat : a.eval (.tmp sa) = .int .i64 (i : Int)) (hl : Lies size cells V V.heap.size A l)
    (X : Value) (h5 : ∀ (a' : Act) (w' : World) (t5 : TypeId), (∀ t, t ∉ [d0, d1, d2, d3, d4, d5, d6, d7, d8, d9, d10, d11, so] → a'.eval (.tmp t) = a.eval (.tmp t)) → Below V.heap.size V w' → (execOp a'.eval { dst := some d5, op := op5, type := T5, pos := p5, after := #[], guard := none }).run P w' = .ok (.value X) w')
    (hb0 : ∀ w' : World, (Instr.buildSlice T 0 #[]).run P w' = .ok (.slice (some ⟨w'.heap.size, 0, none⟩) 0 0) (w'.alloc (.cells #[] e)))
    (hb1 : ∀ w' : World, (Instr.buildSlice T 1 #[(0, X)]).run P w' = .ok (.slice (some ⟨w'.heap.size, 0, none⟩) 1 1) (w'.alloc (.cells (cells x).toArray e)))
    (hend : ∀ (v0 v1 v2 v3 v4 v5 v6 v7 v8 v9 v10 v11 : Value) (w' : World), Below V.heap.size V w' → w'.ownsRow V.heap.size e size v11 (n + 1) ((l.take i ++ x :: l.drop i).flatMap cells) →
      Q .normal (((((((((((((a.put (some d0) v0).put (some d1) v1).put (some d2) v2).put (some d3) v3).put (some d4) v4).put (some d5) v5).put (some d6) v6).put (some d7) v7).put (some d8) v8).put (some d9) v9).put (some d10) v10).put (some d11) v11).put (some so) v11) w') :
    (Code.region id (insOps T TI T5 d0 d1 d2 d3 d4 d5 d6 d7 d8 d9 d10 d11 so sa op5 p0 p1 p2 p3 p4 p5 p6 p7 p8 p9 p10 p11 p12).toArray true).wp P Q a V := by
  subst hln hnt
  have hdst : (insOps T TI T5 d0 d1 d2 d3 d4 d5 d6 d7 d8 d9 d10 d11 so sa op5 p0 p1 p2 p3 p4 p5 p6 p7 p8 p9 p10 p11 p12).map Oper.dst = [d0, d1, d2, d3, d4, d5, d6, d7, d8, d9, d10, d11, so].map some := rfl
  have hdn : ((insOps T TI T5 d0 d1 d2 d3 d4 d5 d6 d7 d8 d9 d10 d11 so sa op5 p0 p1 p2 p3 p4 p5 p6 p7 p8 p9 p10 p11 p12).map Oper.dst).Nodup := by
    rw [hdst]
    exact List.Pairwise.map some (fun a b h e => h (Option.some.inj e)) hd
  obtain ⟨L, hL⟩ : ∃ L, insOps T TI T5 d0 d1 d2 d3 d4 d5 d6 d7 d8 d9 d10 d11 so sa op5 p0 p1 p2 p3 p4 p5 p6 p7 p8 p9 p10 p11 p12 = L := ⟨_, rfl⟩
  obtain ⟨S1, hS1⟩ : ∃ S1, sliced A 0 i c size = S1 := ⟨_, rfl⟩
  obtain ⟨S2, hS2⟩ : ∃ S2, sliced A i l.length c size = S2 := ⟨_, rfl⟩
  have hL1 : ∃ A1, S1 = .slice A1 i c ∧ Lies size cells V V.heap.size A1 (l.take i) := by
    refine ⟨_, hS1.symm, fun hp => ?_⟩
    rw [List.length_take] at hp
    obtain ⟨b, o, rfl, hB, hc⟩ := hl (by omega)
    refine ⟨b, o, ?_, hB, fun k y hk => hc k y ?_⟩
    · rw [if_neg (by omega)]
      simp [Addr.add]
    · rw [List.getElem?_take] at hk
      split at hk
      · exact hk
      · cases hk
  have hL2 : ∃ A2, S2 = .slice A2 (l.length - i) (c - i) ∧ Lies size cells V V.heap.size A2 (l.drop i) := by
    refine ⟨_, hS2.symm, fun hp => ?_⟩
    rw [List.length_drop] at hp
    obtain ⟨b, o, rfl, hB, hc⟩ := hl (by omega)
    refine ⟨b, o + i * size, ?_, hB, fun k y hk j u hu => ?_⟩
    · rw [if_neg (by omega)]
      unfold Addr.add
      simp only [Option.map_some, Option.some.injEq]
      split <;> simp_all
    · rw [List.getElem?_drop] at hk
      have := hc (i + k) y hk j u hu
      rw [Nat.add_mul] at this
      rw [← this]
      congr 2
      omega
  have hte : P.underlying T = some (.slice (P.elem T)) := by rw [ht]; simp [Program.elem, ht]
  have hel : P.elem T = e := by simp [Program.elem, ht]
  have hsof : ∀ w' : World, (sizeOf (P.elem T)).run P w' = .ok size w' := fun w' => by rw [hel]; simp [sizeOf, typeInfo, hi, hz1]
  refine wp_region_steps hm (by kernel_rfl) (by rw [show List.filterMap _root_.id ((insOps T TI T5 d0 d1 d2 d3 d4 d5 d6 d7 d8 d9 d10 d11 so sa op5 p0 p1 p2 p3 p4 p5 p6 p7 p8 p9 p10 p11 p12).map Oper.dst) = [d0, d1, d2, d3, d4, d5, d6, d7, d8, d9, d10, d11, so] from rfl]; exact hd)
    (fun vals w' => ∃ x0 x1 x2 x3 x4 x5 x6 x7 x8 x9 x10 x11 x12 : Option Value, vals = [x0, x1, x2, x3, x4, x5, x6, x7, x8, x9, x10, x11, x12] ∧ InsG V e size cells l x i (.slice A l.length c) (.int .i64 (i : Int)) S1 S2 X x0 x1 x2 x3 x4 x5 x6 x7 x8 x9 x10 x11 x12 w') ?h0 ?hs ?he
  case h0 => exact ⟨none, none, none, none, none, none, none, none, none, none, none, none, none, rfl, ⟨(Below.refl _ _).drew, (fun _ hv => by cases hv), (fun _ hv => by cases hv), (fun _ hv => by cases hv), (fun _ hv => by cases hv), (fun _ hv => by cases hv), (fun _ hv => by cases hv), (fun _ hv => by cases hv), (fun _ hv _ => by cases hv), (fun _ hv _ => by cases hv), (fun _ hv _ => by cases hv), (fun _ hv _ => by cases hv), (fun _ hv => by cases hv), (fun _ hv => by cases hv)⟩⟩
  case he =>
    rintro vs w' hvs ⟨x0, x1, x2, x3, x4, x5, x6, x7, x8, x9, x10, x11, x12, hx, h⟩
    match vs, hvs, hx with
    | [v0, v1, v2, v3, v4, v5, v6, v7, v8, v9, v10, v11, v12], _, hx =>
      simp only [List.map_cons, List.map_nil, List.cons.injEq, and_true] at hx
      obtain ⟨rfl, rfl, rfl, rfl, rfl, rfl, rfl, rfl, rfl, rfl, rfl, rfl, rfl⟩ := hx
      obtain rfl : v11 = v12 := Option.some.inj (h.a12 _ rfl)
      exact hend v0 v1 v2 v3 v4 v5 v6 v7 v8 v9 v10 v11 w' h.below (h.r11 _ rfl)
  case hs =>
    rintro j o vals w' hoj hc hn hdep ⟨x0, x1, x2, x3, x4, x5, x6, x7, x8, x9, x10, x11, x12, rfl, h⟩ K hK
    have hE : ∀ (k : Nat) (t : Tmp) (v : Value), ([d0, d1, d2, d3, d4, d5, d6, d7, d8, d9, d10, d11, so])[k]? = some t → ([x0, x1, x2, x3, x4, x5, x6, x7, x8, x9, x10, x11, x12])[k]? = some (some v) → (putsR (slotsR (insOps T TI T5 d0 d1 d2 d3 d4 d5 d6 d7 d8 d9 d10 d11 so sa op5 p0 p1 p2 p3 p4 p5 p6 p7 p8 p9 p10 p11 p12) [x0, x1, x2, x3, x4, x5, x6, x7, x8, x9, x10, x11, x12]) a).eval (.tmp t) = v := fun k t v hk hv => by
      refine putsR_hit _ a k t v (by rw [slotsR_fst rfl]; exact apartR_of (by rw [show List.filterMap _root_.id ((insOps T TI T5 d0 d1 d2 d3 d4 d5 d6 d7 d8 d9 d10 d11 so sa op5 p0 p1 p2 p3 p4 p5 p6 p7 p8 p9 p10 p11 p12).map Oper.dst) = [d0, d1, d2, d3, d4, d5, d6, d7, d8, d9, d10, d11, so] from rfl]; exact hd)) ?_ (hsz t (List.mem_of_getElem? hk))
      unfold slotsR
      rw [List.getElem?_zip_eq_some, hdst, List.getElem?_map, hk]
      exact ⟨rfl, hv⟩
    have hM : ∀ t : Tmp, (∀ (k : Nat) (v : Value), ([d0, d1, d2, d3, d4, d5, d6, d7, d8, d9, d10, d11, so])[k]? = some t → ([x0, x1, x2, x3, x4, x5, x6, x7, x8, x9, x10, x11, x12])[k]? ≠ some (some v)) → (putsR (slotsR (insOps T TI T5 d0 d1 d2 d3 d4 d5 d6 d7 d8 d9 d10 d11 so sa op5 p0 p1 p2 p3 p4 p5 p6 p7 p8 p9 p10 p11 p12) [x0, x1, x2, x3, x4, x5, x6, x7, x8, x9, x10, x11, x12]) a).eval (.tmp t) = a.eval (.tmp t) := fun t ht => by
      refine putsR_miss _ a t fun v hm => ?_
      obtain ⟨k, h1, h2⟩ := slots_mem hm
      rw [hdst, List.getElem?_map] at h1
      obtain ⟨t', ht', e⟩ := Option.map_eq_some_iff.1 h1
      cases e
      exact ht k v ht' h2
    have hother : ∀ t, t ∉ [d0, d1, d2, d3, d4, d5, d6, d7, d8, d9, d10, d11, so] → (putsR (slotsR (insOps T TI T5 d0 d1 d2 d3 d4 d5 d6 d7 d8 d9 d10 d11 so sa op5 p0 p1 p2 p3 p4 p5 p6 p7 p8 p9 p10 p11 p12) [x0, x1, x2, x3, x4, x5, x6, x7, x8, x9, x10, x11, x12]) a).eval (.tmp t) = a.eval (.tmp t) := fun t ht => hM t fun k v hk => absurd (List.mem_of_getElem? hk) ht
    have hI : (putsR (slotsR (insOps T TI T5 d0 d1 d2 d3 d4 d5 d6 d7 d8 d9 d10 d11 so sa op5 p0 p1 p2 p3 p4 p5 p6 p7 p8 p9 p10 p11 p12) [x0, x1, x2, x3, x4, x5, x6, x7, x8, x9, x10, x11, x12]) a).eval (.tmp sa) = .int .i64 (i : Int) := (hother sa hda).trans hat
    have hO : x12 = none → (putsR (slotsR (insOps T TI T5 d0 d1 d2 d3 d4 d5 d6 d7 d8 d9 d10 d11 so sa op5 p0 p1 p2 p3 p4 p5 p6 p7 p8 p9 p10 p11 p12) [x0, x1, x2, x3, x4, x5, x6, x7, x8, x9, x10, x11, x12]) a).eval (.tmp so) = .slice A l.length c := fun h12 => (hM so fun k v hk hv => by
      have : k = 12 := nodup_at hd hk rfl
      subst this
      rw [h12] at hv
      cases hv).trans ho
    have cl : ∀ (p q : Nat) (oo : Oper) (gr : Ground) (v : Value), (insOps T TI T5 d0 d1 d2 d3 d4 d5 d6 d7 d8 d9 d10 d11 so sa op5 p0 p1 p2 p3 p4 p5 p6 p7 p8 p9 p10 p11 p12)[p]? = some oo → ({ on := q, ground := gr } : Edge) ∈ oo.after → Region.binds .any { on := q, ground := gr } = true → ([x0, x1, x2, x3, x4, x5, x6, x7, x8, x9, x10, x11, x12])[p]? = some (some v) → ∃ u, ([x0, x1, x2, x3, x4, x5, x6, x7, x8, x9, x10, x11, x12])[q]? = some (some u) := fun p q oo gr v h1 h2 h3 h4 => hc.closed p oo v h1 h4 _ h2 h3
    have c4a : ∀ v, x4 = some v → ∃ u, x0 = some u := fun v hv => by obtain ⟨u, hu⟩ := cl 4 0 _ .data v rfl (by simp) rfl (by rw [hv]; rfl); exact ⟨u, Option.some.inj hu⟩
    have c4b : ∀ v, x4 = some v → ∃ u, x3 = some u := fun v hv => by obtain ⟨u, hu⟩ := cl 4 3 _ .data v rfl (by simp) rfl (by rw [hv]; rfl); exact ⟨u, Option.some.inj hu⟩
    have c7a : ∀ v, x7 = some v → ∃ u, x4 = some u := fun v hv => by obtain ⟨u, hu⟩ := cl 7 4 _ .data v rfl (by simp) rfl (by rw [hv]; rfl); exact ⟨u, Option.some.inj hu⟩
    have c7b : ∀ v, x7 = some v → ∃ u, x6 = some u := fun v hv => by obtain ⟨u, hu⟩ := cl 7 6 _ .data v rfl (by simp) rfl (by rw [hv]; rfl); exact ⟨u, Option.some.inj hu⟩
    have c11a : ∀ v, x11 = some v → ∃ u, x7 = some u := fun v hv => by obtain ⟨u, hu⟩ := cl 11 7 _ .data v rfl (by simp) rfl (by rw [hv]; rfl); exact ⟨u, Option.some.inj hu⟩
    have c12a : ∀ v, x12 = some v → ∃ u, x11 = some u := fun v hv => by obtain ⟨u, hu⟩ := cl 12 11 _ .data v rfl (by simp) rfl (by rw [hv]; rfl); exact ⟨u, Option.some.inj hu⟩
    have c12b : ∀ v, x12 = some v → ∃ u, x1 = some u := fun v hv => by obtain ⟨u, hu⟩ := cl 12 1 _ .phase v rfl (by simp) rfl (by rw [hv]; rfl); exact ⟨u, Option.some.inj hu⟩
    have c12c : ∀ v, x12 = some v → ∃ u, x8 = some u := fun v hv => by obtain ⟨u, hu⟩ := cl 12 8 _ .phase v rfl (by simp) rfl (by rw [hv]; rfl); exact ⟨u, Option.some.inj hu⟩
    have none_of : ∀ {p q : Option Value}, (∀ v, p = some v → ∃ u, q = some u) → q = none → p = none := fun {p q} hpq hq => by
      cases hp : p with
      | none => rfl
      | some v => obtain ⟨u, hu⟩ := hpq v hp; rw [hq] at hu; cases hu
    have dd : ∀ (q : Nat) (gr : Ground) (oo : Oper), o = oo → ({ on := q, ground := gr } : Edge) ∈ oo.after → Region.binds .any { on := q, ground := gr } = true → ∃ u, ([x0, x1, x2, x3, x4, x5, x6, x7, x8, x9, x10, x11, x12])[q]? = some (some u) := fun q gr oo h1 h2 h3 => hdep _ (h1 ▸ h2) h3
    have hv : ∀ (k : Nat) (t : Tmp) (v : Value), ([d0, d1, d2, d3, d4, d5, d6, d7, d8, d9, d10, d11, so])[k]? = some t → ([x0, x1, x2, x3, x4, x5, x6, x7, x8, x9, x10, x11, x12])[k]? = some (some v) → (putsR (slotsR (insOps T TI T5 d0 d1 d2 d3 d4 d5 d6 d7 d8 d9 d10 d11 so sa op5 p0 p1 p2 p3 p4 p5 p6 p7 p8 p9 p10 p11 p12) [x0, x1, x2, x3, x4, x5, x6, x7, x8, x9, x10, x11, x12]) a).eval (.tmp t) = v := hE
    have hjl : j < 13 := by have := (List.getElem?_eq_some_iff.1 hoj).1; exact this
    have hVw := h.below.size
    generalize putsR (slotsR (insOps T TI T5 d0 d1 d2 d3 d4 d5 d6 d7 d8 d9 d10 d11 so sa op5 p0 p1 p2 p3 p4 p5 p6 p7 p8 p9 p10 p11 p12) [x0, x1, x2, x3, x4, x5, x6, x7, x8, x9, x10, x11, x12]) a = a' at *
    clear cl hE hM hc
    obtain rfl | rfl | rfl | rfl | rfl | rfl | rfl | rfl | rfl | rfl | rfl | rfl | rfl : j = 0 ∨ j = 1 ∨ j = 2 ∨ j = 3 ∨ j = 4 ∨ j = 5 ∨ j = 6 ∨ j = 7 ∨ j = 8 ∨ j = 9 ∨ j = 10 ∨ j = 11 ∨ j = 12 := by omega
    · have eo := Option.some.inj hoj
      subst eo
      obtain rfl : x0 = none := Option.some.inj hn
      obtain rfl : x4 = none := none_of c4a rfl
      obtain rfl : x7 = none := none_of c7a rfl
      obtain rfl : x11 = none := none_of c11a rfl
      refine step_value (v := .slice (some ⟨w'.heap.size, 0, none⟩) 0 0) (w' := w'.alloc (.cells #[] e)) rfl ?_ (hK _ _ ⟨some (.slice (some ⟨w'.heap.size, 0, none⟩) 0 0), x1, x2, x3, none, x5, x6, none, x8, x9, x10, none, x12, rfl, ⟨h.below.alloc hVw _, h.m1, h.m2, h.s3, h.k5, h.m8, h.m9, h.s10, (fun _ hv _ => by cases hv; exact World.ownsRow_made w' #[] 0 hVw (Nat.zero_le _) (by simp)), (fun _ hv _ => by cases hv), (fun v hv h7 => by obtain ⟨g, e1, e2, e3⟩ := h.b6 v hv h7; exact ⟨g, e1, e2.more _, fun v0 hv0 _ hg => by cases hv0; have := e2.inside; simp only [Value.ownBlock, Option.some.injEq] at hg; omega⟩), (fun _ hv _ => by cases hv), (fun _ hv => by cases hv), h.a12⟩⟩)
      · unfold execOp
        simp only [List.map_toArray, List.map_nil, Sem.run_bind, hb0, Result.andThen_ok, Sem.run_pure]
    · have eo := Option.some.inj hoj
      subst eo
      obtain rfl : x1 = none := Option.some.inj hn
      obtain rfl : x12 = none := none_of c12b rfl
      refine step_value (v := .slice A l.length c) (w' := w') rfl ?_ (hK _ _ ⟨x0, some (.slice A l.length c), x2, x3, x4, x5, x6, x7, x8, x9, x10, x11, none, rfl, ⟨h.below, (fun _ hv => by cases hv; rfl), h.m2, h.s3, h.k5, h.m8, h.m9, h.s10, h.r0, h.r4, h.b6, h.r7, h.r11, h.a12⟩⟩)
      · show Result.ok (Next.value (a'.eval (.tmp so))) w' = _
        rw [hO rfl]
    · have eo := Option.some.inj hoj
      subst eo
      obtain rfl : x2 = none := Option.some.inj hn
      refine step_value (v := .int .i64 (i : Int)) (w' := w') rfl ?_ (hK _ _ ⟨x0, x1, some (.int .i64 (i : Int)), x3, x4, x5, x6, x7, x8, x9, x10, x11, x12, rfl, ⟨h.below, h.m1, (fun _ hv => by cases hv; rfl), h.s3, h.k5, h.m8, h.m9, h.s10, h.r0, h.r4, h.b6, h.r7, h.r11, h.a12⟩⟩)
      · show Result.ok (Next.value (a'.eval (.tmp sa))) w' = _
        rw [hI]
    · have eo := Option.some.inj hoj
      subst eo
      obtain rfl : x3 = none := Option.some.inj hn
      obtain ⟨u1, hu1⟩ := dd 1 .data _ rfl (by simp) rfl
      obtain ⟨u2, hu2⟩ := dd 2 .data _ rfl (by simp) rfl
      have e1 := hv 1 d1 u1 rfl hu1
      have e2 := hv 2 d2 u2 rfl hu2
      rw [h.m1 u1 (Option.some.inj hu1)] at e1
      rw [h.m2 u2 (Option.some.inj hu2)] at e2
      refine step_value (v := S1) (w' := w') rfl ?_ (hK _ _ ⟨x0, x1, x2, some (S1), x4, x5, x6, x7, x8, x9, x10, x11, x12, rfl, ⟨h.below, h.m1, h.m2, (fun _ hv => by cases hv; rfl), h.k5, h.m8, h.m9, h.s10, h.r0, h.r4, h.b6, h.r7, h.r11, h.a12⟩⟩)
      · have r1 : (Instr.sliceAt T (.slice A l.length c) none (some (.int .i64 (i : Int))) none).run P w' = .ok S1 w' := by
          rw [run_sliceAt_slice w' T _ _ _ _ hte, run_slice_h w' T A l.length c hte .i64 (i : Int) (by omega) (by omega), hsof, Result.andThen_ok, Int.toNat_natCast, hS1]
        unfold execOp
        simp only [Option.map_some, Option.map_none, e1, e2, Sem.run_bind, r1, Result.andThen_ok, Sem.run_pure]
    · have eo := Option.some.inj hoj
      obtain rfl : x4 = none := Option.some.inj hn
      obtain rfl : x7 = none := none_of c7a rfl
      obtain rfl : x11 = none := none_of c11a rfl
      obtain ⟨v0, hu0⟩ := dd 0 .data _ eo.symm (by simp) rfl
      obtain ⟨u3, hu3⟩ := dd 3 .data _ eo.symm (by simp) rfl
      have e0 := hv 0 d0 v0 rfl hu0
      have e3 := hv 3 d3 u3 rfl hu3
      obtain rfl : x0 = some v0 := Option.some.inj hu0
      obtain ⟨A1, hA1, hl1⟩ := hL1
      rw [h.s3 u3 (Option.some.inj hu3), hA1] at e3
      subst eo
      refine step_app w' rfl (.tmp d0) (.tmp d3) T e rfl i0 z bytes ht hi hz0 hz1 hz2 hzs hpos hcl hone V.heap.size v0 0 [] e0 (h.r0 v0 rfl rfl) V.heap.size A1 c (l.take i) i (by rw [List.length_take]; omega) e3 (hl1.past h.below (Nat.le_refl _)) (by omega) (by rw [Nat.zero_add]; exact Nat.le_trans (Nat.mul_le_mul_right _ (by omega)) hby) hVw ?_
      intro v' w'' ho' hb' hg'
      rw [Nat.zero_add, List.nil_append] at ho'
      exact hK _ _ ⟨some v0, x1, x2, x3, some v', x5, x6, none, x8, x9, x10, none, x12, rfl, ⟨h.below.trans hb', h.m1, h.m2, h.s3, h.k5, h.m8, h.m9, h.s10, (fun _ _ h4 => by cases h4), (fun _ hv _ => by cases hv; exact ho'), (fun v hv h7 => by obtain ⟨g, e1, e2, e4⟩ := h.b6 v hv h7; exact ⟨g, e1, (hg'.block g e2.inside (fun hh => e4 v0 rfl rfl hh.symm)).trans e2, fun _ _ h4 => by cases h4⟩), (fun _ hv _ => by cases hv), (fun _ hv => by cases hv), h.a12⟩⟩
    · have eo := Option.some.inj hoj
      subst eo
      obtain rfl : x5 = none := Option.some.inj hn
      refine step_value (v := X) (w' := w') rfl ?_ (hK _ _ ⟨x0, x1, x2, x3, x4, some (X), x6, x7, x8, x9, x10, x11, x12, rfl, ⟨h.below, h.m1, h.m2, h.s3, (fun _ hv => by cases hv; rfl), h.m8, h.m9, h.s10, h.r0, h.r4, h.b6, h.r7, h.r11, h.a12⟩⟩)
      · exact h5 a' w' T5 hother h.below
    · have eo := Option.some.inj hoj
      obtain rfl : x6 = none := Option.some.inj hn
      obtain rfl : x7 = none := none_of c7b rfl
      obtain rfl : x11 = none := none_of c11a rfl
      obtain ⟨u5, hu5⟩ := dd 5 .data _ eo.symm (by simp) rfl
      have e5 := hv 5 d5 u5 rfl hu5
      rw [h.k5 u5 (Option.some.inj hu5)] at e5
      subst eo
      have hal : Below w'.heap.size w' (w'.alloc (.cells (cells x).toArray e)) := (Below.refl _ _).alloc (Nat.le_refl _) _
      refine step_value (v := .slice (some ⟨w'.heap.size, 0, none⟩) 1 1) (w' := w'.alloc (.cells (cells x).toArray e)) rfl ?_ (hK _ _ ⟨x0, x1, x2, x3, x4, x5, some (.slice (some ⟨w'.heap.size, 0, none⟩) 1 1), none, x8, x9, x10, none, x12, rfl, ⟨h.below.alloc hVw _, h.m1, h.m2, h.s3, h.k5, h.m8, h.m9, h.s10, (fun v hv h4 => own_below (h.r0 v hv h4) hal), (fun v hv h7 => own_below (h.r4 v hv h7) hal), (fun v hv h7 => by cases hv; exact ⟨_, rfl, Own.made w' e (cells x), fun v0 hv0 h4 hg => by have := ((h.r0 v0 hv0 h4).lt _ hg).2; omega⟩), (fun _ hv _ => by cases hv), (fun _ hv => by cases hv), h.a12⟩⟩)
      · unfold execOp
        simp only [List.map_toArray, List.map_cons, List.map_nil, e5, Sem.run_bind, hb1, Result.andThen_ok, Sem.run_pure]
    · have eo := Option.some.inj hoj
      obtain rfl : x7 = none := Option.some.inj hn
      obtain rfl : x11 = none := none_of c11a rfl
      obtain ⟨v4, hu4⟩ := dd 4 .data _ eo.symm (by simp) rfl
      obtain ⟨v6, hu6⟩ := dd 6 .data _ eo.symm (by simp) rfl
      have e4 := hv 4 d4 v4 rfl hu4
      have e6 := hv 6 d6 v6 rfl hu6
      obtain rfl : x4 = some v4 := Option.some.inj hu4
      obtain rfl : x6 = some v6 := Option.some.inj hu6
      obtain ⟨g, rfl, hog, _⟩ := h.b6 v6 rfl rfl
      subst eo
      have hlx : Lies size cells w' (g + 1) (some ⟨g, 0, none⟩) [x] := fun _ => by
        refine ⟨g, 0, rfl, by omega, fun k y hk j u hu => ?_⟩
        match k, hk with
        | 0, hk =>
          obtain rfl : x = y := by simpa using hk
          rw [show (0 : Nat) + 0 * size + j = j by omega, hog.at_ j]
          exact hu
      refine step_app w' rfl (.tmp d4) (.tmp d6) T e rfl i0 z bytes ht hi hz0 hz1 hz2 hzs hpos hcl hone V.heap.size v4 i _ e4 (h.r4 v4 rfl rfl) (g + 1) (some ⟨g, 0, none⟩) 1 [x] 1 rfl e6 hlx (by omega) (Nat.le_trans (Nat.mul_le_mul_right _ (by omega)) hby) hVw ?_
      intro v' w'' ho' hb' hg'
      rw [← List.flatMap_append] at ho'
      exact hK _ _ ⟨x0, x1, x2, x3, some v4, x5, some (.slice (some ⟨g, 0, none⟩) 1 1), some v', x8, x9, x10, none, x12, rfl, ⟨h.below.trans hb', h.m1, h.m2, h.s3, h.k5, h.m8, h.m9, h.s10, (fun _ _ h4 => by cases h4), (fun _ _ h7 => by cases h7), (fun _ _ h7 => by cases h7), (fun _ hv _ => by cases hv; exact ho'), (fun _ hv => by cases hv), h.a12⟩⟩
    · have eo := Option.some.inj hoj
      subst eo
      obtain rfl : x8 = none := Option.some.inj hn
      obtain rfl : x12 = none := none_of c12c rfl
      refine step_value (v := .slice A l.length c) (w' := w') rfl ?_ (hK _ _ ⟨x0, x1, x2, x3, x4, x5, x6, x7, some (.slice A l.length c), x9, x10, x11, none, rfl, ⟨h.below, h.m1, h.m2, h.s3, h.k5, (fun _ hv => by cases hv; rfl), h.m9, h.s10, h.r0, h.r4, h.b6, h.r7, h.r11, h.a12⟩⟩)
      · show Result.ok (Next.value (a'.eval (.tmp so))) w' = _
        rw [hO rfl]
    · have eo := Option.some.inj hoj
      subst eo
      obtain rfl : x9 = none := Option.some.inj hn
      refine step_value (v := .int .i64 (i : Int)) (w' := w') rfl ?_ (hK _ _ ⟨x0, x1, x2, x3, x4, x5, x6, x7, x8, some (.int .i64 (i : Int)), x10, x11, x12, rfl, ⟨h.below, h.m1, h.m2, h.s3, h.k5, h.m8, (fun _ hv => by cases hv; rfl), h.s10, h.r0, h.r4, h.b6, h.r7, h.r11, h.a12⟩⟩)
      · show Result.ok (Next.value (a'.eval (.tmp sa))) w' = _
        rw [hI]
    · have eo := Option.some.inj hoj
      subst eo
      obtain rfl : x10 = none := Option.some.inj hn
      obtain ⟨u8, hu8⟩ := dd 8 .data _ rfl (by simp) rfl
      obtain ⟨u9, hu9⟩ := dd 9 .data _ rfl (by simp) rfl
      have e8 := hv 8 d8 u8 rfl hu8
      have e9 := hv 9 d9 u9 rfl hu9
      rw [h.m8 u8 (Option.some.inj hu8)] at e8
      rw [h.m9 u9 (Option.some.inj hu9)] at e9
      refine step_value (v := S2) (w' := w') rfl ?_ (hK _ _ ⟨x0, x1, x2, x3, x4, x5, x6, x7, x8, x9, some (S2), x11, x12, rfl, ⟨h.below, h.m1, h.m2, h.s3, h.k5, h.m8, h.m9, (fun _ hv => by cases hv; rfl), h.r0, h.r4, h.b6, h.r7, h.r11, h.a12⟩⟩)
      · have r1 : (Instr.sliceAt T (.slice A l.length c) (some (.int .i64 (i : Int))) none none).run P w' = .ok S2 w' := by
          rw [run_sliceAt_slice w' T _ _ _ _ hte, run_slice_l w' T A l.length c hte .i64 (i : Int) (by omega) (by omega), hsof, Result.andThen_ok, Int.toNat_natCast, hS2]
        unfold execOp
        simp only [Option.map_some, Option.map_none, e8, e9, Sem.run_bind, r1, Result.andThen_ok, Sem.run_pure]
    · have eo := Option.some.inj hoj
      obtain rfl : x11 = none := Option.some.inj hn
      obtain rfl : x12 = none := none_of c12a rfl
      obtain ⟨v7, hu7⟩ := dd 7 .data _ eo.symm (by simp) rfl
      obtain ⟨u10, hu10⟩ := dd 10 .data _ eo.symm (by simp) rfl
      have e7 := hv 7 d7 v7 rfl hu7
      have e10 := hv 10 d10 u10 rfl hu10
      obtain rfl : x7 = some v7 := Option.some.inj hu7
      obtain ⟨A2, hA2, hl2⟩ := hL2
      rw [h.s10 u10 (Option.some.inj hu10), hA2] at e10
      subst eo
      refine step_app w' rfl (.tmp d7) (.tmp d10) T e rfl i0 z bytes ht hi hz0 hz1 hz2 hzs hpos hcl hone V.heap.size v7 (i + 1) _ e7 (h.r7 v7 rfl rfl) V.heap.size A2 (c - i) (l.drop i) (l.length - i) (by rw [List.length_drop]) e10 (hl2.past h.below (Nat.le_refl _)) (by omega) (Nat.le_trans (Nat.mul_le_mul_right _ (by omega)) hby) hVw ?_
      intro v' w'' ho' hb' hg'
      rw [← List.flatMap_append, List.append_assoc, show i + 1 + (l.length - i) = l.length + 1 by omega] at ho'
      exact hK _ _ ⟨x0, x1, x2, x3, x4, x5, x6, some v7, x8, x9, x10, some v', none, rfl, ⟨h.below.trans hb', h.m1, h.m2, h.s3, h.k5, h.m8, h.m9, h.s10, (fun v hv h4 => by obtain ⟨u, hu⟩ := c7a v7 rfl; rw [h4] at hu; cases hu), (fun _ _ h7 => by cases h7), (fun _ _ h7 => by cases h7), (fun _ _ h11 => by cases h11), (fun _ hv => by cases hv; exact ho'), (fun _ hv => by cases hv)⟩⟩
    · have eo := Option.some.inj hoj
      obtain rfl : x12 = none := Option.some.inj hn
      obtain ⟨v11, hu11⟩ := dd 11 .data _ eo.symm (by simp) rfl
      have e11 := hv 11 d11 v11 rfl hu11
      obtain rfl : x11 = some v11 := Option.some.inj hu11
      subst eo
      refine step_value (v := v11) (w' := w') rfl ?_ (hK _ _ ⟨x0, x1, x2, x3, x4, x5, x6, x7, x8, x9, x10, some v11, some v11, rfl, ⟨h.below, h.m1, h.m2, h.s3, h.k5, h.m8, h.m9, h.s10, h.r0, h.r4, h.b6, h.r7, h.r11, (fun _ hv => by cases hv; rfl)⟩⟩)
      · show Result.ok (Next.value (a'.eval (.tmp d11))) w' = _
        rw [e11]
end
theorem load_own {P : Program} {w : World} {g : Nat} {t ty : TypeId} {l : List Value} {d : TypeDesc} (h : Own w g t l) (hu : P.underlying ty = some d) (hd : (match d with | .struct _ | .array _ _ => true | _ => false) = true) (hi : (P.info? ty).map (·.size) = some l.length) :
    (Instr.loadAt ty (.pointer (some ⟨g, 0, none⟩))).run P w = .ok (.agg l.toArray) w := by
  simp only [Instr.loadAt, Instr.sureAddr, Sem.run_bind, Sem.run_pure, Result.andThen_ok]
  exact run_loadVar_row w g t ty l.toArray (0, 0) d h hu hd (by simpa using hi)
/-- the new one is read from a variable -/
theorem load_op {P : Program} {a a' : Act} {V w' : World} {g sb : Nat} {tx ty T5 : TypeId} {l : List Value} {d : TypeDesc} {d5 : Tmp} {p5 : String} (hs : a'.eval (.tmp sb) = a.eval (.tmp sb)) (ha : a.eval (.tmp sb) = .pointer (some ⟨g, 0, none⟩)) (h : Own V g tx l) (hb : Below V.heap.size V w')
    (hu : P.underlying ty = some d) (hd : (match d with | .struct _ | .array _ _ => true | _ => false) = true) (hi : (P.info? ty).map (·.size) = some l.length) :
    (execOp a'.eval { dst := some d5, op := .load ty (.tmp sb), type := T5, pos := p5, after := #[], guard := none }).run P w' = .ok (.value (.agg l.toArray)) w' := by
  unfold execOp
  simp only [hs, ha, Sem.run_bind, load_own (h.past hb h.inside) hu hd hi, Result.andThen_ok, Sem.run_pure]
end Go.Proofs.Ytammngncmkhokaa
namespace Go.Proofs.Ytammngncmkhokaa
open Go Go.RowKit

theorem u8_eqK {a b : UInt8} (h1 : ¬ a < b) (h2 : ¬ b < a) : a = b := by
  rw [UInt8.lt_iff_toNat_lt] at h1 h2
  exact UInt8.toNat_inj.1 (by omega)
theorem cmpB_casesK : ∀ a b : List UInt8, (Lib.compareBytes a b = -1 ∧ Op.bytesLess a b = true) ∨ (Lib.compareBytes a b = 0 ∧ Op.bytesLess a b = false ∧ a = b) ∨ (Lib.compareBytes a b = 1 ∧ Op.bytesLess a b = false ∧ a ≠ b)
  | [], [] => .inr (.inl ⟨rfl, rfl, rfl⟩)
  | [], _ :: _ => .inl ⟨rfl, rfl⟩
  | _ :: _, [] => .inr (.inr ⟨rfl, rfl, by simp⟩)
  | x :: a, y :: b => by
    have ih := cmpB_casesK a b
    unfold Lib.compareBytes Op.bytesLess
    by_cases h1 : x < y
    · left; simp [h1]
    · by_cases h2 : y < x
      · have hne : x ≠ y := fun e => by subst e; exact h1 h2
        right; right; simp [h1, h2, hne]
      · have he := u8_eqK h1 h2
        subst he
        simpa [h1] using ih


theorem cmpB_swap : ∀ a b : List UInt8, Lib.compareBytes b a = - Lib.compareBytes a b
  | [], [] => rfl
  | [], _ :: _ => rfl
  | _ :: _, [] => rfl
  | x :: a, y :: b => by
    have ih := cmpB_swap a b
    unfold Lib.compareBytes
    by_cases h1 : x < y
    · have h2 : ¬ y < x := by rw [UInt8.lt_iff_toNat_lt] at *; omega
      simp [h1, h2]
    · by_cases h2 : y < x
      · simp [h1, h2]
      · simp [h1, h2, ih]
theorem cmpB_zero {a b : List UInt8} : Lib.compareBytes a b = 0 ↔ a = b := by
  rcases cmpB_casesK a b with ⟨h, _⟩ | ⟨h, _, rfl⟩ | ⟨h, _, hn⟩
  · rw [h]; refine ⟨fun h => by omega, fun e => ?_⟩
    subst e
    have := cmpB_swap a a
    omega
  · simp [h]
  · rw [h]; exact ⟨fun h => by omega, fun e => absurd e hn⟩
theorem cmpB_le : ∀ a b c : List UInt8, Lib.compareBytes a b ≤ 0 → Lib.compareBytes b c ≤ 0 → Lib.compareBytes a c ≤ 0 ∧ (Lib.compareBytes a b < 0 ∨ Lib.compareBytes b c < 0 → Lib.compareBytes a c < 0)
  | [], _, [], _, h => by
    rename_i b _
    cases b with
    | nil => exact ⟨by decide, by decide⟩
    | cons x b => simp [Lib.compareBytes] at h
  | [], [], _ :: _, _, _ => ⟨by simp [Lib.compareBytes], fun _ => by simp [Lib.compareBytes]⟩
  | [], _ :: _, _ :: _, _, _ => ⟨by simp [Lib.compareBytes], fun _ => by simp [Lib.compareBytes]⟩
  | _ :: _, [], _, h, _ => by simp [Lib.compareBytes] at h
  | _ :: _, _ :: _, [], _, h => by simp [Lib.compareBytes] at h
  | x :: a, y :: b, z :: c, h, k => by
    have ih := cmpB_le a b c
    unfold Lib.compareBytes at h k ⊢
    simp only [UInt8.lt_iff_toNat_lt] at *
    by_cases h1 : x.toNat < y.toNat
    · by_cases h2 : y.toNat < z.toNat
      · have h3 : x.toNat < z.toNat := by omega
        simp [h1, h2, h3]
      · by_cases h4 : z.toNat < y.toNat
        · simp [h2, h4] at k
        · have h3 : x.toNat < z.toNat := by omega
          simp [h1, h2, h4, h3]
    · by_cases h5 : y.toNat < x.toNat
      · simp [h1, h5] at h
      · by_cases h2 : y.toNat < z.toNat
        · have h3 : x.toNat < z.toNat := by omega
          simp [h1, h5, h2, h3]
        · by_cases h4 : z.toNat < y.toNat
          · simp [h2, h4] at k
          · have h3 : ¬ x.toNat < z.toNat := by omega
            have h6 : ¬ z.toNat < x.toNat := by omega
            simp only [h1, h5, h2, h4, h3, h6, if_false] at h k ⊢
            exact ih h k

/-- a file: its name, and what it contains -/
structure Fl where
  n : ByteArray
  d : ByteArray
instance : Inhabited Fl := ⟨⟨⟨#[]⟩, ⟨#[]⟩⟩⟩
def cmpN (a b : ByteArray) : Int := Lib.compareBytes a.data.toList b.data.toList
theorem bytes_eq {a b : ByteArray} : a.data.toList = b.data.toList ↔ a = b := ⟨str_ext, fun h => by rw [h]⟩
theorem cmpN_zero {a b : ByteArray} : cmpN a b = 0 ↔ a = b := by unfold cmpN; rw [cmpB_zero, bytes_eq]
theorem cmpN_swap (a b : ByteArray) : cmpN b a = - cmpN a b := cmpB_swap _ _
theorem cmpN_lt {a b c : ByteArray} (h : cmpN a b < 0) (k : cmpN b c < 0) : cmpN a c < 0 := (cmpB_le _ _ _ (by unfold cmpN at h; omega) (by unfold cmpN at k; omega)).2 (.inl h)
theorem cmpN_le {a b c : ByteArray} (h : cmpN a b ≤ 0) (k : cmpN b c < 0) : cmpN a c < 0 := (cmpB_le _ _ _ h (by unfold cmpN at k; omega)).2 (.inr k)
theorem cmpN_le' {a b c : ByteArray} (h : cmpN a b < 0) (k : cmpN b c ≤ 0) : cmpN a c < 0 := (cmpB_le _ _ _ (by unfold cmpN at h; omega) k).2 (.inl h)
theorem cmpN_self (a : ByteArray) : cmpN a a = 0 := cmpN_zero.2 rfl
/-- names that ascend -/
def SortedN (ns : List ByteArray) : Prop := ns.Pairwise (fun a b => cmpN a b < 0)
def posN (ns : List ByteArray) (n : ByteArray) : Nat := ns.countP (fun x => decide (cmpN x n < 0))
def hasN (ns : List ByteArray) (n : ByteArray) : Bool := ns.any (fun x => decide (x = n))
theorem hasN_mem {ns : List ByteArray} {n : ByteArray} : hasN ns n = true ↔ n ∈ ns := by
  unfold hasN; rw [List.any_eq_true]
  exact ⟨fun ⟨x, hx, e⟩ => by have := of_decide_eq_true e; rwa [← this], fun h => ⟨n, h, by simp⟩⟩
theorem hasN_not {ns : List ByteArray} {n : ByteArray} : hasN ns n = false ↔ n ∉ ns := by rw [← hasN_mem]; simp
theorem posN_le (ns : List ByteArray) (n : ByteArray) : posN ns n ≤ ns.length := List.countP_le_length
theorem posN_zero {ns : List ByteArray} {n : ByteArray} (h : ∀ x ∈ ns, 0 ≤ cmpN x n) : posN ns n = 0 := by
  unfold posN; rw [List.countP_eq_zero]; intro x hx; have := h x hx; simp; omega
theorem posN_at {ns : List ByteArray} {n : ByteArray} (hs : SortedN ns) : ∀ i x, ns[i]? = some x → (i < posN ns n ↔ cmpN x n < 0) := by
  induction ns with
  | nil => simp
  | cons y r ih =>
    obtain ⟨h1, h2⟩ := List.pairwise_cons.1 hs
    intro i x hx
    by_cases hy : cmpN y n < 0
    · have e : posN (y :: r) n = posN r n + 1 := by unfold posN; rw [List.countP_cons]; simp [hy]
      rw [e]
      cases i with
      | zero => obtain rfl : y = x := by simpa using hx
                exact ⟨fun _ => hy, fun _ => by omega⟩
      | succ i =>
        have := ih h2 i x (by simpa using hx)
        rw [← this]; omega
    · have e : posN (y :: r) n = 0 := posN_zero fun x hx => by
        rcases List.mem_cons.1 hx with rfl | hx
        · omega
        · have hyx := h1 x hx
          by_cases hc : 0 ≤ cmpN x n
          · exact hc
          · have := cmpN_lt hyx (show cmpN x n < 0 by omega); omega
      rw [e]
      refine ⟨fun h => by omega, fun h => ?_⟩
      exfalso
      cases i with
      | zero => obtain rfl : y = x := by simpa using hx
                exact hy h
      | succ i =>
        have hm : x ∈ r := List.mem_of_getElem? (show r[i]? = some x by simpa using hx)
        exact hy (cmpN_lt (h1 x hm) h)
/-- where a name stands that is there -/
theorem posN_has {ns : List ByteArray} {n : ByteArray} (hs : SortedN ns) (h : hasN ns n = true) : ns[posN ns n]? = some n := by
  have hm : n ∈ ns := hasN_mem.1 h
  obtain ⟨i, hi⟩ := List.getElem?_of_mem hm
  have h0 := (posN_at (n := n) hs i n hi)
  rw [cmpN_self] at h0
  have hle : posN ns n ≤ i := by omega
  rcases Nat.lt_or_ge (posN ns n) i with hlt | hge
  · have hin : i < ns.length := (List.getElem?_eq_some_iff.1 hi).1
    have hx : ns[posN ns n]? = some (ns[posN ns n]'(by omega)) := List.getElem?_eq_getElem (by omega)
    have h1 := posN_at (n := n) hs _ _ hx
    have h2 : cmpN (ns[posN ns n]'(by omega)) n < 0 := by
      have := List.pairwise_iff_getElem.1 hs (posN ns n) i (by omega) hin hlt
      rwa [(List.getElem?_eq_some_iff.1 hi).2] at this
    omega
  · have : posN ns n = i := by omega
    rw [this]; exact hi
theorem posN_not {ns : List ByteArray} {n : ByteArray} (h : hasN ns n = false) : ns[posN ns n]? ≠ some n := by
  intro hx
  exact hasN_not.1 h (List.mem_of_getElem? hx)
def namesF (l : List Fl) : List ByteArray := l.map Fl.n
def SortedF (l : List Fl) : Prop := SortedN (namesF l)
def posF (l : List Fl) (n : ByteArray) : Nat := posN (namesF l) n
def hasF (l : List Fl) (n : ByteArray) : Bool := hasN (namesF l) n
theorem posF_le (l : List Fl) (n : ByteArray) : posF l n ≤ l.length := by have := posN_le (namesF l) n; simpa [namesF, posF] using this
/-- one put in, one taken away, one made longer, one called otherwise -/
def putF (l : List Fl) (f : Fl) : List Fl := l.take (posF l f.n) ++ f :: l.drop (posF l f.n)
def takeF (l : List Fl) (n : ByteArray) : List Fl := if hasF l n then l.take (posF l n) ++ l.drop (posF l n + 1) else l
def oldF (l : List Fl) (n : ByteArray) : Fl := (l[posF l n]?).getD ⟨n, ⟨#[]⟩⟩
def extF (l : List Fl) (n d : ByteArray) : List Fl := if hasF l n then l.set (posF l n) ⟨n, (oldF l n).d ++ d⟩ else putF l ⟨n, ⟨#[]⟩ ++ d⟩
def renF (l : List Fl) (n t : ByteArray) : List Fl := if hasF l n then putF (takeF (takeF l n) t) ⟨t, (oldF l n).d⟩ else l
def getF (l : List Fl) (n : ByteArray) : Option ByteArray := (l.find? (fun f => decide (f.n = n))).map Fl.d
theorem hasF_at {l : List Fl} {n : ByteArray} (hs : SortedF l) (h : hasF l n = true) : ∃ d, l[posF l n]? = some ⟨n, d⟩ := by
  have := posN_has hs h
  unfold namesF at this
  rw [List.getElem?_map] at this
  obtain ⟨f, hf, e⟩ := Option.map_eq_some_iff.1 this
  refine ⟨f.d, ?_⟩
  unfold posF namesF
  rw [hf, ← e]
/-- a list that has a name, parted there -/
theorem parted {l : List Fl} {n : ByteArray} (hs : SortedF l) (h : hasF l n = true) : ∃ A d B, l = A ++ ⟨n, d⟩ :: B ∧ A.length = posF l n ∧ (∀ f ∈ A, cmpN f.n n < 0) ∧ (∀ f ∈ B, cmpN n f.n < 0) ∧ oldF l n = ⟨n, d⟩ := by
  obtain ⟨d, hd⟩ := hasF_at hs h
  have hlt := (List.getElem?_eq_some_iff.1 hd).1
  have e : l = l.take (posF l n) ++ ⟨n, d⟩ :: l.drop (posF l n + 1) := by
    have h1 := (List.getElem?_eq_some_iff.1 hd).2
    rw [← h1, ← List.drop_eq_getElem_cons hlt, List.take_append_drop]
  refine ⟨_, d, _, e, by rw [List.length_take]; omega, ?_, ?_, by unfold oldF; rw [hd]; rfl⟩
  · intro f hf
    unfold SortedF SortedN namesF at hs
    rw [e, List.map_append, List.pairwise_append] at hs
    exact hs.2.2 f.n (List.mem_map_of_mem hf) n (by simp)
  · intro f hf
    unfold SortedF SortedN namesF at hs
    rw [e, List.map_append, List.pairwise_append, List.map_cons, List.pairwise_cons] at hs
    exact hs.2.1.1 f.n (List.mem_map_of_mem hf)
/-- .. that has not -/
theorem parted_not {l : List Fl} {n : ByteArray} (hs : SortedF l) (h : hasF l n = false) : (∀ f ∈ l.take (posF l n), cmpN f.n n < 0) ∧ (∀ f ∈ l.drop (posF l n), cmpN n f.n < 0) := by
  have hat := posN_at (n := n) hs
  have hne : ∀ f ∈ l, f.n ≠ n := by
    intro f hf e
    have : n ∈ namesF l := by rw [← e]; exact List.mem_map_of_mem hf
    exact hasN_not.1 h this
  constructor
  · intro f hf
    obtain ⟨i, hi⟩ := List.getElem?_of_mem hf
    rw [List.getElem?_take] at hi
    split at hi
    · rename_i hlt
      exact (hat i f.n (by simp [namesF, hi])).1 hlt
    · cases hi
  · intro f hf
    obtain ⟨i, hi⟩ := List.getElem?_of_mem hf
    rw [List.getElem?_drop] at hi
    have h1 := (hat (posF l n + i) f.n (by simp [namesF, hi]))
    unfold posF at h1
    have h2 : ¬ cmpN f.n n < 0 := fun hc => by have := h1.2 hc; omega
    have h3 : cmpN f.n n ≠ 0 := fun hc => hne f (List.mem_of_mem_drop hf) (cmpN_zero.1 hc)
    rw [cmpN_swap]; omega
theorem take_of_parts {l A B : List Fl} {x : Fl} {p : Nat} (e : l = A ++ x :: B) (hp : A.length = p) : l.take p = A ∧ l.drop p = x :: B ∧ l.drop (p + 1) = B ∧ l[p]? = some x := by
  subst e hp
  refine ⟨by simp, by simp, by rw [← List.drop_drop]; simp, by simp⟩
theorem sorted_parts {A B : List Fl} {f : Fl} (ha : SortedF A) (hb : SortedF B) (h1 : ∀ x ∈ A, cmpN x.n f.n < 0) (h2 : ∀ x ∈ B, cmpN f.n x.n < 0) : SortedF (A ++ f :: B) := by
  unfold SortedF SortedN namesF at *
  rw [List.map_append, List.pairwise_append, List.map_cons, List.pairwise_cons]
  refine ⟨ha, ⟨?_, hb⟩, ?_⟩
  · intro n hn
    obtain ⟨x, hx, rfl⟩ := List.mem_map.1 hn
    exact h2 x hx
  · intro n hn m hm
    obtain ⟨x, hx, rfl⟩ := List.mem_map.1 hn
    rcases List.mem_cons.1 hm with rfl | hm
    · exact h1 x hx
    · obtain ⟨y, hy, rfl⟩ := List.mem_map.1 hm
      exact cmpN_lt (h1 x hx) (h2 y hy)
theorem sorted_sub {l m : List Fl} (h : SortedF l) (hs : m.Sublist l) : SortedF m := List.Pairwise.sublist (hs.map _) h
theorem sorted_put {l : List Fl} {f : Fl} (hs : SortedF l) (h : hasF l f.n = false) : SortedF (putF l f) := by
  obtain ⟨h1, h2⟩ := parted_not hs h
  exact sorted_parts (sorted_sub hs (List.take_sublist _ _)) (sorted_sub hs (List.drop_sublist _ _)) h1 h2
theorem sorted_take {l : List Fl} {n : ByteArray} (hs : SortedF l) : SortedF (takeF l n) := by
  unfold takeF
  split
  · rename_i h
    obtain ⟨A, d, B, e, hp, _, _, _⟩ := parted hs h
    obtain ⟨e1, _, e3, _⟩ := take_of_parts e hp
    rw [e1, e3]
    refine sorted_sub hs ?_
    rw [e]
    exact List.Sublist.append_left (List.sublist_cons_self _ _) _
  · exact hs
theorem names_set {l : List Fl} {n : ByteArray} (hs : SortedF l) (h : hasF l n = true) (d : ByteArray) : namesF (l.set (posF l n) ⟨n, d⟩) = namesF l := by
  obtain ⟨x, hx⟩ := hasF_at hs h
  unfold namesF
  rw [List.map_set]
  apply List.ext_getElem?
  intro i
  rw [List.getElem?_set]
  split
  · rename_i hi
    subst hi
    rw [List.getElem?_map, hx]
    have := (List.getElem?_eq_some_iff.1 hx).1
    simp [this]
  · rfl
theorem sorted_ext {l : List Fl} {n d : ByteArray} (hs : SortedF l) : SortedF (extF l n d) := by
  unfold extF
  split
  · rename_i h; unfold SortedF; rw [names_set hs h]; exact hs
  · rename_i h; exact sorted_put hs (by simpa using h)
theorem has_take {l : List Fl} {n : ByteArray} (hs : SortedF l) : hasF (takeF l n) n = false := by
  by_cases h : hasF l n = true
  · obtain ⟨A, d, B, e, hp, ha, hb, _⟩ := parted hs h
    obtain ⟨e1, _, e3, _⟩ := take_of_parts e hp
    unfold takeF
    rw [if_pos h, e1, e3]
    unfold hasF namesF
    rw [hasN_not]
    intro hm
    obtain ⟨f, hf, rfl⟩ := List.mem_map.1 hm
    rcases List.mem_append.1 hf with hf | hf
    · have := ha f hf; rw [cmpN_self] at this; omega
    · have := hb f hf; rw [cmpN_self] at this; omega
  · unfold takeF; rw [if_neg h]; simpa using h
theorem sorted_ren {l : List Fl} {n t : ByteArray} (hs : SortedF l) : SortedF (renF l n t) := by
  unfold renF
  split
  · exact sorted_put (sorted_take (sorted_take hs)) (has_take (sorted_take hs))
  · exact hs
theorem get_app (A B : List Fl) (m : ByteArray) : getF (A ++ B) m = (getF A m).or (getF B m) := by
  unfold getF; rw [List.find?_append]; cases List.find? (fun f => decide (f.n = m)) A <;> simp
theorem get_cons (f : Fl) (B : List Fl) (m : ByteArray) : getF (f :: B) m = if m = f.n then some f.d else getF B m := by
  unfold getF; rw [List.find?_cons]
  by_cases h : m = f.n
  · subst h; simp
  · have : decide (f.n = m) = false := by simpa using fun e => h e.symm
    simp [this, h]
theorem get_none {l : List Fl} {m : ByteArray} : getF l m = none ↔ hasF l m = false := by
  unfold getF hasF namesF
  rw [Option.map_eq_none_iff, List.find?_eq_none, hasN_not]
  simp
theorem get_lt {l : List Fl} {m : ByteArray} (h : ∀ f ∈ l, cmpN f.n m < 0) : getF l m = none := by
  rw [get_none]; unfold hasF namesF; rw [hasN_not]
  intro hm; obtain ⟨f, hf, rfl⟩ := List.mem_map.1 hm; have := h f hf; rw [cmpN_self] at this; omega
theorem get_gt {l : List Fl} {m : ByteArray} (h : ∀ f ∈ l, cmpN m f.n < 0) : getF l m = none := by
  rw [get_none]; unfold hasF namesF; rw [hasN_not]
  intro hm; obtain ⟨f, hf, rfl⟩ := List.mem_map.1 hm; have := h f hf; rw [cmpN_self] at this; omega
theorem get_put {l : List Fl} {f : Fl} (h : hasF l f.n = false) (m : ByteArray) : getF (putF l f) m = if m = f.n then some f.d else getF l m := by
  unfold putF
  rw [get_app, get_cons]
  have e : getF l m = (getF (l.take (posF l f.n)) m).or (getF (l.drop (posF l f.n)) m) := by rw [← get_app, List.take_append_drop]
  split
  · rename_i hm
    have h0 := get_none.2 h
    rw [← hm, e] at h0
    cases hx : getF (List.take (posF l f.n) l) m
    · rfl
    · rw [hx] at h0; simp at h0
  · rw [e]
theorem get_take {l : List Fl} {n : ByteArray} (hs : SortedF l) (m : ByteArray) : getF (takeF l n) m = if m = n then none else getF l m := by
  by_cases h : hasF l n = true
  · by_cases hm : m = n
    · subst hm; rw [if_pos rfl, get_none]; exact has_take hs
    · obtain ⟨A, d, B, e, hp, ha, hb, _⟩ := parted hs h
      obtain ⟨e1, _, e3, _⟩ := take_of_parts e hp
      unfold takeF
      rw [if_pos h, e1, e3, if_neg hm, get_app, e, get_app, get_cons, if_neg hm]
  · have h0 : hasF l n = false := by simpa using h
    unfold takeF
    rw [if_neg h]
    split
    · rename_i hm; rw [hm]; exact get_none.2 h0
    · rfl
theorem get_old {l : List Fl} {n : ByteArray} (hs : SortedF l) (h : hasF l n = true) : getF l n = some (oldF l n).d := by
  obtain ⟨A, d, B, e, hp, ha, hb, ho⟩ := parted hs h
  rw [ho, e, get_app, get_lt ha, get_cons, if_pos rfl]; rfl
theorem empty_app (d : ByteArray) : (⟨#[]⟩ : ByteArray) ++ d = d := by apply str_ext; simp
theorem get_ext {l : List Fl} {n d : ByteArray} (hs : SortedF l) (m : ByteArray) : getF (extF l n d) m = if m = n then some ((getF l n).getD ⟨#[]⟩ ++ d) else getF l m := by
  unfold extF
  by_cases h : hasF l n = true
  · obtain ⟨A, x, B, e, hp, ha, hb, ho⟩ := parted hs h
    rw [if_pos h, get_old hs h, ho]
    have : l.set (posF l n) ⟨n, x ++ d⟩ = A ++ ⟨n, x ++ d⟩ :: B := by
      rw [← hp, e]; simp
    dsimp only
    rw [this, get_app, get_cons]
    by_cases hm : m = n
    · subst hm; rw [if_pos rfl, if_pos rfl, get_lt ha]; simp
    · rw [if_neg hm, if_neg hm, e, get_app, get_cons, if_neg hm]
  · have h0 : hasF l n = false := by simpa using h
    rw [if_neg h, get_put h0, get_none.2 h0]; rfl
theorem get_ren {l : List Fl} {n t : ByteArray} (hs : SortedF l) (h : hasF l n = true) (m : ByteArray) : getF (renF l n t) m = if m = t then getF l n else if m = n then none else getF l m := by
  unfold renF
  have h1 := has_take (n := t) (sorted_take (n := n) hs)
  rw [if_pos h, get_put (f := ⟨t, (oldF l n).d⟩) h1, get_take (sorted_take hs), get_take hs, get_old hs h]
  dsimp only
  split
  · rfl
  · rfl
/-- files that ascend are what is there of each name -/
theorem files_ext : ∀ {l k : List Fl}, SortedF l → SortedF k → (∀ m, getF l m = getF k m) → l = k
  | [], [], _, _, _ => rfl
  | [], f :: k, _, _, h => by have := h f.n; rw [get_cons, if_pos rfl] at this; simp [getF] at this
  | f :: l, [], _, _, h => by have := h f.n; rw [get_cons, if_pos rfl] at this; simp [getF] at this
  | f :: l, g :: k, hl, hk, h => by
    obtain ⟨a1, a2⟩ := List.pairwise_cons.1 (show List.Pairwise _ (f.n :: l.map Fl.n) from hl)
    obtain ⟨b1, b2⟩ := List.pairwise_cons.1 (show List.Pairwise _ (g.n :: k.map Fl.n) from hk)
    have al : ∀ x ∈ l, cmpN f.n x.n < 0 := fun x hx => a1 x.n (List.mem_map_of_mem hx)
    have bl : ∀ x ∈ k, cmpN g.n x.n < 0 := fun x hx => b1 x.n (List.mem_map_of_mem hx)
    have hfg : f.n = g.n := by
      by_cases h0 : f.n = g.n
      · exact h0
      · exfalso
        have h1 := h f.n
        rw [get_cons, if_pos rfl, get_cons, if_neg h0] at h1
        have h2 := h g.n
        rw [get_cons, if_neg (fun e => h0 e.symm), get_cons, if_pos rfl] at h2
        by_cases hc : cmpN f.n g.n < 0
        · have : getF k f.n = none := get_gt fun x hx => cmpN_lt hc (bl x hx)
          rw [this] at h1; cases h1
        · have hc2 : cmpN g.n f.n < 0 := by
            have := cmpN_swap f.n g.n
            have h3 : cmpN f.n g.n ≠ 0 := fun e => h0 (cmpN_zero.1 e)
            omega
          have : getF l g.n = none := get_gt fun x hx => cmpN_lt hc2 (al x hx)
          rw [this] at h2; cases h2
    have hd : f.d = g.d := by
      have h1 := h f.n
      rw [get_cons, if_pos rfl, get_cons, if_pos hfg] at h1
      exact Option.some.inj h1
    have hfe : f = g := by cases f; cases g; simp_all
    subst hfe
    have : l = k := files_ext a2 b2 fun m => by
      have h1 := h m
      rw [get_cons, get_cons] at h1
      by_cases hm : m = f.n
      · rw [hm, get_gt al, get_gt bl]
      · rwa [if_neg hm, if_neg hm] at h1
    rw [this]
/-- how much they contain -/
def szF (l : List Fl) : Nat := (l.map (fun f => f.d.size)).sum
theorem szF_app (A B : List Fl) : szF (A ++ B) = szF A + szF B := by unfold szF; simp
theorem szF_cons (f : Fl) (B : List Fl) : szF (f :: B) = f.d.size + szF B := by unfold szF; simp
theorem szF_put (l : List Fl) (f : Fl) : szF (putF l f) = szF l + f.d.size := by
  unfold putF
  have : szF l = szF (l.take (posF l f.n)) + szF (l.drop (posF l f.n)) := by rw [← szF_app, List.take_append_drop]
  rw [szF_app, szF_cons, this]; omega
theorem szF_take {l : List Fl} {n : ByteArray} (hs : SortedF l) (h : hasF l n = true) : szF (takeF l n) + (oldF l n).d.size = szF l := by
  obtain ⟨A, d, B, e, hp, _, _, ho⟩ := parted hs h
  obtain ⟨e1, _, e3, _⟩ := take_of_parts e hp
  unfold takeF
  rw [if_pos h, e1, e3, ho, e, szF_app, szF_app, szF_cons]
  dsimp only; omega
theorem bsize_app (a b : ByteArray) : (a ++ b).size = a.size + b.size := ByteArray.size_append ..
theorem szF_ext {l : List Fl} {n d : ByteArray} (hs : SortedF l) : szF (extF l n d) = szF l + d.size := by
  unfold extF
  by_cases h : hasF l n = true
  · obtain ⟨A, x, B, e, hp, _, _, ho⟩ := parted hs h
    rw [if_pos h, ho]
    have : l.set (posF l n) ⟨n, x ++ d⟩ = A ++ ⟨n, x ++ d⟩ :: B := by rw [← hp, e]; simp
    dsimp only
    rw [this, e, szF_app, szF_app, szF_cons, szF_cons]
    dsimp only
    rw [bsize_app]; omega
  · rw [if_neg h, szF_put]
    dsimp only
    rw [empty_app]
theorem len_put (l : List Fl) (f : Fl) : (putF l f).length = l.length + 1 := by
  unfold putF; have := posF_le l f.n; simp; omega
theorem len_take {l : List Fl} {n : ByteArray} : (takeF l n).length ≤ l.length := by
  unfold takeF; split
  · simp; omega
  · omega
theorem len_take_has {l : List Fl} {n : ByteArray} (hs : SortedF l) (h : hasF l n = true) : (takeF l n).length + 1 = l.length := by
  obtain ⟨A, d, B, e, hp, _, _, _⟩ := parted hs h
  obtain ⟨e1, _, e3, _⟩ := take_of_parts e hp
  unfold takeF
  rw [if_pos h, e1, e3, e]; simp; omega
/-- what writes do -/
structure Wr where
  k : Int
  n : ByteArray
  t : ByteArray
  d : ByteArray
instance : Inhabited Wr := ⟨⟨0, ⟨#[]⟩, ⟨#[]⟩, ⟨#[]⟩⟩⟩
def appF (l : List Fl) (w : Wr) : List Fl := if w.k = 1 then extF l w.n w.d else if w.k = 2 then renF l w.n w.t else if w.k = 3 then takeF l w.n else l
def baseF (fs : List Fl) : List Fl := fs.foldl (fun l f => extF l f.n f.d) []
def lookF (fs : List Fl) (ws : List Wr) : List Fl := ws.foldl appF (baseF fs)
theorem sorted_app {l : List Fl} {w : Wr} (hs : SortedF l) : SortedF (appF l w) := by
  unfold appF
  split
  · exact sorted_ext hs
  · split
    · exact sorted_ren hs
    · split
      · exact sorted_take hs
      · exact hs
theorem ext_end {A : List Fl} {f : Fl} (h : ∀ x ∈ A, cmpN x.n f.n < 0) : extF A f.n f.d = A ++ [f] := by
  have h0 : hasF A f.n = false := get_none.1 (get_lt h)
  unfold extF
  rw [if_neg (by simp [h0])]
  have hp : posF A f.n = A.length := by
    unfold posF posN
    rw [List.countP_eq_length.2]
    · simp [namesF]
    · intro x hx
      obtain ⟨y, hy, rfl⟩ := List.mem_map.1 hx
      simpa using h y hy
  unfold putF
  dsimp only
  rw [hp, empty_app]; simp
theorem base_from : ∀ (fs A : List Fl), SortedF (A ++ fs) → fs.foldl (fun l f => extF l f.n f.d) A = A ++ fs
  | [], A, _ => by simp
  | f :: fs, A, h => by
    have h1 : ∀ x ∈ A, cmpN x.n f.n < 0 := by
      unfold SortedF SortedN namesF at h
      rw [List.map_append, List.pairwise_append] at h
      exact fun x hx => h.2.2 x.n (List.mem_map_of_mem hx) f.n (by simp)
    rw [List.foldl_cons, ext_end h1, base_from fs (A ++ [f]) (by simpa using h)]
    simp
theorem base_sorted {fs : List Fl} (h : SortedF fs) : baseF fs = fs := base_from fs [] (by simpa using h)
theorem sorted_look : ∀ (ws : List Wr) {l : List Fl}, SortedF l → SortedF (ws.foldl appF l)
  | [], _, h => h
  | w :: ws, _, h => sorted_look ws (sorted_app h)
end Go.Proofs.Ytammngncmkhokaa
namespace Go.Proofs.Ytammngncmkhokaa
open Go Go.RowKit

/-- l with vs from place o on -/
def splice (l : List Value) (o : Nat) (vs : List Value) : List Value := l.take o ++ vs ++ l.drop (o + vs.length)
theorem splice_len {l : List Value} {o : Nat} {vs : List Value} (h : o + vs.length ≤ l.length) : (splice l o vs).length = l.length := by
  unfold splice; simp; omega
theorem own_rowK {w : World} {g : Nat} {t : TypeId} {cur cs : List Value} (h : Own w g t cur) : Own (w.setRow g cs.toArray) g t cs := by
  unfold Own at *
  simp [World.setRow, Array.getElem?_modify, h]
theorem row_other {w : World} {g k : Nat} {cs : Array Value} (h : k ≠ g) : (w.setRow g cs).heap[k]? = w.heap[k]? := setRow_other w g k cs h
/-- only the blocks of S have turned, of those that were there -/
structure Kept (w w' : World) (S : Nat → Prop) : Prop where
  os : w'.os = w.os
  tape : w'.tape = w.tape
  output : w'.output = w.output
  size : w.heap.size ≤ w'.heap.size
  block : ∀ k, k < w.heap.size → ¬ S k → w'.heap[k]? = w.heap[k]?
section
variable {w w' w'' : World} {S T : Nat → Prop}
theorem Kept.refl (w : World) (S : Nat → Prop) : Kept w w S := ⟨rfl, rfl, rfl, Nat.le_refl _, fun _ _ _ => rfl⟩
theorem Kept.trans (h : Kept w w' S) (k : Kept w' w'' T) (hs : ∀ b, b < w.heap.size → T b → S b) : Kept w w'' S :=
  ⟨k.os.trans h.os, k.tape.trans h.tape, k.output.trans h.output, Nat.le_trans h.size k.size,
    fun b hb hn => (k.block b (Nat.lt_of_lt_of_le hb h.size) (fun ht => hn (hs b hb ht))).trans (h.block b hb hn)⟩
theorem Kept.more (h : Kept w w' S) (hs : ∀ b, S b → T b) : Kept w w' T := ⟨h.os, h.tape, h.output, h.size, fun b hb hn => h.block b hb (fun x => hn (hs b x))⟩
theorem Kept.of_below {B : Nat} (h : Below B w w') (hB : w.heap.size ≤ B) (S : Nat → Prop) : Kept w w' S := ⟨h.os, h.tape, h.output, h.size, fun b hb _ => h.block b (by omega)⟩
theorem Kept.of_grown {o : Option Nat} (h : w.grownBy w' o) (hs : ∀ b, o = some b → S b) : Kept w w' S :=
  ⟨h.os, h.tape, h.output, h.size, fun b hb hn => h.block b hb (fun e => hn (hs b e.symm))⟩
theorem Kept.below {B : Nat} (h : Kept w w' S) (hB : ∀ b, S b → B ≤ b) (hs : B ≤ w.heap.size) : Below B w w' := ⟨h.os, h.tape, h.output, h.size, fun b hb => h.block b (by omega) (fun x => by have := hB b x; omega)⟩
theorem Kept.row {base : Nat} {e : TypeId} {size : Nat} {v : Value} {n : Nat} {xs : List Value} (h : Kept w w' S) (ho : w.ownsRow base e size v n xs) (hn : ∀ k, v.ownBlock = some k → ¬ S k) : w'.ownsRow base e size v n xs := by
  refine ⟨ho.1, ?_⟩
  rcases ho.2 with h0 | ⟨g, cap, cur, rfl, hb, hg, rest⟩
  · exact .inl h0
  · refine .inr ⟨g, cap, cur, rfl, hb, ?_, rest⟩
    rw [h.block g (Array.getElem?_eq_some_iff.1 hg).1 (hn g rfl)]
    exact hg
theorem Kept.own {g : Nat} {t : TypeId} {l : List Value} (h : Kept w w' S) (ho : Own w g t l) (hn : ¬ S g) : Own w' g t l := (h.block g ho.inside hn).trans ho
theorem Kept.set_ (h : Kept w w' S) {g o : Nat} (hg : S g ∨ w.heap.size ≤ g) (u : Value) : Kept w (w'.setCell ⟨g, o, none⟩ u) S :=
  ⟨h.os, h.tape, h.output, by simpa using h.size, fun b hb hn => (Below.heap_setCell w' ⟨g, o, none⟩ u b (by intro e; dsimp only at e; subst e; rcases hg with h1 | h1; exact hn h1; omega)).trans (h.block b hb hn)⟩
theorem Kept.alloc (h : Kept w w' S) (o : Obj) : Kept w (w'.alloc o) S := ⟨h.os, h.tape, h.output, Nat.le_trans h.size (by simp), fun b hb hn => (Below.heap_alloc w' o b (Nat.lt_of_lt_of_le hb h.size)).trans (h.block b hb hn)⟩
theorem Kept.drew (h : Kept w w' S) : Kept w w'.drew S := ⟨h.os, h.tape, h.output, h.size, h.block⟩
end
/-- a row by the block in which it lies -/
theorem row_own {w : World} {base c n size : Nat} {e : TypeId} {A : Option Addr} {xs : List Value} (h : w.ownsRow base e size (.slice A n c) n xs) :
    (A = none ∧ n = 0 ∧ c = 0 ∧ xs = []) ∨ ∃ g cur, A = some ⟨g, 0, none⟩ ∧ base ≤ g ∧ Own w g e cur ∧ n ≤ c ∧ c ≤ maxLen ∧ cur.length = c * size ∧ cur.take (n * size) = xs := by
  rcases h.2 with ⟨h0, h1⟩ | ⟨g, cap, cur, hv, hb, hg, h1, h2, h3, h4⟩
  · simp only [Value.slice.injEq] at h0
    refine .inl ⟨h0.1, h1, h0.2.2, ?_⟩
    have := h.1
    rw [h1] at this
    exact List.length_eq_zero_iff.1 (by omega)
  · simp only [Value.slice.injEq] at hv
    obtain ⟨rfl, _, rfl⟩ := hv
    exact .inr ⟨g, cur.toList, rfl, hb, by unfold Own; simpa using hg, h1, h2, by simpa using h3, h4⟩
theorem own_to_row {w : World} {base g c n size : Nat} {e : TypeId} {cur : List Value} (h : Own w g e cur) (hb : base ≤ g) (hn : n ≤ c) (hm : c ≤ maxLen) (hl : cur.length = c * size) :
    w.ownsRow base e size (.slice (some ⟨g, 0, none⟩) n c) n (cur.take (n * size)) :=
  ⟨by rw [List.length_take, hl]; exact Nat.min_eq_left (Nat.mul_le_mul_right _ hn), .inr ⟨g, c, cur.toArray, rfl, hb, h, hn, hm, by simpa using hl, by simp⟩⟩
/-- 'copy' into a block of the call's own -/
theorem run_copy_into {P : Program} (w : World) (dT sT ty elem : TypeId) (g o dLen dCap : Nat) (a : Addr) (sLen sCap k : Nat) (cur cs : List Value) (t : TypeId) (hu : P.underlying dT = some (.slice elem)) (hs : (P.info? elem).map (·.size) = some k)
    (hg : Own w g t cur) (hn : cs.length = Nat.min sLen dLen * k) (hsrc : ∀ j v, cs[j]? = some v → w.cell? (a.add j) = some v) (hfit : o + cs.length ≤ cur.length) (h1 : ∀ v ∈ cs, v.oneCell' = true) :
    (Builtin.copy_ #[dT, sT] ty #[.slice (some ⟨g, o, none⟩) dLen dCap, .slice (some a) sLen sCap]).run P w = .ok (goInt (Nat.min sLen dLen)) (w.setRow g (splice cur o cs).toArray) := by
  have hl := run_loadCells_list (P := P) w a cs hsrc
  have hst := run_storeCells_at P g o t cs 0 cur.toArray w hg (by simpa using hfit) h1
  simp only [Nat.add_zero] at hst
  cases hq : P.info? elem with
  | none => simp [hq] at hs
  | some i =>
    have hi : i.size = k := by simpa [hq] using hs
    simp [Builtin.copy_, run_underlying hu, Builtin.lenOf, Builtin.firstCells, sizeOf, typeInfo, hq, hi, ← hn, hl, hst, splice]
/-- 'clear' of one element in a block of the call's own -/
theorem run_clear_one {P : Program} (w : World) (t e ty tt : TypeId) (z : Value) (ht : P.underlying t = some (.slice e)) (hv : ∀ w, (zeroValue e).run P w = .ok z w) (h1 : ∀ u ∈ z.cells.toList, u.oneCell' = true) (g o c : Nat) (cur : List Value) (hg : Own w g tt cur)
    (hfit : o + z.cells.size ≤ cur.length) :
    (Builtin.clear_ #[t] ty #[.slice (some ⟨g, o, none⟩) 1 c]).run P w = .ok (.tuple #[]) (w.setRow g (splice cur o z.cells.toList).toArray) := by
  have hz : (Builtin.zeroCells z.cells 1).toList = z.cells.toList := by
    unfold Builtin.zeroCells
    apply List.ext_getElem
    · simp
    · intro i h1 h2
      simp at h1 h2 ⊢
      rw [getElem!_pos z.cells (i % z.cells.size) (by rw [Nat.mod_eq_of_lt h1]; exact h1)]
      simp [Nat.mod_eq_of_lt h1]
  have hst := run_storeCells_at P g o tt z.cells.toList 0 cur.toArray w hg (by simpa using hfit) h1
  simp only [Nat.add_zero] at hst
  simp [Builtin.clear_, run_underlying ht, hv, hz, hst, splice]
/-- a builtin of two arguments whose run is known, as a step of a region that draws its order -/
theorem step_append_known {P : Program} {ops : Array Oper} {o : Oper} {a : Act} {w : World} {K : Act → World → Prop} {Q : Exit → Act → World → Prop} {E : Prop}
    (hg : o.guard = none) (d x : Operand) (dT sT : TypeId) (hop : o.op = Op.call { callee := Callee.builtin Builtin.append, args := #[d, x], argTypes := #[dT, sT] })
    (v u : Value) (hd : a.eval d = v) (hx : a.eval x = u) {v' : Value} {w' : World} (hr : (Builtin.append_ #[dT, sT] o.type #[v, u]).run P w = .ok v' w') (hK : K (a.put o.dst v') w') :
    if Region.wanted o (yielded ops a.tmps) = true then Oper.wp P o a w K Q else E := by
  have hw : Region.wanted o (yielded ops a.tmps) = true := by simp [Region.wanted, hg]
  rw [if_pos hw]
  unfold Oper.wp
  simp [execOp, hop, resolve, invoke, builtin, hd, hx, hr, Result.andThen]
  exact hK
theorem step_copy_known {P : Program} {ops : Array Oper} {o : Oper} {a : Act} {w : World} {K : Act → World → Prop} {Q : Exit → Act → World → Prop} {E : Prop}
    (hg : o.guard = none) (d x : Operand) (dT sT : TypeId) (hop : o.op = Op.call { callee := Callee.builtin Builtin.copy, args := #[d, x], argTypes := #[dT, sT] })
    (v u : Value) (hd : a.eval d = v) (hx : a.eval x = u) {v' : Value} {w' : World} (hr : (Builtin.copy_ #[dT, sT] o.type #[v, u]).run P w = .ok v' w') (hK : K (a.put o.dst v') w') :
    if Region.wanted o (yielded ops a.tmps) = true then Oper.wp P o a w K Q else E := by
  have hw : Region.wanted o (yielded ops a.tmps) = true := by simp [Region.wanted, hg]
  rw [if_pos hw]
  unfold Oper.wp
  simp [execOp, hop, resolve, invoke, builtin, hd, hx, hr, Result.andThen]
  exact hK
theorem list_append_known {P : Program} (w : World) {ops : Array Oper} {rest : List Oper} {o : Oper} {a : Act} {Q : Exit → Act → World → Prop} (hgd : o.guard = none) (d s : Operand) (t t' : TypeId)
    (ho : o.op = .call { callee := .builtin .append, args := #[d, s], argTypes := #[t, t'] }) (v u : Value) (hd : a.eval d = v) (hs : a.eval s = u) {v' : Value} {w' : World}
    (hr : (Builtin.append_ #[t, t'] o.type #[v, u]).run P w = .ok v' w') (h : wpList P ops Q rest (a.put o.dst v') w') : wpList P ops Q (o :: rest) a w := by
  refine wpList_plain hgd fun K hK => ?_
  unfold Oper.wp execOp
  simp only [ho, resolve, invoke, builtin, Sem.run_bind, Sem.run_pure, Result.andThen_ok, List.map_toArray, List.map_cons, List.map_nil, hd, hs, hr]
  exact hK _ _ h
theorem list_copy_known {P : Program} (w : World) {ops : Array Oper} {rest : List Oper} {o : Oper} {a : Act} {Q : Exit → Act → World → Prop} (hgd : o.guard = none) (d s : Operand) (t t' : TypeId)
    (ho : o.op = .call { callee := .builtin .copy, args := #[d, s], argTypes := #[t, t'] }) (v u : Value) (hd : a.eval d = v) (hs : a.eval s = u) {v' : Value} {w' : World}
    (hr : (Builtin.copy_ #[t, t'] o.type #[v, u]).run P w = .ok v' w') (h : wpList P ops Q rest (a.put o.dst v') w') : wpList P ops Q (o :: rest) a w := by
  refine wpList_plain hgd fun K hK => ?_
  unfold Oper.wp execOp
  simp only [ho, resolve, invoke, builtin, Sem.run_bind, Sem.run_pure, Result.andThen_ok, List.map_toArray, List.map_cons, List.map_nil, hd, hs, hr]
  exact hK _ _ h
theorem list_clear_known {P : Program} (w : World) {ops : Array Oper} {rest : List Oper} {o : Oper} {a : Act} {Q : Exit → Act → World → Prop} (hgd : o.guard = none) (d : Operand) (t : TypeId)
    (ho : o.op = .call { callee := .builtin .clear, args := #[d], argTypes := #[t] }) (v : Value) (hd : a.eval d = v) {v' : Value} {w' : World}
    (hr : (Builtin.clear_ #[t] o.type #[v]).run P w = .ok v' w') (h : wpList P ops Q rest (a.put o.dst v') w') : wpList P ops Q (o :: rest) a w := by
  refine wpList_plain hgd fun K hK => ?_
  unfold Oper.wp execOp
  simp only [ho, resolve, invoke, builtin, Sem.run_bind, Sem.run_pure, Result.andThen_ok, List.map_toArray, List.map_cons, List.map_nil, hd, hr]
  exact hK _ _ h
end Go.Proofs.Ytammngncmkhokaa
