/- Part 5 of the texts on which BatchMerges rests: facts and contracts. -/
import Derived.Test.YtllpfngmnccejaaGreatBatchMergesM4
import Derived.Tactics2
import Derived.Orders
import Derived.RegionTactic
import Derived.Deep.Cut
import Derived.Deep.RegionLaw
import Derived.Deep.CutBlock
import Derived.Deep.Onto
namespace Go.Proofs.YtllpfngmnccejaaGreat
open Go

/-- the state behind those operations that have come up: each has left its value -/
def putsR : List (Option Tmp × Option Value) → Act → Act
  | [], a => a
  | (_, none) :: l, a => putsR l a
  | (d, some v) :: l, a => putsR l (a.put d v)
/-- no two operations leave their values in one temporary -/
def ApartR : List (Option Tmp) → Prop
  | [] => True
  | d :: l => (∀ t, d = some t → some t ∉ l) ∧ ApartR l
theorem putsR_put : ∀ (l : List (Option Tmp × Option Value)) (a : Act) (d : Option Tmp) (v : Value), (∀ t, d = some t → some t ∉ l.map Prod.fst) → putsR l (a.put d v) = (putsR l a).put d v
  | [], _, _, _, _ => rfl
  | (_, none) :: l, a, d, v, h => putsR_put l a d v fun t ht hm => h t ht (List.mem_cons_of_mem _ hm)
  | (e, some u) :: l, a, d, v, h => by
    show putsR l ((a.put d v).put e u) = (putsR l (a.put e u)).put d v
    rw [← putsR_put l (a.put e u) d v fun t ht hm => h t ht (List.mem_cons_of_mem _ hm)]
    congr 1
    exact Act.put_comm a v u fun t ht he => h t ht (by subst he; exact List.mem_cons_self)
theorem putsR_set : ∀ (l : List (Option Tmp × Option Value)) (a : Act) (i : Nat) (d : Option Tmp) (v : Value), ApartR (l.map Prod.fst) → l[i]? = some (d, none) → (putsR l a).put d v = putsR (l.set i (d, some v)) a
  | [], _, _, _, _, _, h => by simp at h
  | (e, x) :: l, a, 0, d, v, ha, h => by
    obtain ⟨rfl, rfl⟩ : e = d ∧ x = none := by simpa using h
    show (putsR l a).put e v = putsR l (a.put e v)
    exact (putsR_put l a e v ha.1).symm
  | (e, none) :: l, a, i + 1, d, v, ha, h => putsR_set l a i d v ha.2 (by simpa using h)
  | (e, some u) :: l, a, i + 1, d, v, ha, h => putsR_set l (a.put e u) i d v ha.2 (by simpa using h)
theorem putsR_size : ∀ (l : List (Option Tmp × Option Value)) (a : Act), (putsR l a).tmps.size = a.tmps.size
  | [], _ => rfl
  | (_, none) :: l, a => putsR_size l a
  | (d, some v) :: l, a => (putsR_size l (a.put d v)).trans (by cases d <;> simp [Act.put])
/-- a temporary that none leaves its value in -/
theorem putsR_miss : ∀ (l : List (Option Tmp × Option Value)) (a : Act) (t : Tmp), (∀ v, (some t, some v) ∉ l) → (putsR l a).eval (.tmp t) = a.eval (.tmp t)
  | [], _, _, _ => rfl
  | (_, none) :: l, a, t, h => putsR_miss l a t fun v hm => h v (List.mem_cons_of_mem _ hm)
  | (d, some v) :: l, a, t, h => by
    show (putsR l (a.put d v)).eval (.tmp t) = _
    rw [putsR_miss l (a.put d v) t fun v hm => h v (List.mem_cons_of_mem _ hm)]
    exact Act.eval_put fun e he ht => h v (by cases ht; subst he; exact List.mem_cons_self)
theorem putsR_hit : ∀ (l : List (Option Tmp × Option Value)) (a : Act) (i : Nat) (t : Tmp) (v : Value), ApartR (l.map Prod.fst) → l[i]? = some (some t, some v) → t < a.tmps.size → (putsR l a).eval (.tmp t) = v
  | [], _, _, _, _, _, h, _ => by simp at h
  | (e, x) :: l, a, 0, t, v, ha, h, ht => by
    obtain ⟨rfl, rfl⟩ : e = some t ∧ x = some v := by simpa using h
    show (putsR l (a.put (some t) v)).eval (.tmp t) = v
    rw [putsR_miss l _ t fun u hm => ha.1 t rfl (List.mem_map.2 ⟨_, hm, rfl⟩)]
    simp [Act.eval, Act.put, ht]
  | (e, none) :: l, a, i + 1, t, v, ha, h, ht => putsR_hit l a i t v ha.2 (by simpa using h) ht
  | (e, some u) :: l, a, i + 1, t, v, ha, h, ht => putsR_hit l (a.put e u) i t v ha.2 (by simpa using h) (by cases e <;> simpa [Act.put] using ht)
theorem apartR_of {l : List (Option Tmp)} (h : (l.filterMap id).Nodup) : ApartR l := by
  induction l with
  | nil => trivial
  | cons d l ih =>
    cases d with
    | none => exact ⟨fun t ht => (by cases ht), ih (by simpa using h)⟩
    | some t =>
      have h' : (t :: l.filterMap id).Nodup := by simpa using h
      refine ⟨fun s hs hm => ?_, ih (List.nodup_cons.1 h').2⟩
      cases hs
      exact (List.nodup_cons.1 h').1 (List.mem_filterMap.2 ⟨_, hm, rfl⟩)

section
variable {P : Program} {Q : Exit → Act → World → Prop}
/-- every operation waits for earlier ones alone -/
def earlyR (l : List Oper) : Bool := (List.range l.length).all fun i => ((l[i]?).map fun o => o.after.all fun e => decide (e.on < i)).getD true
theorem earlyR_spec {l : List Oper} (h : earlyR l = true) {i : Nat} {o : Oper} (ho : l[i]? = some o) : ∀ e ∈ o.after, e.on < i := by
  unfold earlyR at h
  rw [List.all_eq_true] at h
  have := h i (List.mem_range.2 (List.getElem?_eq_some_iff.1 ho).1)
  rw [ho] at this
  simp only [Option.map_some, Option.getD_some, Array.all_eq_true_iff_forall_mem, decide_eq_true_eq] at this
  exact this
def slotsR (l : List Oper) (vals : List (Option Value)) : List (Option Tmp × Option Value) := (l.map Oper.dst).zip vals
theorem slotsR_fst {l : List Oper} {vals : List (Option Value)} (h : vals.length = l.length) : (slotsR l vals).map Prod.fst = l.map Oper.dst := by
  unfold slotsR; rw [List.map_fst_zip]; simp [h]
theorem slotsR_at {l : List Oper} {vals : List (Option Value)} {i : Nat} {o : Oper} {x : Option Value} (ho : l[i]? = some o) (hx : vals[i]? = some x) : (slotsR l vals)[i]? = some (o.dst, x) := by
  unfold slotsR; rw [List.getElem?_zip_eq_some]; simp [ho, hx]
theorem slotsR_set {l : List Oper} {vals : List (Option Value)} {i : Nat} {o : Oper} {x : Option Value} (ho : l[i]? = some o) : slotsR l (vals.set i x) = (slotsR l vals).set i (o.dst, x) := by
  unfold slotsR
  apply List.ext_getElem?
  intro j
  by_cases hij : i = j
  · subst hij
    rw [List.getElem?_set]
    rw [if_pos rfl]
    by_cases hl : i < vals.length
    · have : (vals.set i x)[i]? = some x := by simp [hl]
      have h2 := slotsR_at ho this
      unfold slotsR at h2
      rw [h2, if_pos]
      have := (List.getElem?_eq_some_iff.1 ho).1
      simp; omega
    · rw [List.set_eq_of_length_le (by omega), if_neg (by simp; omega)]
      rw [List.getElem?_eq_none]; simp; omega
  · rw [List.getElem?_set_ne hij, List.zip_eq_zipWith, List.zip_eq_zipWith, List.getElem?_zipWith, List.getElem?_zipWith, List.getElem?_set_ne hij]
/-- what has come up: some operations, those that they wait for among them -/
structure CameUp (l : List Oper) (vals : List (Option Value)) : Prop where
  len : vals.length = l.length
  closed : ∀ (i : Nat) (o : Oper) (v : Value), l[i]? = some o → vals[i]? = some (some v) → ∀ e ∈ o.after, Region.binds .any e = true → ∃ u, vals[e.on]? = some (some u)
def flagsR (vals : List (Option Value)) : Array Bool := (vals.map Option.isSome).toArray
theorem flagsR_set (vals : List (Option Value)) (i : Nat) (v : Value) : (flagsR vals).setIfInBounds i true = flagsR (vals.set i (some v)) := by
  unfold flagsR
  apply Array.ext'
  simp [List.map_set]
theorem flagR_at {vals : List (Option Value)} {i : Nat} {d : Bool} (h : i < vals.length) : (flagsR vals).getD i d = (vals[i]).isSome := by
  unfold flagsR
  rw [Array.getD_eq_getD_getElem?]
  simp [h]
/-- **a region that draws its order, one step law an operation**: F holds of what has come up and of the world -/
theorem wp_region_steps {id : Nat} {l : List Oper} {a : Act} {w : World} (hm : P.follows .mixedOrders = true) (he : earlyR l = true) (hd : ((l.map Oper.dst).filterMap _root_.id).Nodup)
    (F : List (Option Value) → World → Prop) (h0 : F (l.map fun _ => none) w.drew)
    (hstep : ∀ (i : Nat) (o : Oper) (vals : List (Option Value)) (w' : World), l[i]? = some o → CameUp l vals → vals[i]? = some none → (∀ e ∈ o.after, Region.binds .any e = true → ∃ u, vals[e.on]? = some (some u)) → F vals w' →
      ∀ K : Act → World → Prop, (∀ v w'', F (vals.set i (some v)) w'' → K ((putsR (slotsR l vals) a).put o.dst v) w'') →
      if Region.wanted o (yielded l.toArray (putsR (slotsR l vals) a).tmps) = true then Oper.wp P o (putsR (slotsR l vals) a) w' K Q else K ((putsR (slotsR l vals) a).put o.dst undef) w')
    (hend : ∀ (vs : List Value) (w' : World), vs.length = l.length → F (vs.map some) w' → Q .normal (putsR (slotsR l (vs.map some)) a) w') :
    (Code.region id l.toArray true).wp P Q a w := by
  refine wp_region_any hm ?_
  have hap : ∀ vals : List (Option Value), vals.length = l.length → ApartR ((slotsR l vals).map Prod.fst) := fun vals hv => by rw [slotsR_fst hv]; exact apartR_of hd
  have key : ∀ (n : Nat) (vals : List (Option Value)) (w' : World), CameUp l vals → (vals.filter (fun x => x.isNone)).length ≤ n → F vals w' → wpAny P .any l.toArray Q n (flagsR vals) (putsR (slotsR l vals) a) w' := by
    have all : ∀ (vals : List (Option Value)), CameUp l vals → Region.ready .any l.toArray (flagsR vals) = [] → ∀ i, i < l.length → ∃ v, vals[i]? = some (some v) := by
      intro vals hc hr i
      induction i using Nat.strongRecOn with
      | _ i ih =>
        intro hi
        have hiv : i < vals.length := by rw [hc.len]; exact hi
        cases hx : vals[i] with
        | some v => exact ⟨v, by rw [List.getElem?_eq_getElem hiv, hx]⟩
        | none =>
          exfalso
          have hmem : i ∈ Region.ready .any l.toArray (flagsR vals) := mem_ready.2 ⟨by rw [flagR_at hiv, hx]; rfl, l[i], by simp [hi], fun e hem hb => by
            have hlt := earlyR_spec he (List.getElem?_eq_getElem hi) e hem
            obtain ⟨u, hu⟩ := ih e.on hlt (by omega)
            have hel : e.on < vals.length := by omega
            rw [flagR_at hel]
            rw [List.getElem?_eq_getElem hel] at hu
            injection hu with hu
            rw [hu]; rfl⟩
          rw [hr] at hmem
          cases hmem
    have done : ∀ (vals : List (Option Value)) (w' : World), CameUp l vals → F vals w' → Region.ready .any l.toArray (flagsR vals) = [] → Q .normal (putsR (slotsR l vals) a) w' := by
      intro vals w' hc hF hr
      have hall := all vals hc hr
      have hv : vals = (vals.map fun x => x.getD undef).map some := by
        apply List.ext_getElem?
        intro i
        rw [List.getElem?_map, List.getElem?_map]
        by_cases hi : i < vals.length
        · obtain ⟨v, hv⟩ := hall i (by rw [← hc.len]; exact hi)
          rw [hv]; rfl
        · rw [List.getElem?_eq_none (by omega)]; rfl
      rw [hv] at hF ⊢
      exact hend _ w' (by rw [List.length_map]; exact hc.len) hF
    intro n
    induction n with
    | zero =>
      intro vals w' hc hn hF
      have hr : Region.ready .any l.toArray (flagsR vals) = [] := by
        rw [List.eq_nil_iff_forall_not_mem]
        intro i hi
        obtain ⟨h1, o, ho, _⟩ := mem_ready.1 hi
        have hil : i < l.length := by have := (Array.getElem?_eq_some_iff.1 ho).1; simpa using this
        have hiv : i < vals.length := by rw [hc.len]; exact hil
        rw [flagR_at hiv] at h1
        have hno : vals[i] = none := by cases h : vals[i] with | none => rfl | some v => rw [h] at h1; cases h1
        have : vals[i] ∈ vals.filter (fun x => x.isNone) := List.mem_filter.2 ⟨List.getElem_mem hiv, by rw [hno]; rfl⟩
        have := List.length_pos_of_mem this
        omega
      exact ⟨hr, done vals w' hc hF hr⟩
    | succ n ih =>
      intro vals w' hc hn hF
      refine ⟨fun hr => done vals w' hc hF hr, fun i hi => ?_⟩
      obtain ⟨h1, o, ho, hdeps⟩ := mem_ready.1 hi
      have ho' : l[i]? = some o := by simpa using ho
      have hil : i < l.length := (List.getElem?_eq_some_iff.1 ho').1
      have hiv : i < vals.length := by rw [hc.len]; exact hil
      rw [flagR_at hiv] at h1
      have hno : vals[i] = none := by cases h : vals[i] with | none => rfl | some v => rw [h] at h1; cases h1
      have hno' : vals[i]? = some none := by rw [List.getElem?_eq_getElem hiv, hno]
      have hdeps' : ∀ e ∈ o.after, Region.binds .any e = true → ∃ u, vals[e.on]? = some (some u) := fun e hem hb => by
        have h2 := hdeps e hem hb
        have hlt := earlyR_spec he ho' e hem
        have hel : e.on < vals.length := by omega
        rw [flagR_at hel] at h2
        obtain ⟨u, hu⟩ := Option.isSome_iff_exists.1 h2
        exact ⟨u, by rw [List.getElem?_eq_getElem hel, hu]⟩
      refine wpOp_step ho fun K' hK => hstep i o vals w' ho' hc hno' hdeps' hF K' fun v w'' hF' => hK _ _ ?_
      have hc' : CameUp l (vals.set i (some v)) := by
        refine ⟨by rw [List.length_set]; exact hc.len, fun j oj u hoj hu e hem hb => ?_⟩
        have hs : ∀ k u, vals[k]? = some (some u) → ∃ u', (vals.set i (some v))[k]? = some (some u') := fun k u hk => by
          by_cases hik : i = k
          · subst hik; rw [hno'] at hk; cases hk
          · exact ⟨u, by rw [List.getElem?_set_ne hik]; exact hk⟩
        by_cases hij : i = j
        · subst hij
          rw [ho'] at hoj
          cases hoj
          obtain ⟨u', hu'⟩ := hdeps' e hem hb
          exact hs _ _ hu'
        · rw [List.getElem?_set_ne hij] at hu
          obtain ⟨u', hu'⟩ := hc.closed j oj u hoj hu e hem hb
          exact hs _ _ hu'
      rw [flagsR_set vals i v, putsR_set _ a i o.dst v (hap vals hc.len) (slotsR_at ho' hno'), ← slotsR_set ho']
      refine ih _ w'' hc' ?_ hF'
      have hcnt : ∀ (vals : List (Option Value)) (i : Nat), vals[i]? = some none → ((vals.set i (some v)).filter (fun x => x.isNone)).length + 1 = (vals.filter (fun x => x.isNone)).length := by
        intro vals
        induction vals with
        | nil => intro i h; simp at h
        | cons x vals ih =>
          intro i h
          cases i with
          | zero =>
            obtain rfl : x = none := by simpa using h
            simp
          | succ i =>
            have := ih i (by simpa using h)
            rw [List.set_cons_succ, List.filter_cons, List.filter_cons]
            split <;> simp_all
      have := hcnt vals i hno'
      omega
  have h := key l.length (l.map fun _ => none) w.drew ⟨by simp, fun i o v _ hv => by rw [List.getElem?_map] at hv; cases l[i]? <;> simp at hv⟩ (by
    refine Nat.le_trans (List.length_filter_le _ _) (by simp)) h0
  have e1 : flagsR (l.map fun _ => none) = Array.replicate l.toArray.size false := by
    unfold flagsR
    apply Array.ext'
    rw [List.map_map]
    show List.map (fun _ => false) l = _
    rw [List.map_const', List.size_toArray, Array.toList_replicate]
  have e2 : putsR (slotsR l (l.map fun _ => none)) a = a := by
    have : ∀ (m : List (Option Tmp × Option Value)) (a : Act), (∀ x ∈ m, x.2 = none) → putsR m a = a := by
      intro m
      induction m with
      | nil => intro a _; rfl
      | cons x m ih =>
        intro a h
        obtain ⟨d, y⟩ := x
        obtain rfl : y = none := h (d, y) List.mem_cons_self
        exact ih a fun z hz => h z (List.mem_cons_of_mem _ hz)
    refine this _ a fun x hx => ?_
    obtain ⟨d, y⟩ := x
    have := (List.of_mem_zip hx).2
    simp at this
    exact this.2.symm
  rw [e1, e2] at h
  simpa using h
end
end Go.Proofs.YtllpfngmnccejaaGreat
namespace Go.Proofs.YtllpfngmnccejaaGreat
open Go Go.RowKit

/-- the operations of the region: T the slice's type, 'so' its slot, 'sa' the place's, op5 what makes the new one -/
abbrev insOps (T TI T5 : TypeId) (d0 d1 d2 d3 d4 d5 d6 d7 d8 d9 d10 d11 so sa : Tmp) (op5 : Op) (p0 p1 p2 p3 p4 p5 p6 p7 p8 p9 p10 p11 p12 : String) : List Oper :=
  [{ dst := some d0, op := .buildSlice T 0 #[], type := T, pos := p0, after := #[], guard := none },
   { dst := some d1, op := .move (.tmp so), type := T, pos := p1, after := #[], guard := none },
   { dst := some d2, op := .move (.tmp sa), type := TI, pos := p2, after := #[], guard := none },
   { dst := some d3, op := .slice T (.tmp d1) none (some (.tmp d2)) none, type := T, pos := p3, after := #[{ on := 1, ground := .data }, { on := 2, ground := .data }], guard := none },
   { dst := some d4, op := .call { callee := .builtin .append, args := #[.tmp d0, .tmp d3], argTypes := #[T, T] }, type := T, pos := p4, after := #[{ on := 0, ground := .data }, { on := 3, ground := .data }], guard := none },
   { dst := some d5, op := op5, type := T5, pos := p5, after := #[], guard := none },
   { dst := some d6, op := .buildSlice T 1 #[(0, .tmp d5)], type := T, pos := p6, after := #[{ on := 5, ground := .data }], guard := none },
   { dst := some d7, op := .call { callee := .builtin .append, args := #[.tmp d4, .tmp d6], argTypes := #[T, T] }, type := T, pos := p7, after := #[{ on := 4, ground := .data }, { on := 6, ground := .data }, { on := 4, ground := .chain }], guard := none },
   { dst := some d8, op := .move (.tmp so), type := T, pos := p8, after := #[], guard := none },
   { dst := some d9, op := .move (.tmp sa), type := TI, pos := p9, after := #[], guard := none },
   { dst := some d10, op := .slice T (.tmp d8) (some (.tmp d9)) none none, type := T, pos := p10, after := #[{ on := 8, ground := .data }, { on := 9, ground := .data }], guard := none },
   { dst := some d11, op := .call { callee := .builtin .append, args := #[.tmp d7, .tmp d10], argTypes := #[T, T] }, type := T, pos := p11, after := #[{ on := 7, ground := .data }, { on := 10, ground := .data }, { on := 7, ground := .chain }], guard := none },
   { dst := some so, op := .assign (.tmp d11), type := T, pos := p12, after := #[{ on := 11, ground := .data }, { on := 11, ground := .chain }, { on := 0, ground := .phase }, { on := 1, ground := .phase }, { on := 2, ground := .phase }, { on := 3, ground := .phase }, { on := 4, ground := .phase }, { on := 5, ground := .phase }, { on := 6, ground := .phase }, { on := 7, ground := .phase }, { on := 8, ground := .phase }, { on := 9, ground := .phase }, { on := 10, ground := .phase }, { on := 11, ground := .phase }], guard := none }]
section
variable {P : Program} {α : Type} {size : Nat} {cells : α → List Value}
/-- what holds while they come up -/
structure InsG (V : World) (e : TypeId) (size : Nat) (cells : α → List Value) (l : List α) (x : α) (i : Nat) (O I S1 S2 X : Value) (x0 x1 x2 x3 x4 x5 x6 x7 x8 x9 x10 x11 x12 : Option Value) (w : World) : Prop where
  below : Below V.heap.size V w
  m1 : ∀ v, x1 = some v → v = O
  m2 : ∀ v, x2 = some v → v = I
  s3 : ∀ v, x3 = some v → v = S1
  k5 : ∀ v, x5 = some v → v = X
  m8 : ∀ v, x8 = some v → v = O
  m9 : ∀ v, x9 = some v → v = I
  s10 : ∀ v, x10 = some v → v = S2
  r0 : ∀ v, x0 = some v → x4 = none → w.ownsRow V.heap.size e size v 0 []
  r4 : ∀ v, x4 = some v → x7 = none → w.ownsRow V.heap.size e size v i ((l.take i).flatMap cells)
  b6 : ∀ v, x6 = some v → x7 = none → ∃ g, v = .slice (some ⟨g, 0, none⟩) 1 1 ∧ Own w g e (cells x) ∧ ∀ v0, x0 = some v0 → x4 = none → v0.ownBlock ≠ some g
  r7 : ∀ v, x7 = some v → x11 = none → w.ownsRow V.heap.size e size v (i + 1) ((l.take i ++ [x]).flatMap cells)
  r11 : ∀ v, x11 = some v → w.ownsRow V.heap.size e size v (l.length + 1) ((l.take i ++ x :: l.drop i).flatMap cells)
  a12 : ∀ v, x12 = some v → x11 = some v
theorem step_value {P : Program} {Q : Exit → Act → World → Prop} {ops : Array Oper} {o : Oper} {a : Act} {K : Act → World → Prop} {w w' : World} {v : Value} {E : Prop} (hg : o.guard = none) (hr : (execOp a.eval o).run P w = .ok (.value v) w') (h : K (a.put o.dst v) w') :
    if Region.wanted o (yielded ops a.tmps) = true then Oper.wp P o a w K Q else E := by
  have hw : Region.wanted o (yielded ops a.tmps) = true := by simp [Region.wanted, hg]
  rw [if_pos hw]
  unfold Oper.wp
  rw [hr]
  exact h
theorem nodup_at {β : Type} {l : List β} (h : l.Nodup) {i j : Nat} {x : β} (hi : l[i]? = some x) (hj : l[j]? = some x) : i = j := by
  obtain ⟨h1, e1⟩ := List.getElem?_eq_some_iff.1 hi
  obtain ⟨h2, e2⟩ := List.getElem?_eq_some_iff.1 hj
  exact (List.getElem_inj h).1 (e1.trans e2.symm)
theorem slots_mem {l : List Oper} {vals : List (Option Value)} {t : Tmp} {v : Value} (h : (some t, some v) ∈ slotsR l vals) : ∃ j : Nat, (l.map Oper.dst)[j]? = some (some t) ∧ vals[j]? = some (some v) := by
  obtain ⟨j, hj⟩ := List.mem_iff_getElem?.1 h
  unfold slotsR at hj
  rw [List.getElem?_zip_eq_some] at hj
  exact ⟨j, hj.1, hj.2⟩
theorem step_app {Q : Exit → Act → World → Prop} (w : World) {ops : Array Oper} {o : Oper} {a : Act} {K : Act → World → Prop} {E : Prop} (hgd : o.guard = none) (s x : Operand) (t e : TypeId)
    (ho : o.op = .call { callee := .builtin .append, args := #[s, x], argTypes := #[t, t] })
    (i0 : TypeInfo) (z : Value) (bytes : Nat) (ht : P.underlying t = some (.slice e)) (hi : P.info? e = some i0) (hz0 : i0.zero = some z) (hz1 : i0.size = size) (hz2 : i0.bytes = bytes) (hzs : z.cells.size = size) (hpos : 0 < size) (hcl : ∀ x, (cells x).length = size) (hone : ∀ x, ∀ u ∈ cells x, u.oneCell' = true)
    (base : Nat) (v : Value) (n : Nat) (xs : List Value) (hs : a.eval s = v) (hown : w.ownsRow base e size v n xs)
    (B : Nat) (A : Option Addr) (c : Nat) (l : List α) (k : Nat) (hk : l.length = k) (hx : a.eval x = .slice A k c) (hl : Lies size cells w B A l) (h63 : n + k ≤ maxLen) (hn : (n + k) * bytes ≤ 140737488355328) (hbase : base ≤ w.heap.size)
    (h : ∀ v' w', w'.ownsRow base e size v' (n + k) (xs ++ l.flatMap cells) → Below base w w' → w.grownBy w' v.ownBlock → K (a.put o.dst v') w') :
    if Region.wanted o (yielded ops a.tmps) = true then Oper.wp P o a w K Q else E := by
  subst hk
  obtain ⟨v', w', hrun, ho', hb, hg⟩ : ∃ v' w', (Builtin.append_ #[t, t] o.type #[v, .slice A l.length c]).run P w = .ok v' w' ∧ w'.ownsRow base e size v' (n + l.length) (xs ++ l.flatMap cells) ∧ Below base w w' ∧ w.grownBy w' v.ownBlock := by
    cases A with
    | none =>
      have h0 : l = [] := by
        cases l with
        | nil => rfl
        | cons x l => obtain ⟨_, _, e, _⟩ := hl (by simp); cases e
      subst h0
      exact ⟨v, w, run_append_none w base _ _ _ i0 size ht hi v n xs hown c, by simpa using hown, Below.refl _ _, ⟨rfl, rfl, rfl, Nat.le_refl _, fun _ _ _ => rfl⟩⟩
    | some ad =>
      have hnews : ∀ j u, (l.flatMap cells)[j]? = some u → w.cell? (ad.add j) = some u := by
        intro j u hu
        obtain ⟨i, r, y, rfl, hi, hr⟩ := flat_back hpos hcl l j u hu
        have hp : 0 < l.length := by have := (List.getElem?_eq_some_iff.1 hi).1; omega
        obtain ⟨b, o, e, _, hc⟩ := hl hp
        obtain rfl : ad = ⟨b, o, none⟩ := by injection e
        have ea : (⟨b, o, none⟩ : Addr).add (i * size + r) = ⟨b, o + i * size + r, none⟩ := by unfold Addr.add; split <;> simp_all <;> omega
        rw [ea]
        exact hc i y hi r u hr
      obtain ⟨v', w', hr, h2, h3, _, _⟩ := run_append_own_at (P := P) w base t o.type e i0 _ size bytes ht hi hz0 hz1 hz2 hzs hpos v n xs hown ad l.length c (l.flatMap cells) (flat_size hcl l) hnews
        (fun u hu => by obtain ⟨y, _, hy⟩ := List.mem_flatMap.1 hu; exact hone y u hy) h63 hn hbase
      exact ⟨v', w', hr, h2, (Below.refl base w).grown h3 hbase (fun k hk => (hown.lt k hk).1), h3⟩
  refine step_value (v := v') (w' := w') hgd ?_ (h v' w' ho' hb hg)
  unfold execOp
  simp only [ho, resolve, invoke, builtin, Sem.run_bind, Sem.run_pure, Result.andThen_ok, List.map_toArray, List.map_cons, List.map_nil, hs, hx, hrun]
set_option maxRecDepth 100000 in
set_option maxHeartbeats 3200000 in
/-- **the three appends**, in whatever order: the new row lies in memory of its own -/
theorem wp_ins {id : Nat} {Q : Exit → Act → World → Prop} {a : Act} {V : World} (hm : P.follows .mixedOrders = true) {T TI T5 e : TypeId} {d0 d1 d2 d3 d4 d5 d6 d7 d8 d9 d10 d11 so sa : Tmp} {op5 : Op} {p0 p1 p2 p3 p4 p5 p6 p7 p8 p9 p10 p11 p12 : String}
    (hd : [d0, d1, d2, d3, d4, d5, d6, d7, d8, d9, d10, d11, so].Nodup) (hda : sa ∉ [d0, d1, d2, d3, d4, d5, d6, d7, d8, d9, d10, d11, so]) (nt : Nat) (hnt : a.tmps.size = nt) (hsz : ∀ d ∈ [d0, d1, d2, d3, d4, d5, d6, d7, d8, d9, d10, d11, so], d < nt)
    (i0 : TypeInfo) (z : Value) (bytes : Nat) (ht : P.underlying T = some (.slice e)) (hi : P.info? e = some i0) (hz0 : i0.zero = some z) (hz1 : i0.size = size) (hz2 : i0.bytes = bytes) (hzs : z.cells.size = size) (hpos : 0 < size) (hcl : ∀ x, (cells x).length = size) (hone : ∀ x, ∀ u ∈ cells x, u.oneCell' = true)
    (l : List α) (x : α) (i : Nat) (A : Option Addr) (c n : Nat) (hln : l.length = n) (hil : i ≤ n) (hnc : n ≤ c) (hbig : n + 1 ≤ maxLen) (hby : (n + 1) * bytes ≤ 140737488355328)
    (ho : a.eval (.tmp so) = .slice A n c) (hat : a.eval (.tmp sa) = .int .i64 (i : Int)) (hl : Lies size cells V V.heap.size A l)
    (X : Value) (h5 : ∀ (a' : Act) (w' : World) (t5 : TypeId), (∀ t, t ∉ [d0, d1, d2, d3, d4, d5, d6, d7, d8, d9, d10, d11, so] → a'.eval (.tmp t) = a.eval (.tmp t)) → Below V.heap.size V w' → (execOp a'.eval { dst := some d5, op := op5, type := T5, pos := p5, after := #[], guard := none }).run P w' = .ok (.value X) w')
    (hb0 : ∀ w' : World, (Instr.buildSlice T 0 #[]).run P w' = .ok (.slice (some ⟨w'.heap.size, 0, none⟩) 0 0) (w'.alloc (.cells #[] e)))
    (hb1 : ∀ w' : World, (Instr.buildSlice T 1 #[(0, X)]).run P w' = .ok (.slice (some ⟨w'.heap.size, 0, none⟩) 1 1) (w'.alloc (.cells (cells x).toArray e)))
    (hend : ∀ (v0 v1 v2 v3 v4 v5 v6 v7 v8 v9 v10 v11 : Value) (w' : World), Below V.heap.size V w' → w'.ownsRow V.heap.size e size v11 (n + 1) ((l.take i ++ x :: l.drop i).flatMap cells) →
      Q .normal (((((((((((((a.put (some d0) v0).put (some d1) v1).put (some d2) v2).put (some d3) v3).put (some d4) v4).put (some d5) v5).put (some d6) v6).put (some d7) v7).put (some d8) v8).put (some d9) v9).put (some d10) v10).put (some d11) v11).put (some so) v11) w') :
    (Code.region id (insOps T TI T5 d0 d1 d2 d3 d4 d5 d6 d7 d8 d9 d10 d11 so sa op5 p0 p1 p2 p3 p4 p5 p6 p7 p8 p9 p10 p11 p12).toArray true).wp P Q a V := by
  subst hln hnt
  have hdst : (insOps T TI T5 d0 d1 d2 d3 d4 d5 d6 d7 d8 d9 d10 d11 so sa op5 p0 p1 p2 p3 p4 p5 p6 p7 p8 p9 p10 p11 p12).map Oper.dst = [d0, d1, d2, d3, d4, d5, d6, d7, d8, d9, d10, d11, so].map some := rfl
  have hdn : ((insOps T TI T5 d0 d1 d2 d3 d4 d5 d6 d7 d8 d9 d10 d11 so sa op5 p0 p1 p2 p3 p4 p5 p6 p7 p8 p9 p10 p11 p12).map Oper.dst).Nodup := by
    rw [hdst]
    exact List.Pairwise.map some (fun a b h e => h (Option.some.inj e)) hd
  obtain ⟨L, hL⟩ : ∃ L, insOps T TI T5 d0 d1 d2 d3 d4 d5 d6 d7 d8 d9 d10 d11 so sa op5 p0 p1 p2 p3 p4 p5 p6 p7 p8 p9 p10 p11 p12 = L := ⟨_, rfl⟩
  obtain ⟨S1, hS1⟩ : ∃ S1, sliced A 0 i c size = S1 := ⟨_, rfl⟩
  obtain ⟨S2, hS2⟩ : ∃ S2, sliced A i l.length c size = S2 := ⟨_, rfl⟩
  have hL1 : ∃ A1, S1 = .slice A1 i c ∧ Lies size cells V V.heap.size A1 (l.take i) := by
    refine ⟨_, hS1.symm, fun hp => ?_⟩
    rw [List.length_take] at hp
    obtain ⟨b, o, rfl, hB, hc⟩ := hl (by omega)
    refine ⟨b, o, ?_, hB, fun k y hk => hc k y ?_⟩
    · rw [if_neg (by omega)]
      simp [Addr.add]
    · rw [List.getElem?_take] at hk
      split at hk
      · exact hk
      · cases hk
  have hL2 : ∃ A2, S2 = .slice A2 (l.length - i) (c - i) ∧ Lies size cells V V.heap.size A2 (l.drop i) := by
    refine ⟨_, hS2.symm, fun hp => ?_⟩
    rw [List.length_drop] at hp
    obtain ⟨b, o, rfl, hB, hc⟩ := hl (by omega)
    refine ⟨b, o + i * size, ?_, hB, fun k y hk j u hu => ?_⟩
    · rw [if_neg (by omega)]
      unfold Addr.add
      simp only [Option.map_some, Option.some.injEq]
      split <;> simp_all
    · rw [List.getElem?_drop] at hk
      have := hc (i + k) y hk j u hu
      rw [Nat.add_mul] at this
      rw [← this]
      congr 2
      omega
  have hte : P.underlying T = some (.slice (P.elem T)) := by rw [ht]; simp [Program.elem, ht]
  have hel : P.elem T = e := by simp [Program.elem, ht]
  have hsof : ∀ w' : World, (sizeOf (P.elem T)).run P w' = .ok size w' := fun w' => by rw [hel]; simp [sizeOf, typeInfo, hi, hz1]
  refine wp_region_steps hm (by kernel_rfl) (by rw [show List.filterMap _root_.id ((insOps T TI T5 d0 d1 d2 d3 d4 d5 d6 d7 d8 d9 d10 d11 so sa op5 p0 p1 p2 p3 p4 p5 p6 p7 p8 p9 p10 p11 p12).map Oper.dst) = [d0, d1, d2, d3, d4, d5, d6, d7, d8, d9, d10, d11, so] from rfl]; exact hd)
    (fun vals w' => ∃ x0 x1 x2 x3 x4 x5 x6 x7 x8 x9 x10 x11 x12 : Option Value, vals = [x0, x1, x2, x3, x4, x5, x6, x7, x8, x9, x10, x11, x12] ∧ InsG V e size cells l x i (.slice A l.length c) (.int .i64 (i : Int)) S1 S2 X x0 x1 x2 x3 x4 x5 x6 x7 x8 x9 x10 x11 x12 w') ?h0 ?hs ?he
  case h0 => exact ⟨none, none, none, none, none, none, none, none, none, none, none, none, none, rfl, ⟨(Below.refl _ _).drew, (fun _ hv => by cases hv), (fun _ hv => by cases hv), (fun _ hv => by cases hv), (fun _ hv => by cases hv), (fun _ hv => by cases hv), (fun _ hv => by cases hv), (fun _ hv => by cases hv), (fun _ hv _ => by cases hv), (fun _ hv _ => by cases hv), (fun _ hv _ => by cases hv), (fun _ hv _ => by cases hv), (fun _ hv => by cases hv), (fun _ hv => by cases hv)⟩⟩
  case he =>
    rintro vs w' hvs ⟨x0, x1, x2, x3, x4, x5, x6, x7, x8, x9, x10, x11, x12, hx, h⟩
    match vs, hvs, hx with
    | [v0, v1, v2, v3, v4, v5, v6, v7, v8, v9, v10, v11, v12], _, hx =>
      simp only [List.map_cons, List.map_nil, List.cons.injEq, and_true] at hx
      obtain ⟨rfl, rfl, rfl, rfl, rfl, rfl, rfl, rfl, rfl, rfl, rfl, rfl, rfl⟩ := hx
      obtain rfl : v11 = v12 := Option.some.inj (h.a12 _ rfl)
      exact hend v0 v1 v2 v3 v4 v5 v6 v7 v8 v9 v10 v11 w' h.below (h.r11 _ rfl)
  case hs =>
    rintro j o vals w' hoj hc hn hdep ⟨x0, x1, x2, x3, x4, x5, x6, x7, x8, x9, x10, x11, x12, rfl, h⟩ K hK
    have hE : ∀ (k : Nat) (t : Tmp) (v : Value), ([d0, d1, d2, d3, d4, d5, d6, d7, d8, d9, d10, d11, so])[k]? = some t → ([x0, x1, x2, x3, x4, x5, x6, x7, x8, x9, x10, x11, x12])[k]? = some (some v) → (putsR (slotsR (insOps T TI T5 d0 d1 d2 d3 d4 d5 d6 d7 d8 d9 d10 d11 so sa op5 p0 p1 p2 p3 p4 p5 p6 p7 p8 p9 p10 p11 p12) [x0, x1, x2, x3, x4, x5, x6, x7, x8, x9, x10, x11, x12]) a).eval (.tmp t) = v := fun k t v hk hv => by
      refine putsR_hit _ a k t v (by rw [slotsR_fst rfl]; exact apartR_of (by rw [show List.filterMap _root_.id ((insOps T TI T5 d0 d1 d2 d3 d4 d5 d6 d7 d8 d9 d10 d11 so sa op5 p0 p1 p2 p3 p4 p5 p6 p7 p8 p9 p10 p11 p12).map Oper.dst) = [d0, d1, d2, d3, d4, d5, d6, d7, d8, d9, d10, d11, so] from rfl]; exact hd)) ?_ (hsz t (List.mem_of_getElem? hk))
      unfold slotsR
      rw [List.getElem?_zip_eq_some, hdst, List.getElem?_map, hk]
      exact ⟨rfl, hv⟩
    have hM : ∀ t : Tmp, (∀ (k : Nat) (v : Value), ([d0, d1, d2, d3, d4, d5, d6, d7, d8, d9, d10, d11, so])[k]? = some t → ([x0, x1, x2, x3, x4, x5, x6, x7, x8, x9, x10, x11, x12])[k]? ≠ some (some v)) → (putsR (slotsR (insOps T TI T5 d0 d1 d2 d3 d4 d5 d6 d7 d8 d9 d10 d11 so sa op5 p0 p1 p2 p3 p4 p5 p6 p7 p8 p9 p10 p11 p12) [x0, x1, x2, x3, x4, x5, x6, x7, x8, x9, x10, x11, x12]) a).eval (.tmp t) = a.eval (.tmp t) := fun t ht => by
      refine putsR_miss _ a t fun v hm => ?_
      obtain ⟨k, h1, h2⟩ := slots_mem hm
      rw [hdst, List.getElem?_map] at h1
      obtain ⟨t', ht', e⟩ := Option.map_eq_some_iff.1 h1
      cases e
      exact ht k v ht' h2
    have hother : ∀ t, t ∉ [d0, d1, d2, d3, d4, d5, d6, d7, d8, d9, d10, d11, so] → (putsR (slotsR (insOps T TI T5 d0 d1 d2 d3 d4 d5 d6 d7 d8 d9 d10 d11 so sa op5 p0 p1 p2 p3 p4 p5 p6 p7 p8 p9 p10 p11 p12) [x0, x1, x2, x3, x4, x5, x6, x7, x8, x9, x10, x11, x12]) a).eval (.tmp t) = a.eval (.tmp t) := fun t ht => hM t fun k v hk => absurd (List.mem_of_getElem? hk) ht
    have hI : (putsR (slotsR (insOps T TI T5 d0 d1 d2 d3 d4 d5 d6 d7 d8 d9 d10 d11 so sa op5 p0 p1 p2 p3 p4 p5 p6 p7 p8 p9 p10 p11 p12) [x0, x1, x2, x3, x4, x5, x6, x7, x8, x9, x10, x11, x12]) a).eval (.tmp sa) = .int .i64 (i : Int) := (hother sa hda).trans hat
    have hO : x12 = none → (putsR (slotsR (insOps T TI T5 d0 d1 d2 d3 d4 d5 d6 d7 d8 d9 d10 d11 so sa op5 p0 p1 p2 p3 p4 p5 p6 p7 p8 p9 p10 p11 p12) [x0, x1, x2, x3, x4, x5, x6, x7, x8, x9, x10, x11, x12]) a).eval (.tmp so) = .slice A l.length c := fun h12 => (hM so fun k v hk hv => by
      have : k = 12 := nodup_at hd hk rfl
      subst this
      rw [h12] at hv
      cases hv).trans ho
    have cl : ∀ (p q : Nat) (oo : Oper) (gr : Ground) (v : Value), (insOps T TI T5 d0 d1 d2 d3 d4 d5 d6 d7 d8 d9 d10 d11 so sa op5 p0 p1 p2 p3 p4 p5 p6 p7 p8 p9 p10 p11 p12)[p]? = some oo → ({ on := q, ground := gr } : Edge) ∈ oo.after → Region.binds .any { on := q, ground := gr } = true → ([x0, x1, x2, x3, x4, x5, x6, x7, x8, x9, x10, x11, x12])[p]? = some (some v) → ∃ u, ([x0, x1, x2, x3, x4, x5, x6, x7, x8, x9, x10, x11, x12])[q]? = some (some u) := fun p q oo gr v h1 h2 h3 h4 => hc.closed p oo v h1 h4 _ h2 h3
    have c4a : ∀ v, x4 = some v → ∃ u, x0 = some u := fun v hv => by obtain ⟨u, hu⟩ := cl 4 0 _ .data v rfl (by simp) rfl (by rw [hv]; rfl); exact ⟨u, Option.some.inj hu⟩
    have c4b : ∀ v, x4 = some v → ∃ u, x3 = some u := fun v hv => by obtain ⟨u, hu⟩ := cl 4 3 _ .data v rfl (by simp) rfl (by rw [hv]; rfl); exact ⟨u, Option.some.inj hu⟩
    have c7a : ∀ v, x7 = some v → ∃ u, x4 = some u := fun v hv => by obtain ⟨u, hu⟩ := cl 7 4 _ .data v rfl (by simp) rfl (by rw [hv]; rfl); exact ⟨u, Option.some.inj hu⟩
    have c7b : ∀ v, x7 = some v → ∃ u, x6 = some u := fun v hv => by obtain ⟨u, hu⟩ := cl 7 6 _ .data v rfl (by simp) rfl (by rw [hv]; rfl); exact ⟨u, Option.some.inj hu⟩
    have c11a : ∀ v, x11 = some v → ∃ u, x7 = some u := fun v hv => by obtain ⟨u, hu⟩ := cl 11 7 _ .data v rfl (by simp) rfl (by rw [hv]; rfl); exact ⟨u, Option.some.inj hu⟩
    have c12a : ∀ v, x12 = some v → ∃ u, x11 = some u := fun v hv => by obtain ⟨u, hu⟩ := cl 12 11 _ .data v rfl (by simp) rfl (by rw [hv]; rfl); exact ⟨u, Option.some.inj hu⟩
    have c12b : ∀ v, x12 = some v → ∃ u, x1 = some u := fun v hv => by obtain ⟨u, hu⟩ := cl 12 1 _ .phase v rfl (by simp) rfl (by rw [hv]; rfl); exact ⟨u, Option.some.inj hu⟩
    have c12c : ∀ v, x12 = some v → ∃ u, x8 = some u := fun v hv => by obtain ⟨u, hu⟩ := cl 12 8 _ .phase v rfl (by simp) rfl (by rw [hv]; rfl); exact ⟨u, Option.some.inj hu⟩
    have none_of : ∀ {p q : Option Value}, (∀ v, p = some v → ∃ u, q = some u) → q = none → p = none := fun {p q} hpq hq => by
      cases hp : p with
      | none => rfl
      | some v => obtain ⟨u, hu⟩ := hpq v hp; rw [hq] at hu; cases hu
    have dd : ∀ (q : Nat) (gr : Ground) (oo : Oper), o = oo → ({ on := q, ground := gr } : Edge) ∈ oo.after → Region.binds .any { on := q, ground := gr } = true → ∃ u, ([x0, x1, x2, x3, x4, x5, x6, x7, x8, x9, x10, x11, x12])[q]? = some (some u) := fun q gr oo h1 h2 h3 => hdep _ (h1 ▸ h2) h3
    have hv : ∀ (k : Nat) (t : Tmp) (v : Value), ([d0, d1, d2, d3, d4, d5, d6, d7, d8, d9, d10, d11, so])[k]? = some t → ([x0, x1, x2, x3, x4, x5, x6, x7, x8, x9, x10, x11, x12])[k]? = some (some v) → (putsR (slotsR (insOps T TI T5 d0 d1 d2 d3 d4 d5 d6 d7 d8 d9 d10 d11 so sa op5 p0 p1 p2 p3 p4 p5 p6 p7 p8 p9 p10 p11 p12) [x0, x1, x2, x3, x4, x5, x6, x7, x8, x9, x10, x11, x12]) a).eval (.tmp t) = v := hE
    have hjl : j < 13 := by have := (List.getElem?_eq_some_iff.1 hoj).1; exact this
    have hVw := h.below.size
    generalize putsR (slotsR (insOps T TI T5 d0 d1 d2 d3 d4 d5 d6 d7 d8 d9 d10 d11 so sa op5 p0 p1 p2 p3 p4 p5 p6 p7 p8 p9 p10 p11 p12) [x0, x1, x2, x3, x4, x5, x6, x7, x8, x9, x10, x11, x12]) a = a' at *
    clear cl hE hM hc
    obtain rfl | rfl | rfl | rfl | rfl | rfl | rfl | rfl | rfl | rfl | rfl | rfl | rfl : j = 0 ∨ j = 1 ∨ j = 2 ∨ j = 3 ∨ j = 4 ∨ j = 5 ∨ j = 6 ∨ j = 7 ∨ j = 8 ∨ j = 9 ∨ j = 10 ∨ j = 11 ∨ j = 12 := by omega
    · have eo := Option.some.inj hoj
      subst eo
      obtain rfl : x0 = none := Option.some.inj hn
      obtain rfl : x4 = none := none_of c4a rfl
      obtain rfl : x7 = none := none_of c7a rfl
      obtain rfl : x11 = none := none_of c11a rfl
      refine step_value (v := .slice (some ⟨w'.heap.size, 0, none⟩) 0 0) (w' := w'.alloc (.cells #[] e)) rfl ?_ (hK _ _ ⟨some (.slice (some ⟨w'.heap.size, 0, none⟩) 0 0), x1, x2, x3, none, x5, x6, none, x8, x9, x10, none, x12, rfl, ⟨h.below.alloc hVw _, h.m1, h.m2, h.s3, h.k5, h.m8, h.m9, h.s10, (fun _ hv _ => by cases hv; exact World.ownsRow_made w' #[] 0 hVw (Nat.zero_le _) (by simp)), (fun _ hv _ => by cases hv), (fun v hv h7 => by obtain ⟨g, e1, e2, e3⟩ := h.b6 v hv h7; exact ⟨g, e1, e2.more _, fun v0 hv0 _ hg => by cases hv0; have := e2.inside; simp only [Value.ownBlock, Option.some.injEq] at hg; omega⟩), (fun _ hv _ => by cases hv), (fun _ hv => by cases hv), h.a12⟩⟩)
      · unfold execOp
        simp only [List.map_toArray, List.map_nil, Sem.run_bind, hb0, Result.andThen_ok, Sem.run_pure]
    · have eo := Option.some.inj hoj
      subst eo
      obtain rfl : x1 = none := Option.some.inj hn
      obtain rfl : x12 = none := none_of c12b rfl
      refine step_value (v := .slice A l.length c) (w' := w') rfl ?_ (hK _ _ ⟨x0, some (.slice A l.length c), x2, x3, x4, x5, x6, x7, x8, x9, x10, x11, none, rfl, ⟨h.below, (fun _ hv => by cases hv; rfl), h.m2, h.s3, h.k5, h.m8, h.m9, h.s10, h.r0, h.r4, h.b6, h.r7, h.r11, h.a12⟩⟩)
      · show Result.ok (Next.value (a'.eval (.tmp so))) w' = _
        rw [hO rfl]
    · have eo := Option.some.inj hoj
      subst eo
      obtain rfl : x2 = none := Option.some.inj hn
      refine step_value (v := .int .i64 (i : Int)) (w' := w') rfl ?_ (hK _ _ ⟨x0, x1, some (.int .i64 (i : Int)), x3, x4, x5, x6, x7, x8, x9, x10, x11, x12, rfl, ⟨h.below, h.m1, (fun _ hv => by cases hv; rfl), h.s3, h.k5, h.m8, h.m9, h.s10, h.r0, h.r4, h.b6, h.r7, h.r11, h.a12⟩⟩)
      · show Result.ok (Next.value (a'.eval (.tmp sa))) w' = _
        rw [hI]
    · have eo := Option.some.inj hoj
      subst eo
      obtain rfl : x3 = none := Option.some.inj hn
      obtain ⟨u1, hu1⟩ := dd 1 .data _ rfl (by simp) rfl
      obtain ⟨u2, hu2⟩ := dd 2 .data _ rfl (by simp) rfl
      have e1 := hv 1 d1 u1 rfl hu1
      have e2 := hv 2 d2 u2 rfl hu2
      rw [h.m1 u1 (Option.some.inj hu1)] at e1
      rw [h.m2 u2 (Option.some.inj hu2)] at e2
      refine step_value (v := S1) (w' := w') rfl ?_ (hK _ _ ⟨x0, x1, x2, some (S1), x4, x5, x6, x7, x8, x9, x10, x11, x12, rfl, ⟨h.below, h.m1, h.m2, (fun _ hv => by cases hv; rfl), h.k5, h.m8, h.m9, h.s10, h.r0, h.r4, h.b6, h.r7, h.r11, h.a12⟩⟩)
      · have r1 : (Instr.sliceAt T (.slice A l.length c) none (some (.int .i64 (i : Int))) none).run P w' = .ok S1 w' := by
          rw [run_sliceAt_slice w' T _ _ _ _ hte, run_slice_h w' T A l.length c hte .i64 (i : Int) (by omega) (by omega), hsof, Result.andThen_ok, Int.toNat_natCast, hS1]
        unfold execOp
        simp only [Option.map_some, Option.map_none, e1, e2, Sem.run_bind, r1, Result.andThen_ok, Sem.run_pure]
    · have eo := Option.some.inj hoj
      obtain rfl : x4 = none := Option.some.inj hn
      obtain rfl : x7 = none := none_of c7a rfl
      obtain rfl : x11 = none := none_of c11a rfl
      obtain ⟨v0, hu0⟩ := dd 0 .data _ eo.symm (by simp) rfl
      obtain ⟨u3, hu3⟩ := dd 3 .data _ eo.symm (by simp) rfl
      have e0 := hv 0 d0 v0 rfl hu0
      have e3 := hv 3 d3 u3 rfl hu3
      obtain rfl : x0 = some v0 := Option.some.inj hu0
      obtain ⟨A1, hA1, hl1⟩ := hL1
      rw [h.s3 u3 (Option.some.inj hu3), hA1] at e3
      subst eo
      refine step_app w' rfl (.tmp d0) (.tmp d3) T e rfl i0 z bytes ht hi hz0 hz1 hz2 hzs hpos hcl hone V.heap.size v0 0 [] e0 (h.r0 v0 rfl rfl) V.heap.size A1 c (l.take i) i (by rw [List.length_take]; omega) e3 (hl1.past h.below (Nat.le_refl _)) (by omega) (by rw [Nat.zero_add]; exact Nat.le_trans (Nat.mul_le_mul_right _ (by omega)) hby) hVw ?_
      intro v' w'' ho' hb' hg'
      rw [Nat.zero_add, List.nil_append] at ho'
      exact hK _ _ ⟨some v0, x1, x2, x3, some v', x5, x6, none, x8, x9, x10, none, x12, rfl, ⟨h.below.trans hb', h.m1, h.m2, h.s3, h.k5, h.m8, h.m9, h.s10, (fun _ _ h4 => by cases h4), (fun _ hv _ => by cases hv; exact ho'), (fun v hv h7 => by obtain ⟨g, e1, e2, e4⟩ := h.b6 v hv h7; exact ⟨g, e1, (hg'.block g e2.inside (fun hh => e4 v0 rfl rfl hh.symm)).trans e2, fun _ _ h4 => by cases h4⟩), (fun _ hv _ => by cases hv), (fun _ hv => by cases hv), h.a12⟩⟩
    · have eo := Option.some.inj hoj
      subst eo
      obtain rfl : x5 = none := Option.some.inj hn
      refine step_value (v := X) (w' := w') rfl ?_ (hK _ _ ⟨x0, x1, x2, x3, x4, some (X), x6, x7, x8, x9, x10, x11, x12, rfl, ⟨h.below, h.m1, h.m2, h.s3, (fun _ hv => by cases hv; rfl), h.m8, h.m9, h.s10, h.r0, h.r4, h.b6, h.r7, h.r11, h.a12⟩⟩)
      · exact h5 a' w' T5 hother h.below
    · have eo := Option.some.inj hoj
      obtain rfl : x6 = none := Option.some.inj hn
      obtain rfl : x7 = none := none_of c7b rfl
      obtain rfl : x11 = none := none_of c11a rfl
      obtain ⟨u5, hu5⟩ := dd 5 .data _ eo.symm (by simp) rfl
      have e5 := hv 5 d5 u5 rfl hu5
      rw [h.k5 u5 (Option.some.inj hu5)] at e5
      subst eo
      have hal : Below w'.heap.size w' (w'.alloc (.cells (cells x).toArray e)) := (Below.refl _ _).alloc (Nat.le_refl _) _
      refine step_value (v := .slice (some ⟨w'.heap.size, 0, none⟩) 1 1) (w' := w'.alloc (.cells (cells x).toArray e)) rfl ?_ (hK _ _ ⟨x0, x1, x2, x3, x4, x5, some (.slice (some ⟨w'.heap.size, 0, none⟩) 1 1), none, x8, x9, x10, none, x12, rfl, ⟨h.below.alloc hVw _, h.m1, h.m2, h.s3, h.k5, h.m8, h.m9, h.s10, (fun v hv h4 => own_below (h.r0 v hv h4) hal), (fun v hv h7 => own_below (h.r4 v hv h7) hal), (fun v hv h7 => by cases hv; exact ⟨_, rfl, Own.made w' e (cells x), fun v0 hv0 h4 hg => by have := ((h.r0 v0 hv0 h4).lt _ hg).2; omega⟩), (fun _ hv _ => by cases hv), (fun _ hv => by cases hv), h.a12⟩⟩)
      · unfold execOp
        simp only [List.map_toArray, List.map_cons, List.map_nil, e5, Sem.run_bind, hb1, Result.andThen_ok, Sem.run_pure]
    · have eo := Option.some.inj hoj
      obtain rfl : x7 = none := Option.some.inj hn
      obtain rfl : x11 = none := none_of c11a rfl
      obtain ⟨v4, hu4⟩ := dd 4 .data _ eo.symm (by simp) rfl
      obtain ⟨v6, hu6⟩ := dd 6 .data _ eo.symm (by simp) rfl
      have e4 := hv 4 d4 v4 rfl hu4
      have e6 := hv 6 d6 v6 rfl hu6
      obtain rfl : x4 = some v4 := Option.some.inj hu4
      obtain rfl : x6 = some v6 := Option.some.inj hu6
      obtain ⟨g, rfl, hog, _⟩ := h.b6 v6 rfl rfl
      subst eo
      have hlx : Lies size cells w' (g + 1) (some ⟨g, 0, none⟩) [x] := fun _ => by
        refine ⟨g, 0, rfl, by omega, fun k y hk j u hu => ?_⟩
        match k, hk with
        | 0, hk =>
          obtain rfl : x = y := by simpa using hk
          rw [show (0 : Nat) + 0 * size + j = j by omega, hog.at_ j]
          exact hu
      refine step_app w' rfl (.tmp d4) (.tmp d6) T e rfl i0 z bytes ht hi hz0 hz1 hz2 hzs hpos hcl hone V.heap.size v4 i _ e4 (h.r4 v4 rfl rfl) (g + 1) (some ⟨g, 0, none⟩) 1 [x] 1 rfl e6 hlx (by omega) (Nat.le_trans (Nat.mul_le_mul_right _ (by omega)) hby) hVw ?_
      intro v' w'' ho' hb' hg'
      rw [← List.flatMap_append] at ho'
      exact hK _ _ ⟨x0, x1, x2, x3, some v4, x5, some (.slice (some ⟨g, 0, none⟩) 1 1), some v', x8, x9, x10, none, x12, rfl, ⟨h.below.trans hb', h.m1, h.m2, h.s3, h.k5, h.m8, h.m9, h.s10, (fun _ _ h4 => by cases h4), (fun _ _ h7 => by cases h7), (fun _ _ h7 => by cases h7), (fun _ hv _ => by cases hv; exact ho'), (fun _ hv => by cases hv), h.a12⟩⟩
    · have eo := Option.some.inj hoj
      subst eo
      obtain rfl : x8 = none := Option.some.inj hn
      obtain rfl : x12 = none := none_of c12c rfl
      refine step_value (v := .slice A l.length c) (w' := w') rfl ?_ (hK _ _ ⟨x0, x1, x2, x3, x4, x5, x6, x7, some (.slice A l.length c), x9, x10, x11, none, rfl, ⟨h.below, h.m1, h.m2, h.s3, h.k5, (fun _ hv => by cases hv; rfl), h.m9, h.s10, h.r0, h.r4, h.b6, h.r7, h.r11, h.a12⟩⟩)
      · show Result.ok (Next.value (a'.eval (.tmp so))) w' = _
        rw [hO rfl]
    · have eo := Option.some.inj hoj
      subst eo
      obtain rfl : x9 = none := Option.some.inj hn
      refine step_value (v := .int .i64 (i : Int)) (w' := w') rfl ?_ (hK _ _ ⟨x0, x1, x2, x3, x4, x5, x6, x7, x8, some (.int .i64 (i : Int)), x10, x11, x12, rfl, ⟨h.below, h.m1, h.m2, h.s3, h.k5, h.m8, (fun _ hv => by cases hv; rfl), h.s10, h.r0, h.r4, h.b6, h.r7, h.r11, h.a12⟩⟩)
      · show Result.ok (Next.value (a'.eval (.tmp sa))) w' = _
        rw [hI]
    · have eo := Option.some.inj hoj
      subst eo
      obtain rfl : x10 = none := Option.some.inj hn
      obtain ⟨u8, hu8⟩ := dd 8 .data _ rfl (by simp) rfl
      obtain ⟨u9, hu9⟩ := dd 9 .data _ rfl (by simp) rfl
      have e8 := hv 8 d8 u8 rfl hu8
      have e9 := hv 9 d9 u9 rfl hu9
      rw [h.m8 u8 (Option.some.inj hu8)] at e8
      rw [h.m9 u9 (Option.some.inj hu9)] at e9
      refine step_value (v := S2) (w' := w') rfl ?_ (hK _ _ ⟨x0, x1, x2, x3, x4, x5, x6, x7, x8, x9, some (S2), x11, x12, rfl, ⟨h.below, h.m1, h.m2, h.s3, h.k5, h.m8, h.m9, (fun _ hv => by cases hv; rfl), h.r0, h.r4, h.b6, h.r7, h.r11, h.a12⟩⟩)
      · have r1 : (Instr.sliceAt T (.slice A l.length c) (some (.int .i64 (i : Int))) none none).run P w' = .ok S2 w' := by
          rw [run_sliceAt_slice w' T _ _ _ _ hte, run_slice_l w' T A l.length c hte .i64 (i : Int) (by omega) (by omega), hsof, Result.andThen_ok, Int.toNat_natCast, hS2]
        unfold execOp
        simp only [Option.map_some, Option.map_none, e8, e9, Sem.run_bind, r1, Result.andThen_ok, Sem.run_pure]
    · have eo := Option.some.inj hoj
      obtain rfl : x11 = none := Option.some.inj hn
      obtain rfl : x12 = none := none_of c12a rfl
      obtain ⟨v7, hu7⟩ := dd 7 .data _ eo.symm (by simp) rfl
      obtain ⟨u10, hu10⟩ := dd 10 .data _ eo.symm (by simp) rfl
      have e7 := hv 7 d7 v7 rfl hu7
      have e10 := hv 10 d10 u10 rfl hu10
      obtain rfl : x7 = some v7 := Option.some.inj hu7
      obtain ⟨A2, hA2, hl2⟩ := hL2
      rw [h.s10 u10 (Option.some.inj hu10), hA2] at e10
      subst eo
      refine step_app w' rfl (.tmp d7) (.tmp d10) T e rfl i0 z bytes ht hi hz0 hz1 hz2 hzs hpos hcl hone V.heap.size v7 (i + 1) _ e7 (h.r7 v7 rfl rfl) V.heap.size A2 (c - i) (l.drop i) (l.length - i) (by rw [List.length_drop]) e10 (hl2.past h.below (Nat.le_refl _)) (by omega) (Nat.le_trans (Nat.mul_le_mul_right _ (by omega)) hby) hVw ?_
      intro v' w'' ho' hb' hg'
      rw [← List.flatMap_append, List.append_assoc, show i + 1 + (l.length - i) = l.length + 1 by omega] at ho'
      exact hK _ _ ⟨x0, x1, x2, x3, x4, x5, x6, some v7, x8, x9, x10, some v', none, rfl, ⟨h.below.trans hb', h.m1, h.m2, h.s3, h.k5, h.m8, h.m9, h.s10, (fun v hv h4 => by obtain ⟨u, hu⟩ := c7a v7 rfl; rw [h4] at hu; cases hu), (fun _ _ h7 => by cases h7), (fun _ _ h7 => by cases h7), (fun _ _ h11 => by cases h11), (fun _ hv => by cases hv; exact ho'), (fun _ hv => by cases hv)⟩⟩
    · have eo := Option.some.inj hoj
      obtain rfl : x12 = none := Option.some.inj hn
      obtain ⟨v11, hu11⟩ := dd 11 .data _ eo.symm (by simp) rfl
      have e11 := hv 11 d11 v11 rfl hu11
      obtain rfl : x11 = some v11 := Option.some.inj hu11
      subst eo
      refine step_value (v := v11) (w' := w') rfl ?_ (hK _ _ ⟨x0, x1, x2, x3, x4, x5, x6, x7, x8, x9, x10, some v11, some v11, rfl, ⟨h.below, h.m1, h.m2, h.s3, h.k5, h.m8, h.m9, h.s10, h.r0, h.r4, h.b6, h.r7, h.r11, (fun _ hv => by cases hv; rfl)⟩⟩)
      · show Result.ok (Next.value (a'.eval (.tmp d11))) w' = _
        rw [e11]
end
theorem load_own {P : Program} {w : World} {g : Nat} {t ty : TypeId} {l : List Value} {d : TypeDesc} (h : Own w g t l) (hu : P.underlying ty = some d) (hd : (match d with | .struct _ | .array _ _ => true | _ => false) = true) (hi : (P.info? ty).map (·.size) = some l.length) :
    (Instr.loadAt ty (.pointer (some ⟨g, 0, none⟩))).run P w = .ok (.agg l.toArray) w := by
  simp only [Instr.loadAt, Instr.sureAddr, Sem.run_bind, Sem.run_pure, Result.andThen_ok]
  exact run_loadVar_row w g t ty l.toArray (0, 0) d h hu hd (by simpa using hi)
/-- the new one is read from a variable -/
theorem load_op {P : Program} {a a' : Act} {V w' : World} {g sb : Nat} {tx ty T5 : TypeId} {l : List Value} {d : TypeDesc} {d5 : Tmp} {p5 : String} (hs : a'.eval (.tmp sb) = a.eval (.tmp sb)) (ha : a.eval (.tmp sb) = .pointer (some ⟨g, 0, none⟩)) (h : Own V g tx l) (hb : Below V.heap.size V w')
    (hu : P.underlying ty = some d) (hd : (match d with | .struct _ | .array _ _ => true | _ => false) = true) (hi : (P.info? ty).map (·.size) = some l.length) :
    (execOp a'.eval { dst := some d5, op := .load ty (.tmp sb), type := T5, pos := p5, after := #[], guard := none }).run P w' = .ok (.value (.agg l.toArray)) w' := by
  unfold execOp
  simp only [hs, ha, Sem.run_bind, load_own (h.past hb h.inside) hu hd hi, Result.andThen_ok, Sem.run_pure]
end Go.Proofs.YtllpfngmnccejaaGreat
namespace Go.Proofs.YtllpfngmnccejaaGreat
open Go Go.RowKit

theorem infoWd : (Tryz.prog.info? 138).map (fun i => (i.zero, i.size, i.bytes)) = some (some (.agg #[.int .i64 0, .int .u64 0]), 2, 16) := by kernel_rfl
/-- what lies in the two rows, of the first j updates -/
structure Ref2 (w : World) (base : Nat) (v8 v9 : Value) (P : List (Ln Up)) : Prop where
  outs : w.ownsRow base 48 6 v8 P.length ((P.map Ln.u).flatMap Up.cells)
  sums : w.ownsRow base 138 2 v9 P.length ((P.map Ln.S).flatMap wcells)
  apart : ∀ b, v8.ownBlock = some b → v9.ownBlock ≠ some b
theorem bsU0 (w' : World) : (Instr.buildSlice 22 0 #[]).run Tryz.prog w' = .ok (.slice (some ⟨w'.heap.size, 0, none⟩) 0 0) (w'.alloc (.cells #[] 48)) := by kernel_rfl
theorem bsU1 (u : Up) (w' : World) : (Instr.buildSlice 22 1 #[(0, .agg u.cells.toArray)]).run Tryz.prog w' = .ok (.slice (some ⟨w'.heap.size, 0, none⟩) 1 1) (w'.alloc (.cells u.cells.toArray 48)) := by kernel_rfl
theorem bsW0 (w' : World) : (Instr.buildSlice 136 0 #[]).run Tryz.prog w' = .ok (.slice (some ⟨w'.heap.size, 0, none⟩) 0 0) (w'.alloc (.cells #[] 138)) := by kernel_rfl
theorem bsW1 (w' : World) : (Instr.buildSlice 136 1 #[(0, .agg #[.int .i64 0, .int .u64 0])]).run Tryz.prog w' = .ok (.slice (some ⟨w'.heap.size, 0, none⟩) 1 1) (w'.alloc (.cells (wcells 0).toArray 138)) := by kernel_rfl
theorem bsWz (w' : World) : (Instr.build 138 #[]).run Tryz.prog w' = .ok (.agg #[.int .i64 0, .int .u64 0]) w' := by kernel_rfl
/-- those that are left -/
def evn (P : List (Ln Up)) : List Up := (P.filter fun x => x.S != 0).map fun x => { x.u with d := x.S }
theorem evn_snoc {P : List (Ln Up)} {k : Nat} {x : Ln Up} (h : P[k]? = some x) : evn (P.take (k + 1)) = evn (P.take k) ++ (if x.S = 0 then [] else [{ x.u with d := x.S }]) := by
  unfold evn
  rw [List.take_add_one, h, List.filter_append, List.map_append]
  congr 1
  by_cases h0 : x.S = 0
  · rw [if_pos h0]; simp [h0]
  · rw [if_neg h0]; simp [h0]
theorem evn_p (P : List (Ln Up)) : (evn P).map Up.p = (P.map (pL Up.k)).filter fun x => x.2 != 0 := by
  unfold evn
  rw [List.filter_map, List.map_map]
  rfl
/-- whether an update has no place yet -/
def needsR (P : List (Ln Up)) (i : Nat) (u : Up) : Bool := match P[i]? with | none => true | some y => decide (0 < y.u.k.cmp u.k)
set_option maxRecDepth 100000 in
set_option maxHeartbeats 16000000 in
theorem rcons_new (A : Option Addr) (c : Nat) (L : List (Rw Up)) (w : World) (hl : ULs w w.heap.size A L) (hok : ∀ s ∈ L, ∀ u ∈ s.l, UOk u) (hn : (flatR L).length ≤ 1048576) (hn2 : L.length ≤ 1048576) :
    Calls Tryz.prog 32 #[.slice A L.length c] w (UpsNew (consL (L.map Rw.l)) (consE (L.map Rw.l)) w) := by
  obtain ⟨i0, hi, hz0, hz1, hz2⟩ := info_parts infoUp'
  have HI := Lib.hid (And.intro Tryz.underlying22 (And.intro hi (And.intro hz0 (And.intro hz1 hz2))))
  obtain ⟨j0, hi, hz0, hz1, hz2⟩ := info_parts infoWd
  have HJ0 := Lib.hid (And.intro Tryz.underlying136 (And.intro hi (And.intro hz0 (And.intro hz1 hz2))))
  have HL := Lib.hid (And.intro hl hok)
  clear hl hok hi hz0 hz1 hz2
  go_enter Tryz.func32, Tryz.ntmps32
  go_wp2_with fail
  go_loopw [4, 20] (fun v4 v20 wr => ∃ k : Nat, v20 = .int .i64 (k : Int) ∧ k ≤ L.length ∧ wr.ownsRow w.heap.size 48 6 v4 (flatR (L.take k)).length ((flatR (L.take k)).flatMap Up.cells) ∧ Below w.heap.size w wr ∧ chkLs ((L.map Rw.l).take k) = 0)
    (fun _ v20 _ => L.length - (intOf v20).toNat)
  case atStart => exact ⟨0, rfl, by omega, World.ownsRow_nil _ _ _ _, Below.refl _ _, rfl⟩
  case round =>
    obtain ⟨k, rfl, hk, hown, hbw, hchk⟩ := hrel
    obtain ⟨wo, hwo⟩ : ∃ wo, wo = wr := ⟨_, rfl⟩
    subst hwo
    by_cases hlt : k < L.length
    · have hx : L[k]? = some L[k] := List.getElem?_eq_getElem hlt
      have hxm := List.mem_of_getElem? hx
      generalize L[k] = s at *
      obtain ⟨b, o, rfl, hB, hc0, hups⟩ := HL.out.1.at_ hx
      have hc0 := (hbw.cell (p := ⟨b, o + k, none⟩) hB).trans hc0
      have hxl : (L.map Rw.l)[k]? = some s.l := by rw [List.getElem?_map, hx]; rfl
      have hsn : (flatR (L.take k)).length + s.l.length ≤ 1048576 := by have := flatR_len hx (Nat.le_refl _); omega
      have hcall := Lib.hid (rcheck_any s.A s.c s.l wo ((hups.past hbw (Nat.le_refl _)).wide hbw.size) (by omega) (HL.out.2 s hxm))
      have hnx := chkLs_take hxl hchk
      have hbad := fun h => chkLs_bad hxl hchk h
      have HO := Lib.hid (And.intro hown (And.intro hbw (And.intro hx (And.intro hxm (And.intro hups (And.intro hnx hbad))))))
      have q0 : (0 : Int) ≤ (k : Int) := by omega
      have q1 : (k : Int) < (L.length : Int) := by omega
      have q2 : decide ((k : Int) < (L.length : Int)) = true := decide_eq_true q1
      obtain ⟨K, hK⟩ : ∃ K, chkUs s.l = K := ⟨_, rfl⟩
      obtain ⟨KA, hKA⟩ : ∃ KA, s.A = KA := ⟨_, rfl⟩
      rw [hK, hKA] at hcall
      rw [hKA] at hc0
      have HKA := Lib.hid hKA
      have HK := Lib.hid hK
      clear hown hbw hchk hx hxm hups hxl hnx hbad hK hKA
      go_wp2_with fail
      refine hcall.out.mono ?_
      rintro _ w1 ⟨rfl, b1⟩
      have hb1 := HO.out.2.1.trans (b1.mono HO.out.2.1.size)
      have hL1 := HO.out.2.2.2.2.1.head.past hb1 (Nat.le_refl _)
      rw [HKA.out] at hL1
      have hs1 : w.heap.size ≤ w1.heap.size := hb1.size
      have H1 := Lib.hid (And.intro hb1 (And.intro (own_below HO.out.1 b1) hL1))
      clear b1 hcall hc0 hb1 hL1
      by_cases hK0 : K = 0
      case neg =>
        have t1 : (K != 0) = true := bne_iff_ne.2 hK0
        have hb := HO.out.2.2.2.2.2.2 (by rw [HK.out]; exact hK0)
        have hcl : consL (L.map Rw.l) = [] := by unfold consL; rw [if_neg (by rw [hb, HK.out]; exact hK0)]
        have hce : consE (L.map Rw.l) = K := by unfold consE; rw [if_neg (by rw [hb, HK.out]; exact hK0), hb, HK.out]
        have HR := Lib.hid (And.intro hcl hce)
        clear hK0 hb hcl hce
        go_wp2_with fail
        go_ret2
        exact ⟨none, 0, [], by rw [HR.out.2]; rfl, HR.out.1.symm, ⟨Lies.nil_, fun u hu => (by cases hu)⟩, fun u hu => (by cases hu), H1.out.1, lo_nil _⟩
      subst hK0
      go_wp2_with (at_builtin; refine wpList_append_lies _ rfl (.tmp 29) (.tmp 30) 22 48 rfl i0 _ 80 HI.out.1 HI.out.2.1 HI.out.2.2.1 HI.out.2.2.2.1 HI.out.2.2.2.2 rfl (by decide) ucells_len ucells_one w.heap.size _ _ _ rfl H1.out.2.1 s.c rfl H1.out.2.2 ?m1 ?m2 ?m3 ?m4)
      case m1 => unfold maxLen; omega
      case m2 => omega
      case m3 => exact hs1
      intro v' w' ho' hb'
      have HA := Lib.hid (And.intro ho' (H1.out.1.trans hb'))
      clear ho' hb'
      go_wp2_with fail
      go_roundw
      case rel =>
        refine ⟨k + 1, by go_num, by omega, ?_, HA.out.2, by rw [HO.out.2.2.2.2.2.1, HK.out]⟩
        rw [flatR_take HO.out.2.2.1, List.length_append, List.flatMap_append]
        exact HA.out.1
      case measure => simp [intOf]; omega
    · have hk2 : k = L.length := by omega
      subst hk2
      have q2 : decide ((L.length : Int) < (L.length : Int)) = false := decide_eq_false (by omega)
      rw [List.take_length] at hown
      rw [List.take_of_length_le (by rw [List.length_map]; exact Nat.le_refl _)] at hchk
      obtain ⟨all, hall⟩ : ∃ all, flatR L = all := ⟨_, rfl⟩
      rw [hall] at hown hn
      obtain ⟨A4, c4, rfl, _, _, h4⟩ := lies_of_own (size := 6) (cells := Up.cells) (by decide) ucells_len rfl hown
      have hgood : ∀ u ∈ all, chkU u = 0 ∧ UOk u ∧ UIn w w.heap.size u := fun u hu => by
        rw [← hall] at hu
        obtain ⟨s, hs, hus⟩ := List.mem_flatMap.1 hu
        exact ⟨chkUs_all.1 (chkLs_all.1 hchk s.l (List.mem_map_of_mem hs)) u hus, HL.out.2 s hs u hus, (HL.out.1.each_ s hs).each_ u hus⟩
      have hu4 : Ups wo wo.heap.size A4 all := ⟨h4, fun u hu => ((hgood u hu).2.2.past hbw (Nat.le_refl _)).wide hbw.size⟩
      have hcl : consL (L.map Rw.l) = resL Uk.cmp (all.map Up.p) := by unfold consL; rw [if_pos hchk, ← flatR_flat, hall]
      have hce : consE (L.map Rw.l) = resE Uk.cmp (all.map Up.p) := by unfold consE; rw [if_pos hchk, ← flatR_flat, hall]
      have HW := Lib.hid (And.intro hu4 (And.intro hbw (And.intro hgood (And.intro hcl hce))))
      clear hown hchk h4 hgood hu4 hbw hcl hce hall
      go_wp2_with fail
      go_loopw [8, 9, 35] (fun v8 v9 v35 wr => ∃ (j : Nat) (P : List (Ln Up)), v35 = .int .i64 (j : Int) ∧ j ≤ all.length ∧ P.length ≤ j ∧ Ref2 wr wo.heap.size v8 v9 P ∧ P.map (pL Up.k) = asm Uk.cmp ((all.take j).map Up.p) ∧ (∀ x ∈ P, x.u ∈ all ∧ -(9223372036854775808 * (j : Int)) ≤ x.S ∧ x.S ≤ 9223372036854775808 * (j : Int)) ∧ Below wo.heap.size wo wr)
        (fun _ _ v35 _ => all.length - (intOf v35).toNat)
      case atStart => exact ⟨0, [], rfl, by omega, by simp, ⟨World.ownsRow_nil _ _ _ _, World.ownsRow_nil _ _ _ _, fun b e => (by cases e)⟩, rfl, fun x hx => (by cases hx), Below.refl _ _⟩
      case round =>
        obtain ⟨j, P, rfl, hj, hPj, hrf, hasm, hin, hbj⟩ := hrel
        obtain ⟨wi, hwi⟩ : ∃ wi, wi = wr := ⟨_, rfl⟩
        subst hwi
        by_cases hjt : j < all.length
        · have hy : all[j]? = some all[j] := List.getElem?_eq_getElem hjt
          have hym := List.mem_of_getElem? hy
          generalize all[j] = u at *
          obtain ⟨g, o, rfl, hB, hys⟩ := lies_up HW.out.1.head (by omega)
          obtain ⟨e0, e1, e2, e3, e4, e5⟩ := ((hys j u hy).past_ hbj hB).six
          obtain ⟨V, hV, hvb, hvs, hvo⟩ := upbox wi u
          have hbV := hbj.trans (hvb.mono hbj.size)
          have hrfV : Ref2 V wo.heap.size u8 u9 P := ⟨own_below hrf.outs hvb, own_below hrf.sums hvb, hrf.apart⟩
          obtain ⟨A8, c8, hv8, hc8, hm8, hl8⟩ := lies_of_own (size := 6) (cells := Up.cells) (l := P.map Ln.u) (by decide) ucells_len (by rw [List.length_map]) hrfV.outs
          obtain ⟨A9, c9, hv9, hc9, hm9, hl9⟩ := lies_of_own (size := 2) (cells := wcells) (l := P.map Ln.S) (by decide) wcells_len (by rw [List.length_map]) hrfV.sums
          rw [List.length_map] at hv8 hc8 hv9 hc9
          subst hv8 hv9
          have HJ := Lib.hid (And.intro hy (And.intro hym (And.intro hasm (And.intro hin (And.intro hbV (And.intro hvo (And.intro hrfV (And.intro hl8 hl9))))))))
          have q3 : (0 : Int) ≤ (j : Int) := by omega
          have q4 : (j : Int) < (all.length : Int) := by omega
          have q5 : decide ((j : Int) < (all.length : Int)) = true := decide_eq_true q4
          clear hy hym hys hvb hvs hrf hasm hin hbj hbV hrfV hl8 hl9 hvo
          go_upto_region 15 with fail
          rw [← hV]
          clear hV e0 e1 e2 e3 e4 e5
          go_upto_block 4 with fail
          go_cut [12] (fun v12 wx => ∃ i : Nat, v12 = .int .i64 (i : Int) ∧ i ≤ P.length ∧ (∀ z ∈ P.take i, z.u.k.cmp u.k < 0) ∧ (∀ y, P[i]? = some y → 0 ≤ y.u.k.cmp u.k) ∧ Below V.heap.size V wx)
          case first =>
            go_wp2_with fail
            go_loopw [12] (fun v12 wx => ∃ i : Nat, v12 = .int .i64 (i : Int) ∧ i ≤ P.length ∧ (∀ z ∈ P.take i, z.u.k.cmp u.k < 0) ∧ Below V.heap.size V wx) (fun v12 _ => P.length - (intOf v12).toNat)
            case atStart => exact ⟨0, rfl, by omega, fun z hz => (by cases hz), Below.refl _ _⟩
            case round =>
              obtain ⟨i, rfl, hi, hlow, hbi⟩ := hrel
              obtain ⟨wx, hwx⟩ : ∃ wx, wx = wr := ⟨_, rfl⟩
              subst hwx
              by_cases hit : i < P.length
              · have hz : P[i]? = some P[i] := List.getElem?_eq_getElem hit
                generalize P[i] = y at *
                have hzm := List.mem_of_getElem? hz
                have hzu : (P.map Ln.u)[i]? = some y.u := by rw [List.getElem?_map, hz]; rfl
                obtain ⟨g8, o8, rfl, hB8, hx8⟩ := lies_up HJ.out.2.2.2.2.2.2.2.1 (by rw [List.length_map]; omega)
                have hyg := HW.out.2.2.1 y.u (HJ.out.2.2.2.1 y hzm).1
                have hug := HW.out.2.2.1 u HJ.out.2.1
                have hbw2 : Below w.heap.size w V := HW.out.2.1.trans (HJ.out.2.2.2.2.1.mono HW.out.2.1.size)
                have hin := fun (z : Up) (hz : UIn w w.heap.size z) (p : Past wx) => ((hz.past hbw2 (Nat.le_refl _)).wide hbw2.size).keep (hbi.trans (p.h.mono hbi.size))
                have u1 : ∀ p : Past wx, Calls Tryz.prog 77 #[.agg #[.slice y.u.kA y.u.key.length y.u.kc, .slice y.u.rA y.u.row.length y.u.rc, .int .u64 (y.u.t.e : Int), .int .u64 (y.u.t.a : Int), .int .u64 (y.u.t.b : Int), .int .i64 y.u.d], .agg #[.slice u.kA u.key.length u.kc, .slice u.rA u.row.length u.rc, .int .u64 (u.t.e : Int), .int .u64 (u.t.a : Int), .int .u64 (u.t.b : Int), .int .i64 u.d]] p.w fun e w'' => e = .returned (.int .i64 (y.u.k.cmp u.k)) ∧ ∃ q : Past wx, w'' = q.w := fun p =>
                  calls_past (rcompare_any y.u u p.w (hin y.u hyg.2.2 p) (hin u hug.2.2 p) hyg.2.1 hug.2.1)
                have u3 := fun p : Past wx => own6 (HJ.out.2.2.2.2.2.1.past (hbi.trans (p.h.mono hbi.size)) HJ.out.2.2.2.2.2.1.inside)
                have u4 := fun p : Past wx => ((hx8 i y.u hzu).past_ (hbi.trans (p.h.mono hbi.size)) hB8).six
                obtain ⟨r, hr⟩ : ∃ r, y.u.k.cmp u.k = r := ⟨_, rfl⟩
                rw [hr] at u1
                have HR := Lib.hid (And.intro hr (And.intro hz (And.intro hlow hbi)))
                have q6 : (0 : Int) ≤ (i : Int) := by omega
                have q7 : (i : Int) < (P.length : Int) := by omega
                have q8 : decide ((i : Int) < (P.length : Int)) = true := decide_eq_true q7
                by_cases hr0 : r < 0
                · have t1 : decide (r < 0) = true := decide_eq_true hr0
                  have HR0 := Lib.hid hr0
                  clear hr0 hr hz hzm hzu hx8 hyg hug hin hlow hbi hbw2
                  go_upto_region 16 with fail
                  refine wp_region_past wx (by kernel_rfl) (by kernel_rfl) (Below.refl _ _) ?_
                  repeat (first | go_big_quiet_step ((go_at_call 77; exact u1 _)) | quiet_step ((go_at_call 77; exact u1 _)))
                  refine wpQuiet_nil ?_
                  intro wz hw'
                  obtain ⟨⟨wy, hbz⟩, hw''⟩ := hw'
                  dsimp only at hw''
                  subst hw''
                  have HZ := Lib.hid (HR.out.2.2.2.trans (hbz.mono HR.out.2.2.2.size))
                  clear u1 u3 u4 hbz t1
                  go_wp2_with fail
                  go_roundw
                  case rel =>
                    refine ⟨i + 1, by go_num, by omega, fun z hz => ?_, HZ.out⟩
                    rw [List.take_add_one, HR.out.2.1] at hz
                    rcases List.mem_append.1 hz with hz | hz
                    · exact HR.out.2.2.1 z hz
                    · obtain rfl : z = y := by simpa using hz
                      rw [HR.out.1]
                      exact HR0.out
                  case measure => simp [intOf]; omega
                · have t1 : decide (r < 0) = false := decide_eq_false hr0
                  have HR0 := Lib.hid hr0
                  clear hr0 hr hz hzm hzu hx8 hyg hug hin hlow hbi hbw2
                  go_upto_region 16 with fail
                  refine wp_region_past wx (by kernel_rfl) (by kernel_rfl) (Below.refl _ _) ?_
                  repeat (first | go_big_quiet_step ((go_at_call 77; exact u1 _)) | quiet_step ((go_at_call 77; exact u1 _)))
                  refine wpQuiet_nil ?_
                  intro wz hw'
                  obtain ⟨⟨wy, hbz⟩, hw''⟩ := hw'
                  dsimp only at hw''
                  subst hw''
                  have HZ := Lib.hid (HR.out.2.2.2.trans (hbz.mono HR.out.2.2.2.size))
                  clear u1 u3 u4 hbz t1
                  go_wp2_with fail
                  go_meet
                  exact ⟨i, rfl, by omega, HR.out.2.2.1, fun z hz => by
                    rw [HR.out.2.1] at hz
                    obtain rfl := Option.some.inj hz
                    rw [HR.out.1]
                    have := HR0.out
                    omega, HZ.out⟩
              · have q8 : decide ((i : Int) < (P.length : Int)) = false := decide_eq_false (by omega)
                have HR := Lib.hid (And.intro hlow hbi)
                clear hlow hbi
                go_upto_region 16 with fail
                go_quiet (fail)
                go_wp2_with fail
                go_meet
                exact ⟨i, rfl, hi, HR.out.1, fun z hz => by
                  have := (List.getElem?_eq_some_iff.1 hz).1
                  omega, below_draws HR.out.2 _⟩
          case rest =>
            obtain ⟨i, rfl, hi, hlow, hup, hbi⟩ := hcut
            obtain ⟨wx, hwx⟩ : ∃ wx, wx = wc := ⟨_, rfl⟩
            subst hwx
            have HX := Lib.hid (And.intro hlow (And.intro hup hbi))
            clear hlow hup hbi
            go_upto_region 18 with fail
            go_cut [66] (fun v66 wz => v66 = .bool (needsR P i u) ∧ Below V.heap.size V wz)
            case first =>
              by_cases hit : i < P.length
              · have hz : P[i]? = some P[i] := List.getElem?_eq_getElem hit
                generalize P[i] = y at *
                have hzm := List.mem_of_getElem? hz
                have hzu : (P.map Ln.u)[i]? = some y.u := by rw [List.getElem?_map, hz]; rfl
                obtain ⟨g8, o8, rfl, hB8, hx8⟩ := lies_up HJ.out.2.2.2.2.2.2.2.1 (by rw [List.length_map]; omega)
                have hyg := HW.out.2.2.1 y.u (HJ.out.2.2.2.1 y hzm).1
                have hug := HW.out.2.2.1 u HJ.out.2.1
                have hbw2 : Below w.heap.size w V := HW.out.2.1.trans (HJ.out.2.2.2.2.1.mono HW.out.2.1.size)
                have hbi := HX.out.2.2
                have hin := fun (z : Up) (hz : UIn w w.heap.size z) (p : Past wx) => ((hz.past hbw2 (Nat.le_refl _)).wide hbw2.size).keep (hbi.trans (p.h.mono hbi.size))
                have u1 : ∀ p : Past wx, Calls Tryz.prog 77 #[.agg #[.slice y.u.kA y.u.key.length y.u.kc, .slice y.u.rA y.u.row.length y.u.rc, .int .u64 (y.u.t.e : Int), .int .u64 (y.u.t.a : Int), .int .u64 (y.u.t.b : Int), .int .i64 y.u.d], .agg #[.slice u.kA u.key.length u.kc, .slice u.rA u.row.length u.rc, .int .u64 (u.t.e : Int), .int .u64 (u.t.a : Int), .int .u64 (u.t.b : Int), .int .i64 u.d]] p.w fun e w'' => e = .returned (.int .i64 (y.u.k.cmp u.k)) ∧ ∃ q : Past wx, w'' = q.w := fun p =>
                  calls_past (rcompare_any y.u u p.w (hin y.u hyg.2.2 p) (hin u hug.2.2 p) hyg.2.1 hug.2.1)
                have u3 := fun p : Past wx => own6 (HJ.out.2.2.2.2.2.1.past (hbi.trans (p.h.mono hbi.size)) HJ.out.2.2.2.2.2.1.inside)
                have u4 := fun p : Past wx => ((hx8 i y.u hzu).past_ (hbi.trans (p.h.mono hbi.size)) hB8).six
                obtain ⟨r, hr⟩ : ∃ r, y.u.k.cmp u.k = r := ⟨_, rfl⟩
                rw [hr] at u1
                have hnd : needsR P i u = decide (0 < r) := by unfold needsR; rw [hz, ← hr]
                have HR := Lib.hid hbi
                have q6 : (0 : Int) ≤ (i : Int) := by omega
                have q7 : (i : Int) < (P.length : Int) := by omega
                have q8 : ((i : Int) == (P.length : Int)) = false := by rw [beq_eq_false_iff_ne]; omega
                have q9 : decide (i = P.length) = false := decide_eq_false (by omega)
                obtain ⟨B, hB'⟩ : ∃ B, decide (0 < r) = B := ⟨_, rfl⟩
                have HN := Lib.hid (hnd.trans hB')
                clear hr hz hzm hzu hx8 hyg hug hin hbi hbw2 hnd
                go_upto_region 18 with fail
                refine wp_region_past wx (by kernel_rfl) (by kernel_rfl) (Below.refl _ _) ?_
                repeat (first | go_big_quiet_step ((go_at_call 77; exact u1 _)) | quiet_step ((go_at_call 77; exact u1 _)))
                refine wpQuiet_nil ?_
                intro wz hw'
                obtain ⟨⟨wy, hbz⟩, hw''⟩ := hw'
                dsimp only at hw''
                subst hw''
                have HZ := Lib.hid (HR.out.trans (hbz.mono HR.out.size))
                clear u1 u3 u4 hbz
                go_wp2_with fail
                go_meet
                exact ⟨by rw [HN.out], HZ.out⟩
              · have q8 : ((i : Int) == (P.length : Int)) = true := by rw [beq_iff_eq]; omega
                have hnd : needsR P i u = true := by unfold needsR; rw [List.getElem?_eq_none (by omega)]
                have HN := Lib.hid hnd
                clear hnd
                go_upto_region 18 with fail
                go_quiet (fail)
                go_wp2_with fail
                go_meet
                exact ⟨by rw [HN.out], below_draws HX.out.2.2 _⟩
            case rest =>
              obtain ⟨rfl, hbz⟩ := hcut
              obtain ⟨wn, hwn⟩ : ∃ wn, wn = wc := ⟨_, rfl⟩
              subst hwn
              have HZ := Lib.hid hbz
              clear hbz
              obtain ⟨nb, hnb⟩ : ∃ nb, needsR P i u = nb := ⟨_, rfl⟩
              rw [hnb]
              have HNB := Lib.hid hnb
              clear hnb
              go_upto_if 66 with fail
              go_cut [8, 9] (fun v8 v9 wz => ∃ (P1 : List (Ln Up)) (y : Ln Up), P1[i]? = some y ∧ Ref2 wz wo.heap.size v8 v9 P1 ∧ (P1.set i ⟨y.S + u.d, y.u⟩).map (pL Up.k) = ins Uk.cmp u.p (P.map (pL Up.k)) ∧ P1.length ≤ P.length + 1 ∧ (∀ x ∈ P1, x ∈ P ∨ x = ⟨0, u⟩) ∧ Below V.heap.size V wz)
              case first =>
                cases nb with
                | false =>
                  go_wp2_with fail
                  go_meet
                  obtain ⟨y, hy, hr⟩ : ∃ y, P[i]? = some y ∧ ¬ 0 < y.u.k.cmp u.k := by
                    have := HNB.out
                    unfold needsR at this
                    cases hp : P[i]? with
                    | none => rw [hp] at this; cases this
                    | some y => rw [hp] at this; exact ⟨y, rfl, of_decide_eq_false this⟩
                  have h0 := HX.out.2.1 y hy
                  exact ⟨P, y, hy, ⟨own_below HJ.out.2.2.2.2.2.2.1.outs HZ.out, own_below HJ.out.2.2.2.2.2.2.1.sums HZ.out, HJ.out.2.2.2.2.2.2.1.apart⟩, ins_same P i u.p y HX.out.1 hy (by show y.u.k.cmp u.k = 0; omega), by omega, fun x hx => .inl hx, HZ.out⟩
                | true =>
                  have Hl8 := Lib.hid ((HJ.out.2.2.2.2.2.2.2.1.past HZ.out (Nat.le_refl _)).wide HZ.out.size)
                  have HU := Lib.hid (HJ.out.2.2.2.2.2.1.past HZ.out HJ.out.2.2.2.2.2.1.inside)
                  go_upto_region 19 with fail
                  refine wp_ins (by kernel_rfl) (by decide) (by decide) 131 rfl (by decide) i0 _ 80 HI.out.1 HI.out.2.1 HI.out.2.2.1 HI.out.2.2.2.1 HI.out.2.2.2.2 rfl (by decide) ucells_len ucells_one (P.map Ln.u) u i A8 c8 P.length (by rw [List.length_map]) hi hc8 (by unfold maxLen; omega) (by omega) rfl rfl Hl8.out (.agg u.cells.toArray) (fun a' w' t5 hot hb => load_op (hot 11 (by decide)) rfl HU.out hb Tryz.underlying48 rfl (by kernel_rfl)) bsU0 (bsU1 u) ?_
                  intro z0 z1 z2 z3 z4 z5 z6 z7 z8 z9 z10 z11 w19 b19 o19
                  simp only [Act.put, List.setIfInBounds_toArray, List.set_cons_zero, List.set_cons_succ]
                  have H19 := Lib.hid (And.intro b19 o19)
                  have Hl9 := Lib.hid ((HJ.out.2.2.2.2.2.2.2.2.past (HZ.out.trans (b19.mono HZ.out.size)) (Nat.le_refl _)).wide (HZ.out.trans (b19.mono HZ.out.size)).size)
                  clear b19 o19
                  go_upto_region 20 with fail
                  refine wp_ins (by kernel_rfl) (by decide) (by decide) 131 rfl (by decide) j0 _ 16 HJ0.out.1 HJ0.out.2.1 HJ0.out.2.2.1 HJ0.out.2.2.2.1 HJ0.out.2.2.2.2 rfl (by decide) wcells_len wcells_one (P.map Ln.S) 0 i A9 c9 P.length (by rw [List.length_map]) hi hc9 (by unfold maxLen; omega) (by omega) rfl rfl Hl9.out (.agg #[.int .i64 0, .int .u64 0]) (fun a' w' t5 hot hb => by unfold execOp; simp only [List.map_toArray, List.map_nil, Sem.run_bind, bsWz, Result.andThen_ok, Sem.run_pure]) bsW0 bsW1 ?_
                  intro y0 y1 y2 y3 y4 y5 y6 y7 y8 y9 y10 y11 w20 b20 o20
                  simp only [Act.put, List.setIfInBounds_toArray, List.set_cons_zero, List.set_cons_succ]
                  have H20 := Lib.hid (And.intro b20 o20)
                  clear b20 o20
                  go_wp2_with fail
                  go_meet
                  have hzs := HZ.out.size
                  have hz1 := H19.out.1.size
                  have hvs : wo.heap.size ≤ V.heap.size := HJ.out.2.2.2.2.1.size
                  have hP1u : (P.map Ln.u).take i ++ u :: (P.map Ln.u).drop i = (P.take i ++ ⟨0, u⟩ :: P.drop i).map Ln.u := by simp [List.map_append, List.map_take, List.map_drop]
                  have hP1S : (P.map Ln.S).take i ++ (0 : Int) :: (P.map Ln.S).drop i = (P.take i ++ ⟨0, u⟩ :: P.drop i).map Ln.S := by simp [List.map_append, List.map_take, List.map_drop]
                  have hP1l : (P.take i ++ (⟨0, u⟩ : Ln Up) :: P.drop i).length = P.length + 1 := by simp; omega
                  refine ⟨P.take i ++ ⟨0, u⟩ :: P.drop i, ⟨0, u⟩, get_new P i hi _, ⟨?_, ?_, ?_⟩, ?_, by omega, ?_, (HZ.out.trans (H19.out.1.mono hzs)).trans (H20.out.1.mono (by omega))⟩
                  · have := World.ownsRow.mono (own_below H19.out.2 H20.out.1) (show wo.heap.size ≤ wn.heap.size by omega)
                    rw [hP1l, ← hP1u]; exact this
                  · have := World.ownsRow.mono H20.out.2 (show wo.heap.size ≤ w19.heap.size by omega)
                    rw [hP1l, ← hP1S]; exact this
                  · intro b h8 h9
                    have := (H19.out.2.lt b h8).2
                    have := (H20.out.2.lt b h9).1
                    omega
                  · rw [set_new P i hi]
                    have h := ins_new (cmp := Uk.cmp) (k := Up.k) P i u (0 + u.d) HX.out.1 (fun y hy => by
                      have := HNB.out
                      unfold needsR at this
                      rw [hy] at this
                      exact of_decide_eq_true this)
                    rw [Int.zero_add] at h ⊢
                    exact h
                  · intro x hx
                    rcases List.mem_append.1 hx with hx | hx
                    · exact .inl (List.mem_of_mem_take hx)
                    · rcases List.mem_cons.1 hx with hx | hx
                      · exact .inr hx
                      · exact .inl (List.mem_of_mem_drop hx)
              case rest =>
                obtain ⟨P1, y, hy1, hrf1, hins, hl1, hm1, hb1⟩ := hcut
                obtain ⟨wm, hwm⟩ : ∃ wm, wm = wc := ⟨_, rfl⟩
                subst hwm
                have hi1 := (List.getElem?_eq_some_iff.1 hy1).1
                obtain ⟨g9, cap9, rfl⟩ : ∃ g9 cap9, u9 = .slice (some ⟨g9, 0, none⟩) P1.length cap9 := by
                  rcases hrf1.sums.2 with ⟨_, h0⟩ | ⟨g, cap, cur, e, _⟩
                  · omega
                  · exact ⟨g, cap, e⟩
                have hg9 := hrf1.sums.lt g9 rfl
                have hyS : -(9223372036854775808 * (j : Int)) ≤ y.S ∧ y.S ≤ 9223372036854775808 * (j : Int) := by
                  rcases hm1 y (List.mem_of_getElem? hy1) with h | h
                  · exact (HJ.out.2.2.2.1 y h).2
                  · subst h; simp only; omega
                have hud := (HW.out.2.2.1 u HJ.out.2.1).2.1
                have z1 := fun W => Lib.hid (plus_any y.S u.d W hud.dn.1 hud.dn.2 (by omega) (by omega))
                have hz0 : (P1.map Ln.S)[i]? = some y.S := by rw [List.getElem?_map, hy1]; rfl
                have hx0 : wm.cell? ⟨g9, i * 2, none⟩ = some (.int .i64 (y.S / 18446744073709551616)) := (hrf1.sums.cellAt (i * 2) (by omega)).trans (flat_of wcells_len (P1.map Ln.S) i 0 y.S _ hz0 rfl)
                have hx1 : wm.cell? ⟨g9, i * 2 + 1, none⟩ = some (.int .u64 (loW y.S)) := (hrf1.sums.cellAt (i * 2 + 1) (by omega)).trans (flat_of wcells_len (P1.map Ln.S) i 1 y.S _ hz0 rfl)
                have hf0 := fun k => hrf1.sums.frozenAt k
                have hvx := HJ.out.2.2.2.2.2.1.past hb1 HJ.out.2.2.2.2.2.1.inside
                obtain ⟨e0, e1, e2, e3, e4, e5⟩ := own6 hvx
                have hself : Below wm.heap.size wm wm.drew := (Below.refl _ _).drew
                have HM := Lib.hid (And.intro hy1 (And.intro hrf1 (And.intro hins (And.intro hl1 (And.intro hm1 (And.intro hb1 (And.intro hyS hud)))))))
                have HF := Lib.hid hf0
                have q6 : (0 : Int) ≤ (i : Int) := by omega
                have q7 : (i : Int) < (P1.length : Int) := by omega
                obtain ⟨y1, hy1'⟩ : ∃ y1, y.S / 18446744073709551616 = y1 := ⟨_, rfl⟩
                obtain ⟨y2, hy2'⟩ : ∃ y2, loW y.S = y2 := ⟨_, rfl⟩
                obtain ⟨s1, hs1'⟩ : ∃ s1, (y.S + u.d) / 18446744073709551616 = s1 := ⟨_, rfl⟩
                obtain ⟨s2, hs2'⟩ : ∃ s2, loW (y.S + u.d) = s2 := ⟨_, rfl⟩
                rw [hy1'] at hx0
                rw [hy2'] at hx1
                rw [hy1', hy2', hs1', hs2'] at z1
                have HS := Lib.hid (And.intro hs1' hs2')
                have hg9' := hg9.2
                clear hy1 hrf1 hins hl1 hm1 hb1 hyS hud hz0 hvx hf0 hy1' hy2' hs1' hs2' hg9 e0 e1 e2 e3 e4
                go_upto_region 21 with fail
                go_region_with (go_at_call 78; refine (z1 _).out.mono ?_; rintro _ w2 ⟨rfl, b2⟩; have b2' := belows hself b2; have c0' := (b2'.cell (p := ⟨g9, i * 2, none⟩) hg9').trans hx0; have c1' := (b2'.cell (p := ⟨g9, i * 2 + 1, none⟩) hg9').trans hx1; have f0 := (b2'.frozen (p := ⟨g9, i * 2, none⟩) hg9').trans (HF.out _); have f1 := (b2'.frozen (p := ⟨g9, i * 2 + 1, none⟩) hg9').trans (HF.out _))
                all_goals (have H2 := Lib.hid b2'; clear c0' c1' f0 f1 b2 b2' hself hx0 hx1 e5; go_wp2_with fail; go_roundw)
                iterate 2
                  case rel =>
                    obtain ⟨hy1, hrf1, hins, hl1, hm1, hb1, hyS, hud⟩ := HM.out
                    obtain ⟨hs1', hs2'⟩ := HS.out
                    have hz0 : (P1.map Ln.S)[i]? = some y.S := by rw [List.getElem?_map, hy1]; rfl
                    have hwo : wo.heap.size ≤ g9 := (hrf1.sums.lt g9 rfl).1
                    have hsm2 := own_below hrf1.sums H2.out
                    have hou2 := own_below hrf1.outs H2.out
                    obtain ⟨k1, k2⟩ := hsm2.stored (i * 2) (.int .i64 s1)
                    obtain ⟨k3, k4⟩ := k1.stored (i * 2 + 1) (.int .u64 s2)
                    have hne : ∀ v : Value, (∀ b, v.ownBlock = some b → (Value.slice (some ⟨g9, 0, none⟩) P1.length cap9).ownBlock ≠ some b) → v.ownBlock = none ∨ v.ownBlock ≠ some g9 := fun v hv => .inr fun e => hv g9 e rfl
                    refine ⟨j + 1, P1.set i ⟨y.S + u.d, y.u⟩, by go_num, by omega, by rw [List.length_set]; omega, ⟨?_, ?_, hrf1.apart⟩, ?_, ?_, ?_⟩
                    · rw [List.length_set, List.map_set]
                      have : (P1.map Ln.u).set i y.u = P1.map Ln.u := set_same (by rw [List.getElem?_map, hy1]; rfl)
                      rw [show Ln.u (⟨y.S + u.d, y.u⟩ : Ln Up) = y.u from rfl, this]
                      exact (hou2.kept k2 (hne _ hrf1.apart)).kept k4 (hne _ hrf1.apart)
                    · rw [List.length_set, List.map_set, ← set_wide hz0]
                      rw [show Ln.S (⟨y.S + u.d, y.u⟩ : Ln Up) = y.S + u.d from rfl, hs1', hs2']
                      exact k3
                    · rw [hins, HJ.out.2.2.1, List.take_add_one, HJ.out.1, Option.toList_some, List.map_append, List.map_cons, List.map_nil, asm_snoc]
                    · intro x hx
                      rcases List.mem_or_eq_of_mem_set hx with hx | hx
                      · rcases hm1 x hx with h | h
                        · have := HJ.out.2.2.2.1 x h
                          exact ⟨this.1, by omega, by omega⟩
                        · subst h
                          exact ⟨HJ.out.2.1, by simp only; omega, by simp only; omega⟩
                      · subst hx
                        have hdn := hud.dn
                        refine ⟨?_, by simp only; omega, by simp only; omega⟩
                        rcases hm1 y (List.mem_of_getElem? hy1) with h | h
                        · exact (HJ.out.2.2.2.1 y h).1
                        · subst h; exact HJ.out.2.1
                    · have hvs := HJ.out.2.2.2.2.1.size
                      have h1 := HJ.out.2.2.2.2.1.trans (hb1.mono hvs)
                      have h2 := h1.trans (H2.out.mono h1.size)
                      exact (h2.setCell (p := ⟨g9, i * 2, none⟩) hwo _).setCell (p := ⟨g9, i * 2 + 1, none⟩) hwo _
                  case measure => simp [intOf]; omega
        · have hj2 : j = all.length := by omega
          subst hj2
          have hta : all.take all.length = all := List.take_length
          rw [hta] at hasm
          obtain ⟨A8, c8, hv8, hc8, hm8, hl8⟩ := lies_of_own (size := 6) (cells := Up.cells) (l := P.map Ln.u) (by decide) ucells_len (by rw [List.length_map]) hrf.outs
          obtain ⟨A9, c9, hv9, hc9, hm9, hl9⟩ := lies_of_own (size := 2) (cells := wcells) (l := P.map Ln.S) (by decide) wcells_len (by rw [List.length_map]) hrf.sums
          rw [List.length_map] at hv8 hc8 hv9 hc9
          subst hv8 hv9
          have hlo : Below w.heap.size w wi := HW.out.2.1.trans (hbj.mono HW.out.2.1.size)
          have HJ := Lib.hid (And.intro hasm (And.intro hin (And.intro hlo (And.intro hl8 hl9))))
          have q5 : decide ((all.length : Int) < (all.length : Int)) = false := decide_eq_false (by omega)
          clear hasm hin hbj hrf hl8 hl9 hta hj hlo
          go_wp2_with fail
          go_loopw [13, 104] (fun v13 v104 wr => ∃ k : Nat, v104 = .int .i64 (k : Int) ∧ k ≤ P.length ∧ wr.ownsRow wi.heap.size 48 6 v13 (evn (P.take k)).length ((evn (P.take k)).flatMap Up.cells) ∧ (P.take k).all (fun x => fits x.S) = true ∧ Below wi.heap.size wi wr)
            (fun _ v104 _ => P.length - (intOf v104).toNat)
          case atStart => exact ⟨0, rfl, by omega, World.ownsRow_nil _ _ _ _, rfl, Below.refl _ _⟩
          case round =>
            obtain ⟨k, rfl, hk, hown, hfit, hbk⟩ := hrel
            obtain ⟨wk, hwk⟩ : ∃ wk, wk = wr := ⟨_, rfl⟩
            subst hwk
            by_cases hkt : k < P.length
            · have hx : P[k]? = some P[k] := List.getElem?_eq_getElem hkt
              generalize P[k] = x at *
              have hxm := HJ.out.2.1 x (List.mem_of_getElem? hx)
              have hxg := HW.out.2.2.1 x.u hxm.1
              have hxu : (P.map Ln.u)[k]? = some x.u := by rw [List.getElem?_map, hx]; rfl
              have hxS : (P.map Ln.S)[k]? = some x.S := by rw [List.getElem?_map, hx]; rfl
              obtain ⟨g8, o8, rfl, hB8, hys8⟩ := lies_up HJ.out.2.2.2.1 (by rw [List.length_map]; omega)
              obtain ⟨g9, o9, rfl, hB9, hys9⟩ := HJ.out.2.2.2.2 (by rw [List.length_map]; omega)
              obtain ⟨e0, e1, e2, e3, e4, e5⟩ := ((hys8 k x.u hxu).past_ hbk hB8).six
              obtain ⟨V, hV, hvb, hvs, hvo⟩ := upbox wk x.u
              have hbV := hbk.trans (hvb.mono hbk.size)
              have d0 : V.cell? ⟨g9, o9 + k * 2, none⟩ = some (.int .i64 (x.S / 18446744073709551616)) := (hbV.cell (p := ⟨g9, o9 + k * 2, none⟩) hB9).trans (hys9 k x.S hxS 0 _ rfl)
              have d1 : V.cell? ⟨g9, o9 + k * 2 + 1, none⟩ = some (.int .u64 (loW x.S)) := (hbV.cell (p := ⟨g9, o9 + k * 2 + 1, none⟩) hB9).trans (hys9 k x.S hxS 1 _ rfl)
              have z1 := fun W => Lib.hid (fit_any x.S W (by omega) (by omega))
              have hev : evn (P.take (k + 1)) = evn (P.take k) ++ (if x.S = 0 then [] else [{ x.u with d := x.S }]) := evn_snoc hx
              have hall : fits x.S = true → (P.take (k + 1)).all (fun x => fits x.S) = true := fun h => by rw [List.take_add_one, hx, List.all_append, hfit]; simpa using h
              have hbad : fits x.S = false → (asm Uk.cmp (all.map Up.p)).all (fun x => fits x.2) = false := fun h => by
                rw [← HJ.out.1, List.all_map]
                rw [List.all_eq_false]
                exact ⟨x, List.mem_of_getElem? hx, by show ¬ fits x.S = true; rw [h]; decide⟩
              have hlen : (evn (P.take k)).length ≤ P.length := by unfold evn; rw [List.length_map]; exact Nat.le_trans (List.length_filter_le _ _) (by rw [List.length_take]; omega)
              have HK := Lib.hid (And.intro hown (And.intro hbV (And.intro hvo (And.intro hev (And.intro hall (And.intro hbad (And.intro hvb hvs)))))))
              have q3 : (0 : Int) ≤ (k : Int) := by omega
              have q4 : (k : Int) < (P.length : Int) := by omega
              have q6 : decide ((k : Int) < (P.length : Int)) = true := decide_eq_true q4
              obtain ⟨y1, hy1'⟩ : ∃ y1, x.S / 18446744073709551616 = y1 := ⟨_, rfl⟩
              obtain ⟨y2, hy2'⟩ : ∃ y2, loW x.S = y2 := ⟨_, rfl⟩
              rw [hy1'] at d0
              rw [hy2'] at d1
              rw [hy1', hy2'] at z1
              have hfe : fits x.S = false → fitE x.S = 10 := fun h => by unfold fitE; rw [h]; rfl
              have hfo : fits x.S = true → fitE x.S = 0 ∧ fitN x.S = x.S := fun h => by unfold fitE fitN; rw [h]; exact ⟨rfl, rfl⟩
              obtain ⟨En, hEn⟩ : ∃ En, fitE x.S = En := ⟨_, rfl⟩
              obtain ⟨Nn, hNn⟩ : ∃ Nn, fitN x.S = Nn := ⟨_, rfl⟩
              rw [hEn, hNn] at z1 hfo
              rw [hEn] at hfe
              have HE := Lib.hid (And.intro hfe hfo)
              have HG := Lib.hid hxg
              clear hown hbV hev hall hbad hvb hvs hx hxm hxu hxS hys8 hys9 hy1' hy2' hEn hNn hfe hfo hxg hfit
              go_upto_region 27 with fail
              rw [← hV]
              clear hV e0 e1 e2 e3 e4 e5
              go_wp2_with fail
              refine (z1 _).out.mono ?_
              rintro _ w2 ⟨rfl, b2⟩
              have ho2 := HK.out.2.2.1.past b2 HK.out.2.2.1.inside
              have H2 := Lib.hid (HK.out.2.1.trans (b2.mono HK.out.2.1.size))
              have hown2 := own_below (own_below HK.out.1 HK.out.2.2.2.2.2.2.1) b2
              have HO2 := Lib.hid hown2
              have hins := ho2.inside
              clear b2 d0 d1 hown2
              cases hf : fits x.S
              case false =>
                have hen := HE.out.1 hf
                have hres : resE Uk.cmp (all.map Up.p) = 10 ∧ resL Uk.cmp (all.map Up.p) = [] := by
                  unfold resE resL
                  rw [HK.out.2.2.2.2.2.1 hf]
                  exact ⟨rfl, rfl⟩
                have HR := Lib.hid hres
                have t1 : (En != 0) = true := by rw [hen]; rfl
                have HN := Lib.hid hen
                clear hf hen hres ho2
                go_wp2_with fail
                go_ret2
                exact ⟨none, 0, [], by rw [HW.out.2.2.2.2, HR.out.1, HN.out]; rfl, by rw [HW.out.2.2.2.1, HR.out.2]; rfl, ⟨Lies.nil_, fun u hu => (by cases hu)⟩, fun u hu => (by cases hu), HJ.out.2.2.1.trans (H2.out.mono HJ.out.2.2.1.size), lo_nil _⟩
              case true =>
                obtain ⟨rfl, rfl⟩ := HE.out.2 hf
                have hfb := (fits_iff x.S).1 hf
                have HF := Lib.hid (And.intro hf hfb)
                clear hf hfb HE
                have y5 := ho2.open_ 5
                have c5 := (own6 ho2).2.2.2.2.2
                have ho3 : Own (w2.setCell ⟨wk.heap.size, 5, none⟩ (.int .i64 x.S)) wk.heap.size 48 [.slice x.u.kA x.u.key.length x.u.kc, .slice x.u.rA x.u.row.length x.u.rc, .int .u64 (x.u.t.e : Int), .int .u64 (x.u.t.a : Int), .int .u64 (x.u.t.b : Int), .int .i64 x.S] := own_of (ho2.set_ 5 _) rfl
                have hb3 : Below wi.heap.size wi (w2.setCell ⟨wk.heap.size, 5, none⟩ (.int .i64 x.S)) := H2.out.setCell (p := ⟨wk.heap.size, 5, none⟩) hbk.size _
                have hne3 : ∀ b, (u13 : Value).ownBlock = some b → b ≠ wk.heap.size := fun b e => by have := (HK.out.1.lt b e).2; omega
                have hown3 := HO2.out.kept (w' := w2.setCell ⟨wk.heap.size, 5, none⟩ (.int .i64 x.S)) (row := some wk.heap.size) ⟨rfl, rfl, rfl, by simp [World.setCell], fun k _ hk => Below.heap_setCell w2 ⟨wk.heap.size, 5, none⟩ _ k fun e => hk (by rw [e])⟩ (.inr fun e => hne3 _ e rfl)
                obtain ⟨W3, hW3⟩ : ∃ W3, W3 = w2.setCell ⟨wk.heap.size, 5, none⟩ (.int .i64 x.S) := ⟨_, rfl⟩
                rw [← hW3] at ho3 hb3 hown3
                have H3 := Lib.hid (And.intro ho3 (And.intro hb3 hown3))
                have hs3 := hb3.size
                clear ho3 hb3 hne3 hown3 ho2
                by_cases hS0 : x.S = 0
                · have t1 : (x.S != 0) = false := by simp [hS0]
                  have HS0 := Lib.hid hS0
                  clear hS0
                  go_upto_region 31 with fail
                  rw [← hW3]
                  clear hW3 y5 c5
                  go_wp2_with fail
                  go_roundw
                  case rel =>
                    have h3 := H3.out.2.2
                    have hv := HK.out.2.2.2.1
                    rw [if_pos HS0.out, List.append_nil] at hv
                    refine ⟨k + 1, by go_num, by omega, ?_, HK.out.2.2.2.2.1 HF.out.1, H3.out.2.1⟩
                    rw [hv]
                    exact h3
                  case measure => simp [intOf]; omega
                · have t1 : (x.S != 0) = true := bne_iff_ne.2 hS0
                  have HS0 := Lib.hid hS0
                  clear hS0
                  go_upto_region 31 with fail
                  rw [← hW3]
                  clear hW3 y5 c5
                  obtain ⟨e0, e1, e2, e3, e4, e5⟩ := own6 H3.out.1
                  go_wp2_with (at_builtin; refine wpList_push _ rfl _ _ 22 rfl wi.heap.size 48 i0 _ 6 80 HI.out.1 HI.out.2.1 HI.out.2.2.1 HI.out.2.2.2.1 HI.out.2.2.2.2 rfl (by decide) _ _ _ rfl H3.out.2.2 #[.slice x.u.kA x.u.key.length x.u.kc, .slice x.u.rA x.u.row.length x.u.rc, .int .u64 (x.u.t.e : Int), .int .u64 (x.u.t.a : Int), .int .u64 (x.u.t.b : Int), .int .i64 x.S] rfl rfl ?p1 ?p2 ?p3 ?p4 ?_)
                  case p1 => exact ⟨rfl, rfl, rfl, rfl, rfl, rfl⟩
                  case p2 => unfold maxLen; omega
                  case p3 => omega
                  case p4 => exact hs3
                  intro v' w' ho' hb' hob hgw
                  have H4 := Lib.hid (And.intro ho' (H3.out.2.1.trans hb'))
                  clear ho' hb' hob hgw e0 e1 e2 e3 e4 e5
                  go_wp2_with fail
                  go_roundw
                  case rel =>
                    have h3 := H4.out.1
                    have hv := HK.out.2.2.2.1
                    rw [if_neg HS0.out] at hv
                    refine ⟨k + 1, by go_num, by omega, ?_, HK.out.2.2.2.2.1 HF.out.1, H4.out.2⟩
                    rw [hv, List.length_append, List.flatMap_append]
                    exact h3
                  case measure => simp [intOf]; omega
            · have hk2 : k = P.length := by omega
              subst hk2
              rw [List.take_length] at hown hfit
              have q6 : decide ((P.length : Int) < (P.length : Int)) = false := decide_eq_false (by omega)
              obtain ⟨A13, c13, rfl, _, _, hl13⟩ := lies_of_own (size := 6) (cells := Up.cells) (by decide) ucells_len rfl hown
              have hbw : Below w.heap.size w wk := HJ.out.2.2.1.trans (hbk.mono HJ.out.2.2.1.size)
              have hmem : ∀ v ∈ evn P, ∃ x ∈ P, v = { x.u with d := x.S } ∧ fits x.S = true := fun v hv => by
                obtain ⟨x, hx, rfl⟩ := List.mem_map.1 hv
                have hx := (List.mem_filter.1 hx).1
                exact ⟨x, hx, rfl, List.all_eq_true.1 hfit x hx⟩
              have hups : Ups wk wk.heap.size A13 (evn P) := ⟨hl13, fun v hv => by
                obtain ⟨x, hx, rfl, _⟩ := hmem v hv
                have := ((HW.out.2.2.1 x.u (HJ.out.2.1 x hx).1).2.2.past hbw (Nat.le_refl _)).wide hbw.size
                exact ⟨this.key, this.row⟩⟩
              have hok : ∀ v ∈ evn P, UOk v := fun v hv => by
                obtain ⟨x, hx, rfl, hf⟩ := hmem v hv
                have := (HW.out.2.2.1 x.u (HJ.out.2.1 x hx).1).2.1
                exact ⟨this.kn, this.rn, this.ks, this.rs, (fits_iff x.S).1 hf⟩
              have h8 : ∀ v ∈ evn P, v.key.length ≤ 8 ∧ v.row.length ≤ 8 := fun v hv => by
                obtain ⟨x, hx, rfl, hf⟩ := hmem v hv
                have hz := chkK_zero (HW.out.2.2.1 x.u (HJ.out.2.1 x hx).1).1
                exact ⟨(chkRow_zero hz.1).2, (chkRow_zero hz.2.1).2⟩
              have hcp := Lib.hid (copyU_own A13 c13 (evn P) wk hups hok (fun u hu => by have := h8 u hu; omega) (by unfold evn; rw [List.length_map]; exact Nat.le_trans (List.length_filter_le _ _) (by omega)))
              have hres : resE Uk.cmp (all.map Up.p) = 0 ∧ resL Uk.cmp (all.map Up.p) = (evn P).map Up.p := by
                have h1 : (asm Uk.cmp (all.map Up.p)).all (fun x => fits x.2) = true := by rw [← HJ.out.1, List.all_map]; exact hfit
                unfold resE resL nz
                rw [if_pos h1, if_pos h1, ← HJ.out.1]
                exact ⟨rfl, (evn_p P).symm⟩
              have HR := Lib.hid (And.intro hres hbw)
              clear hown hfit hl13 hmem hups hok h8 hres hbw hbk
              go_wp2_with fail
              refine hcp.out.mono ?_
              rintro _ w5 ⟨v5, outL, rfl, hp5, hown5, hout5, b5⟩
              obtain ⟨A5, c5, rfl, _, _, hl5⟩ := lies_of_own (size := 6) (cells := Up.cells) (by decide) ucells_len rfl hown5
              have hlo : Lo w.heap.size A5 outL := ⟨fun b o e => by subst e; exact Nat.le_trans HR.out.2.size (hown5.lt b rfl).1, fun u hu b o hb => Nat.le_trans HR.out.2.size ((hout5 u hu).2.2 b o hb).2.2⟩
              have H5 := Lib.hid (And.intro hp5 (And.intro (⟨hl5, fun u hu => (hout5 u hu).1⟩ : Ups w5 w5.heap.size A5 outL) (And.intro (fun u hu => (hout5 u hu).2.1) (And.intro b5 hlo))))
              clear hp5 hown5 hout5 b5 hcp hl5 hlo
              go_wp2_with fail
              go_ret2
              exact ⟨A5, c5, outL, by rw [HW.out.2.2.2.2, HR.out.1.1]; rfl, by rw [HW.out.2.2.2.1, HR.out.1.2]; exact H5.out.1, H5.out.2.1, H5.out.2.2.1, HR.out.2.trans (H5.out.2.2.2.1.mono HR.out.2.size), H5.out.2.2.2.2⟩
theorem rcons_any (A : Option Addr) (c : Nat) (L : List (Rw Up)) (w : World) (hl : ULs w w.heap.size A L) (hok : ∀ s ∈ L, ∀ u ∈ s.l, UOk u) (hn : (flatR L).length ≤ 1048576) (hn2 : L.length ≤ 1048576) :
    Calls Tryz.prog 32 #[.slice A L.length c] w (UpsSays (consL (L.map Rw.l)) (consE (L.map Rw.l)) w) :=
  (rcons_new A c L w hl hok hn hn2).mono fun x w' ⟨A', c', outL, h1, h2, h3, h4, h5, _⟩ => ⟨A', c', outL, h1, h2, h3, h4, h5⟩
end Go.Proofs.YtllpfngmnccejaaGreat
