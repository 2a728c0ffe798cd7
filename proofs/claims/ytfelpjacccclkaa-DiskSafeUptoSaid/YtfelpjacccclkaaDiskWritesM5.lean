/- Part 5 of the texts on which DiskWrites rests: facts and contracts. -/
import Derived.Test.YtfelpjacccclkaaDiskWritesM4
import Derived.Tactics2
import Derived.Orders
import Derived.RegionTactic
import Derived.Deep.Cut
import Derived.Deep.Onto
namespace Go.Proofs.Ytfelpjacccclkaa
open Go

/-- the state behind those operations that have come up: each has left its value -/
def putsR : List (Option Tmp × Option Value) → Act → Act
  | [], a => a
  | (_, none) :: l, a => putsR l a
  | (d, some v) :: l, a => putsR l (a.put d v)
/-- no two operations leave their values in one temporary -/
def ApartR : List (Option Tmp) → Prop
  | [] => True
  | d :: l => (∀ t, d = some t → some t ∉ l) ∧ ApartR l
theorem putsR_put : ∀ (l : List (Option Tmp × Option Value)) (a : Act) (d : Option Tmp) (v : Value), (∀ t, d = some t → some t ∉ l.map Prod.fst) → putsR l (a.put d v) = (putsR l a).put d v
  | [], _, _, _, _ => rfl
  | (_, none) :: l, a, d, v, h => putsR_put l a d v fun t ht hm => h t ht (List.mem_cons_of_mem _ hm)
  | (e, some u) :: l, a, d, v, h => by
    show putsR l ((a.put d v).put e u) = (putsR l (a.put e u)).put d v
    rw [← putsR_put l (a.put e u) d v fun t ht hm => h t ht (List.mem_cons_of_mem _ hm)]
    congr 1
    exact Act.put_comm a v u fun t ht he => h t ht (by subst he; exact List.mem_cons_self)
theorem putsR_set : ∀ (l : List (Option Tmp × Option Value)) (a : Act) (i : Nat) (d : Option Tmp) (v : Value), ApartR (l.map Prod.fst) → l[i]? = some (d, none) → (putsR l a).put d v = putsR (l.set i (d, some v)) a
  | [], _, _, _, _, _, h => by simp at h
  | (e, x) :: l, a, 0, d, v, ha, h => by
    obtain ⟨rfl, rfl⟩ : e = d ∧ x = none := by simpa using h
    show (putsR l a).put e v = putsR l (a.put e v)
    exact (putsR_put l a e v ha.1).symm
  | (e, none) :: l, a, i + 1, d, v, ha, h => putsR_set l a i d v ha.2 (by simpa using h)
  | (e, some u) :: l, a, i + 1, d, v, ha, h => putsR_set l (a.put e u) i d v ha.2 (by simpa using h)
theorem putsR_size : ∀ (l : List (Option Tmp × Option Value)) (a : Act), (putsR l a).tmps.size = a.tmps.size
  | [], _ => rfl
  | (_, none) :: l, a => putsR_size l a
  | (d, some v) :: l, a => (putsR_size l (a.put d v)).trans (by cases d <;> simp [Act.put])
/-- a temporary that none leaves its value in -/
theorem putsR_miss : ∀ (l : List (Option Tmp × Option Value)) (a : Act) (t : Tmp), (∀ v, (some t, some v) ∉ l) → (putsR l a).eval (.tmp t) = a.eval (.tmp t)
  | [], _, _, _ => rfl
  | (_, none) :: l, a, t, h => putsR_miss l a t fun v hm => h v (List.mem_cons_of_mem _ hm)
  | (d, some v) :: l, a, t, h => by
    show (putsR l (a.put d v)).eval (.tmp t) = _
    rw [putsR_miss l (a.put d v) t fun v hm => h v (List.mem_cons_of_mem _ hm)]
    exact Act.eval_put fun e he ht => h v (by cases ht; subst he; exact List.mem_cons_self)
theorem putsR_hit : ∀ (l : List (Option Tmp × Option Value)) (a : Act) (i : Nat) (t : Tmp) (v : Value), ApartR (l.map Prod.fst) → l[i]? = some (some t, some v) → t < a.tmps.size → (putsR l a).eval (.tmp t) = v
  | [], _, _, _, _, _, h, _ => by simp at h
  | (e, x) :: l, a, 0, t, v, ha, h, ht => by
    obtain ⟨rfl, rfl⟩ : e = some t ∧ x = some v := by simpa using h
    show (putsR l (a.put (some t) v)).eval (.tmp t) = v
    rw [putsR_miss l _ t fun u hm => ha.1 t rfl (List.mem_map.2 ⟨_, hm, rfl⟩)]
    simp [Act.eval, Act.put, ht]
  | (e, none) :: l, a, i + 1, t, v, ha, h, ht => putsR_hit l a i t v ha.2 (by simpa using h) ht
  | (e, some u) :: l, a, i + 1, t, v, ha, h, ht => putsR_hit l (a.put e u) i t v ha.2 (by simpa using h) (by cases e <;> simpa [Act.put] using ht)
theorem apartR_of {l : List (Option Tmp)} (h : (l.filterMap id).Nodup) : ApartR l := by
  induction l with
  | nil => trivial
  | cons d l ih =>
    cases d with
    | none => exact ⟨fun t ht => (by cases ht), ih (by simpa using h)⟩
    | some t =>
      have h' : (t :: l.filterMap id).Nodup := by simpa using h
      refine ⟨fun s hs hm => ?_, ih (List.nodup_cons.1 h').2⟩
      cases hs
      exact (List.nodup_cons.1 h').1 (List.mem_filterMap.2 ⟨_, hm, rfl⟩)

section
variable {P : Program} {Q : Exit → Act → World → Prop}
/-- every operation waits for earlier ones alone -/
def earlyR (l : List Oper) : Bool := (List.range l.length).all fun i => ((l[i]?).map fun o => o.after.all fun e => decide (e.on < i)).getD true
theorem earlyR_spec {l : List Oper} (h : earlyR l = true) {i : Nat} {o : Oper} (ho : l[i]? = some o) : ∀ e ∈ o.after, e.on < i := by
  unfold earlyR at h
  rw [List.all_eq_true] at h
  have := h i (List.mem_range.2 (List.getElem?_eq_some_iff.1 ho).1)
  rw [ho] at this
  simp only [Option.map_some, Option.getD_some, Array.all_eq_true_iff_forall_mem, decide_eq_true_eq] at this
  exact this
def slotsR (l : List Oper) (vals : List (Option Value)) : List (Option Tmp × Option Value) := (l.map Oper.dst).zip vals
theorem slotsR_fst {l : List Oper} {vals : List (Option Value)} (h : vals.length = l.length) : (slotsR l vals).map Prod.fst = l.map Oper.dst := by
  unfold slotsR; rw [List.map_fst_zip]; simp [h]
theorem slotsR_at {l : List Oper} {vals : List (Option Value)} {i : Nat} {o : Oper} {x : Option Value} (ho : l[i]? = some o) (hx : vals[i]? = some x) : (slotsR l vals)[i]? = some (o.dst, x) := by
  unfold slotsR; rw [List.getElem?_zip_eq_some]; simp [ho, hx]
theorem slotsR_set {l : List Oper} {vals : List (Option Value)} {i : Nat} {o : Oper} {x : Option Value} (ho : l[i]? = some o) : slotsR l (vals.set i x) = (slotsR l vals).set i (o.dst, x) := by
  unfold slotsR
  apply List.ext_getElem?
  intro j
  by_cases hij : i = j
  · subst hij
    rw [List.getElem?_set]
    rw [if_pos rfl]
    by_cases hl : i < vals.length
    · have : (vals.set i x)[i]? = some x := by simp [hl]
      have h2 := slotsR_at ho this
      unfold slotsR at h2
      rw [h2, if_pos]
      have := (List.getElem?_eq_some_iff.1 ho).1
      simp; omega
    · rw [List.set_eq_of_length_le (by omega), if_neg (by simp; omega)]
      rw [List.getElem?_eq_none]; simp; omega
  · rw [List.getElem?_set_ne hij, List.zip_eq_zipWith, List.zip_eq_zipWith, List.getElem?_zipWith, List.getElem?_zipWith, List.getElem?_set_ne hij]
/-- what has come up: some operations, those that they wait for among them -/
structure CameUp (l : List Oper) (vals : List (Option Value)) : Prop where
  len : vals.length = l.length
  closed : ∀ (i : Nat) (o : Oper) (v : Value), l[i]? = some o → vals[i]? = some (some v) → ∀ e ∈ o.after, Region.binds .any e = true → ∃ u, vals[e.on]? = some (some u)
def flagsR (vals : List (Option Value)) : Array Bool := (vals.map Option.isSome).toArray
theorem flagsR_set (vals : List (Option Value)) (i : Nat) (v : Value) : (flagsR vals).setIfInBounds i true = flagsR (vals.set i (some v)) := by
  unfold flagsR
  apply Array.ext'
  simp [List.map_set]
theorem flagR_at {vals : List (Option Value)} {i : Nat} {d : Bool} (h : i < vals.length) : (flagsR vals).getD i d = (vals[i]).isSome := by
  unfold flagsR
  rw [Array.getD_eq_getD_getElem?]
  simp [h]
/-- **a region that draws its order, one step law an operation**: F holds of what has come up and of the world -/
theorem wp_region_steps {id : Nat} {l : List Oper} {a : Act} {w : World} (hm : P.follows .mixedOrders = true) (he : earlyR l = true) (hd : ((l.map Oper.dst).filterMap _root_.id).Nodup)
    (F : List (Option Value) → World → Prop) (h0 : F (l.map fun _ => none) w.drew)
    (hstep : ∀ (i : Nat) (o : Oper) (vals : List (Option Value)) (w' : World), l[i]? = some o → CameUp l vals → vals[i]? = some none → (∀ e ∈ o.after, Region.binds .any e = true → ∃ u, vals[e.on]? = some (some u)) → F vals w' →
      ∀ K : Act → World → Prop, (∀ v w'', F (vals.set i (some v)) w'' → K ((putsR (slotsR l vals) a).put o.dst v) w'') →
      if Region.wanted o (yielded l.toArray (putsR (slotsR l vals) a).tmps) = true then Oper.wp P o (putsR (slotsR l vals) a) w' K Q else K ((putsR (slotsR l vals) a).put o.dst undef) w')
    (hend : ∀ (vs : List Value) (w' : World), vs.length = l.length → F (vs.map some) w' → Q .normal (putsR (slotsR l (vs.map some)) a) w') :
    (Code.region id l.toArray true).wp P Q a w := by
  refine wp_region_any hm ?_
  have hap : ∀ vals : List (Option Value), vals.length = l.length → ApartR ((slotsR l vals).map Prod.fst) := fun vals hv => by rw [slotsR_fst hv]; exact apartR_of hd
  have key : ∀ (n : Nat) (vals : List (Option Value)) (w' : World), CameUp l vals → (vals.filter (fun x => x.isNone)).length ≤ n → F vals w' → wpAny P .any l.toArray Q n (flagsR vals) (putsR (slotsR l vals) a) w' := by
    have all : ∀ (vals : List (Option Value)), CameUp l vals → Region.ready .any l.toArray (flagsR vals) = [] → ∀ i, i < l.length → ∃ v, vals[i]? = some (some v) := by
      intro vals hc hr i
      induction i using Nat.strongRecOn with
      | _ i ih =>
        intro hi
        have hiv : i < vals.length := by rw [hc.len]; exact hi
        cases hx : vals[i] with
        | some v => exact ⟨v, by rw [List.getElem?_eq_getElem hiv, hx]⟩
        | none =>
          exfalso
          have hmem : i ∈ Region.ready .any l.toArray (flagsR vals) := mem_ready.2 ⟨by rw [flagR_at hiv, hx]; rfl, l[i], by simp [hi], fun e hem hb => by
            have hlt := earlyR_spec he (List.getElem?_eq_getElem hi) e hem
            obtain ⟨u, hu⟩ := ih e.on hlt (by omega)
            have hel : e.on < vals.length := by omega
            rw [flagR_at hel]
            rw [List.getElem?_eq_getElem hel] at hu
            injection hu with hu
            rw [hu]; rfl⟩
          rw [hr] at hmem
          cases hmem
    have done : ∀ (vals : List (Option Value)) (w' : World), CameUp l vals → F vals w' → Region.ready .any l.toArray (flagsR vals) = [] → Q .normal (putsR (slotsR l vals) a) w' := by
      intro vals w' hc hF hr
      have hall := all vals hc hr
      have hv : vals = (vals.map fun x => x.getD undef).map some := by
        apply List.ext_getElem?
        intro i
        rw [List.getElem?_map, List.getElem?_map]
        by_cases hi : i < vals.length
        · obtain ⟨v, hv⟩ := hall i (by rw [← hc.len]; exact hi)
          rw [hv]; rfl
        · rw [List.getElem?_eq_none (by omega)]; rfl
      rw [hv] at hF ⊢
      exact hend _ w' (by rw [List.length_map]; exact hc.len) hF
    intro n
    induction n with
    | zero =>
      intro vals w' hc hn hF
      have hr : Region.ready .any l.toArray (flagsR vals) = [] := by
        rw [List.eq_nil_iff_forall_not_mem]
        intro i hi
        obtain ⟨h1, o, ho, _⟩ := mem_ready.1 hi
        have hil : i < l.length := by have := (Array.getElem?_eq_some_iff.1 ho).1; simpa using this
        have hiv : i < vals.length := by rw [hc.len]; exact hil
        rw [flagR_at hiv] at h1
        have hno : vals[i] = none := by cases h : vals[i] with | none => rfl | some v => rw [h] at h1; cases h1
        have : vals[i] ∈ vals.filter (fun x => x.isNone) := List.mem_filter.2 ⟨List.getElem_mem hiv, by rw [hno]; rfl⟩
        have := List.length_pos_of_mem this
        omega
      exact ⟨hr, done vals w' hc hF hr⟩
    | succ n ih =>
      intro vals w' hc hn hF
      refine ⟨fun hr => done vals w' hc hF hr, fun i hi => ?_⟩
      obtain ⟨h1, o, ho, hdeps⟩ := mem_ready.1 hi
      have ho' : l[i]? = some o := by simpa using ho
      have hil : i < l.length := (List.getElem?_eq_some_iff.1 ho').1
      have hiv : i < vals.length := by rw [hc.len]; exact hil
      rw [flagR_at hiv] at h1
      have hno : vals[i] = none := by cases h : vals[i] with | none => rfl | some v => rw [h] at h1; cases h1
      have hno' : vals[i]? = some none := by rw [List.getElem?_eq_getElem hiv, hno]
      have hdeps' : ∀ e ∈ o.after, Region.binds .any e = true → ∃ u, vals[e.on]? = some (some u) := fun e hem hb => by
        have h2 := hdeps e hem hb
        have hlt := earlyR_spec he ho' e hem
        have hel : e.on < vals.length := by omega
        rw [flagR_at hel] at h2
        obtain ⟨u, hu⟩ := Option.isSome_iff_exists.1 h2
        exact ⟨u, by rw [List.getElem?_eq_getElem hel, hu]⟩
      refine wpOp_step ho fun K' hK => hstep i o vals w' ho' hc hno' hdeps' hF K' fun v w'' hF' => hK _ _ ?_
      have hc' : CameUp l (vals.set i (some v)) := by
        refine ⟨by rw [List.length_set]; exact hc.len, fun j oj u hoj hu e hem hb => ?_⟩
        have hs : ∀ k u, vals[k]? = some (some u) → ∃ u', (vals.set i (some v))[k]? = some (some u') := fun k u hk => by
          by_cases hik : i = k
          · subst hik; rw [hno'] at hk; cases hk
          · exact ⟨u, by rw [List.getElem?_set_ne hik]; exact hk⟩
        by_cases hij : i = j
        · subst hij
          rw [ho'] at hoj
          cases hoj
          obtain ⟨u', hu'⟩ := hdeps' e hem hb
          exact hs _ _ hu'
        · rw [List.getElem?_set_ne hij] at hu
          obtain ⟨u', hu'⟩ := hc.closed j oj u hoj hu e hem hb
          exact hs _ _ hu'
      rw [flagsR_set vals i v, putsR_set _ a i o.dst v (hap vals hc.len) (slotsR_at ho' hno'), ← slotsR_set ho']
      refine ih _ w'' hc' ?_ hF'
      have hcnt : ∀ (vals : List (Option Value)) (i : Nat), vals[i]? = some none → ((vals.set i (some v)).filter (fun x => x.isNone)).length + 1 = (vals.filter (fun x => x.isNone)).length := by
        intro vals
        induction vals with
        | nil => intro i h; simp at h
        | cons x vals ih =>
          intro i h
          cases i with
          | zero =>
            obtain rfl : x = none := by simpa using h
            simp
          | succ i =>
            have := ih i (by simpa using h)
            rw [List.set_cons_succ, List.filter_cons, List.filter_cons]
            split <;> simp_all
      have := hcnt vals i hno'
      omega
  have h := key l.length (l.map fun _ => none) w.drew ⟨by simp, fun i o v _ hv => by rw [List.getElem?_map] at hv; cases l[i]? <;> simp at hv⟩ (by
    refine Nat.le_trans (List.length_filter_le _ _) (by simp)) h0
  have e1 : flagsR (l.map fun _ => none) = Array.replicate l.toArray.size false := by
    unfold flagsR
    apply Array.ext'
    rw [List.map_map]
    show List.map (fun _ => false) l = _
    rw [List.map_const', List.size_toArray, Array.toList_replicate]
  have e2 : putsR (slotsR l (l.map fun _ => none)) a = a := by
    have : ∀ (m : List (Option Tmp × Option Value)) (a : Act), (∀ x ∈ m, x.2 = none) → putsR m a = a := by
      intro m
      induction m with
      | nil => intro a _; rfl
      | cons x m ih =>
        intro a h
        obtain ⟨d, y⟩ := x
        obtain rfl : y = none := h (d, y) List.mem_cons_self
        exact ih a fun z hz => h z (List.mem_cons_of_mem _ hz)
    refine this _ a fun x hx => ?_
    obtain ⟨d, y⟩ := x
    have := (List.of_mem_zip hx).2
    simp at this
    exact this.2.symm
  rw [e1, e2] at h
  simpa using h
end
end Go.Proofs.Ytfelpjacccclkaa
namespace Go.Proofs.Ytfelpjacccclkaa
open Go Go.RowKit

/-- the operations of the region: T the slice's type, 'so' its slot, 'sa' the place's, op5 what makes the new one -/
abbrev insOps (T TI T5 : TypeId) (d0 d1 d2 d3 d4 d5 d6 d7 d8 d9 d10 d11 so sa : Tmp) (op5 : Op) (p0 p1 p2 p3 p4 p5 p6 p7 p8 p9 p10 p11 p12 : String) : List Oper :=
  [{ dst := some d0, op := .buildSlice T 0 #[], type := T, pos := p0, after := #[], guard := none },
   { dst := some d1, op := .move (.tmp so), type := T, pos := p1, after := #[], guard := none },
   { dst := some d2, op := .move (.tmp sa), type := TI, pos := p2, after := #[], guard := none },
   { dst := some d3, op := .slice T (.tmp d1) none (some (.tmp d2)) none, type := T, pos := p3, after := #[{ on := 1, ground := .data }, { on := 2, ground := .data }], guard := none },
   { dst := some d4, op := .call { callee := .builtin .append, args := #[.tmp d0, .tmp d3], argTypes := #[T, T] }, type := T, pos := p4, after := #[{ on := 0, ground := .data }, { on := 3, ground := .data }], guard := none },
   { dst := some d5, op := op5, type := T5, pos := p5, after := #[], guard := none },
   { dst := some d6, op := .buildSlice T 1 #[(0, .tmp d5)], type := T, pos := p6, after := #[{ on := 5, ground := .data }], guard := none },
   { dst := some d7, op := .call { callee := .builtin .append, args := #[.tmp d4, .tmp d6], argTypes := #[T, T] }, type := T, pos := p7, after := #[{ on := 4, ground := .data }, { on := 6, ground := .data }, { on := 4, ground := .chain }], guard := none },
   { dst := some d8, op := .move (.tmp so), type := T, pos := p8, after := #[], guard := none },
   { dst := some d9, op := .move (.tmp sa), type := TI, pos := p9, after := #[], guard := none },
   { dst := some d10, op := .slice T (.tmp d8) (some (.tmp d9)) none none, type := T, pos := p10, after := #[{ on := 8, ground := .data }, { on := 9, ground := .data }], guard := none },
   { dst := some d11, op := .call { callee := .builtin .append, args := #[.tmp d7, .tmp d10], argTypes := #[T, T] }, type := T, pos := p11, after := #[{ on := 7, ground := .data }, { on := 10, ground := .data }, { on := 7, ground := .chain }], guard := none },
   { dst := some so, op := .assign (.tmp d11), type := T, pos := p12, after := #[{ on := 11, ground := .data }, { on := 11, ground := .chain }, { on := 0, ground := .phase }, { on := 1, ground := .phase }, { on := 2, ground := .phase }, { on := 3, ground := .phase }, { on := 4, ground := .phase }, { on := 5, ground := .phase }, { on := 6, ground := .phase }, { on := 7, ground := .phase }, { on := 8, ground := .phase }, { on := 9, ground := .phase }, { on := 10, ground := .phase }, { on := 11, ground := .phase }], guard := none }]
section
variable {P : Program} {α : Type} {size : Nat} {cells : α → List Value}
/-- what holds while they come up -/
structure InsG (V : World) (e : TypeId) (size : Nat) (cells : α → List Value) (l : List α) (x : α) (i : Nat) (O I S1 S2 X : Value) (x0 x1 x2 x3 x4 x5 x6 x7 x8 x9 x10 x11 x12 : Option Value) (w : World) : Prop where
  below : Below V.heap.size V w
  m1 : ∀ v, x1 = some v → v = O
  m2 : ∀ v, x2 = some v → v = I
  s3 : ∀ v, x3 = some v → v = S1
  k5 : ∀ v, x5 = some v → v = X
  m8 : ∀ v, x8 = some v → v = O
  m9 : ∀ v, x9 = some v → v = I
  s10 : ∀ v, x10 = some v → v = S2
  r0 : ∀ v, x0 = some v → x4 = none → w.ownsRow V.heap.size e size v 0 []
  r4 : ∀ v, x4 = some v → x7 = none → w.ownsRow V.heap.size e size v i ((l.take i).flatMap cells)
  b6 : ∀ v, x6 = some v → x7 = none → ∃ g, v = .slice (some ⟨g, 0, none⟩) 1 1 ∧ Own w g e (cells x) ∧ ∀ v0, x0 = some v0 → x4 = none → v0.ownBlock ≠ some g
  r7 : ∀ v, x7 = some v → x11 = none → w.ownsRow V.heap.size e size v (i + 1) ((l.take i ++ [x]).flatMap cells)
  r11 : ∀ v, x11 = some v → w.ownsRow V.heap.size e size v (l.length + 1) ((l.take i ++ x :: l.drop i).flatMap cells)
  a12 : ∀ v, x12 = some v → x11 = some v
theorem step_value {P : Program} {Q : Exit → Act → World → Prop} {ops : Array Oper} {o : Oper} {a : Act} {K : Act → World → Prop} {w w' : World} {v : Value} {E : Prop} (hg : o.guard = none) (hr : (execOp a.eval o).run P w = .ok (.value v) w') (h : K (a.put o.dst v) w') :
    if Region.wanted o (yielded ops a.tmps) = true then Oper.wp P o a w K Q else E := by
  have hw : Region.wanted o (yielded ops a.tmps) = true := by simp [Region.wanted, hg]
  rw [if_pos hw]
  unfold Oper.wp
  rw [hr]
  exact h
theorem nodup_at {β : Type} {l : List β} (h : l.Nodup) {i j : Nat} {x : β} (hi : l[i]? = some x) (hj : l[j]? = some x) : i = j := by
  obtain ⟨h1, e1⟩ := List.getElem?_eq_some_iff.1 hi
  obtain ⟨h2, e2⟩ := List.getElem?_eq_some_iff.1 hj
  exact (List.getElem_inj h).1 (e1.trans e2.symm)
theorem slots_mem {l : List Oper} {vals : List (Option Value)} {t : Tmp} {v : Value} (h : (some t, some v) ∈ slotsR l vals) : ∃ j : Nat, (l.map Oper.dst)[j]? = some (some t) ∧ vals[j]? = some (some v) := by
  obtain ⟨j, hj⟩ := List.mem_iff_getElem?.1 h
  unfold slotsR at hj
  rw [List.getElem?_zip_eq_some] at hj
  exact ⟨j, hj.1, hj.2⟩
theorem step_app {Q : Exit → Act → World → Prop} (w : World) {ops : Array Oper} {o : Oper} {a : Act} {K : Act → World → Prop} {E : Prop} (hgd : o.guard = none) (s x : Operand) (t e : TypeId)
    (ho : o.op = .call { callee := .builtin .append, args := #[s, x], argTypes := #[t, t] })
    (i0 : TypeInfo) (z : Value) (bytes : Nat) (ht : P.underlying t = some (.slice e)) (hi : P.info? e = some i0) (hz0 : i0.zero = some z) (hz1 : i0.size = size) (hz2 : i0.bytes = bytes) (hzs : z.cells.size = size) (hpos : 0 < size) (hcl : ∀ x, (cells x).length = size) (hone : ∀ x, ∀ u ∈ cells x, u.oneCell' = true)
    (base : Nat) (v : Value) (n : Nat) (xs : List Value) (hs : a.eval s = v) (hown : w.ownsRow base e size v n xs)
    (B : Nat) (A : Option Addr) (c : Nat) (l : List α) (k : Nat) (hk : l.length = k) (hx : a.eval x = .slice A k c) (hl : Lies size cells w B A l) (h63 : n + k ≤ maxLen) (hn : (n + k) * bytes ≤ 140737488355328) (hbase : base ≤ w.heap.size)
    (h : ∀ v' w', w'.ownsRow base e size v' (n + k) (xs ++ l.flatMap cells) → Below base w w' → w.grownBy w' v.ownBlock → K (a.put o.dst v') w') :
    if Region.wanted o (yielded ops a.tmps) = true then Oper.wp P o a w K Q else E := by
  subst hk
  obtain ⟨v', w', hrun, ho', hb, hg⟩ : ∃ v' w', (Builtin.append_ #[t, t] o.type #[v, .slice A l.length c]).run P w = .ok v' w' ∧ w'.ownsRow base e size v' (n + l.length) (xs ++ l.flatMap cells) ∧ Below base w w' ∧ w.grownBy w' v.ownBlock := by
    cases A with
    | none =>
      have h0 : l = [] := by
        cases l with
        | nil => rfl
        | cons x l => obtain ⟨_, _, e, _⟩ := hl (by simp); cases e
      subst h0
      exact ⟨v, w, run_append_none w base _ _ _ i0 size ht hi v n xs hown c, by simpa using hown, Below.refl _ _, ⟨rfl, rfl, rfl, Nat.le_refl _, fun _ _ _ => rfl⟩⟩
    | some ad =>
      have hnews : ∀ j u, (l.flatMap cells)[j]? = some u → w.cell? (ad.add j) = some u := by
        intro j u hu
        obtain ⟨i, r, y, rfl, hi, hr⟩ := flat_back hpos hcl l j u hu
        have hp : 0 < l.length := by have := (List.getElem?_eq_some_iff.1 hi).1; omega
        obtain ⟨b, o, e, _, hc⟩ := hl hp
        obtain rfl : ad = ⟨b, o, none⟩ := by injection e
        have ea : (⟨b, o, none⟩ : Addr).add (i * size + r) = ⟨b, o + i * size + r, none⟩ := by unfold Addr.add; split <;> simp_all <;> omega
        rw [ea]
        exact hc i y hi r u hr
      obtain ⟨v', w', hr, h2, h3, _, _⟩ := run_append_own_at (P := P) w base t o.type e i0 _ size bytes ht hi hz0 hz1 hz2 hzs hpos v n xs hown ad l.length c (l.flatMap cells) (flat_size hcl l) hnews
        (fun u hu => by obtain ⟨y, _, hy⟩ := List.mem_flatMap.1 hu; exact hone y u hy) h63 hn hbase
      exact ⟨v', w', hr, h2, (Below.refl base w).grown h3 hbase (fun k hk => (hown.lt k hk).1), h3⟩
  refine step_value (v := v') (w' := w') hgd ?_ (h v' w' ho' hb hg)
  unfold execOp
  simp only [ho, resolve, invoke, builtin, Sem.run_bind, Sem.run_pure, Result.andThen_ok, List.map_toArray, List.map_cons, List.map_nil, hs, hx, hrun]
set_option maxRecDepth 100000 in
set_option maxHeartbeats 3200000 in
/-- **the three appends**, in whatever order: the new row lies in memory of its own -/
theorem wp_ins {id : Nat} {Q : Exit → Act → World → Prop} {a : Act} {V : World} (hm : P.follows .mixedOrders = true) {T TI T5 e : TypeId} {d0 d1 d2 d3 d4 d5 d6 d7 d8 d9 d10 d11 so sa : Tmp} {op5 : Op} {p0 p1 p2 p3 p4 p5 p6 p7 p8 p9 p10 p11 p12 : String}
    (hd : [d0, d1, d2, d3, d4, d5, d6, d7, d8, d9, d10, d11, so].Nodup) (hda : sa ∉ [d0, d1, d2, d3, d4, d5, d6, d7, d8, d9, d10, d11, so]) (nt : Nat) (hnt : a.tmps.size = nt) (hsz : ∀ d ∈ [d0, d1, d2, d3, d4, d5, d6, d7, d8, d9, d10, d11, so], d < nt)
    (i0 : TypeInfo) (z : Value) (bytes : Nat) (ht : P.underlying T = some (.slice e)) (hi : P.info? e = some i0) (hz0 : i0.zero = some z) (hz1 : i0.size = size) (hz2 : i0.bytes = bytes) (hzs : z.cells.size = size) (hpos : 0 < size) (hcl : ∀ x, (cells x).length = size) (hone : ∀ x, ∀ u ∈ cells x, u.oneCell' = true)
    (l : List α) (x : α) (i : Nat) (A : Option Addr) (c n : Nat) (hln : l.length = n) (hil : i ≤ n) (hnc : n ≤ c) (hbig : n + 1 ≤ maxLen) (hby : (n + 1) * bytes ≤ 140737488355328)
    (ho : a.eval (.tmp so) = .slice A n c) (hat : a.eval (.tmp sa) = .int .i64 (i : Int)) (hl : Lies size cells V V.heap.size A l)
    (X : Value) (h5 : ∀ (a' : Act) (w' : World) (t5 : TypeId), (∀ t, t ∉ [d0, d1, d2, d3, d4, d5, d6, d7, d8, d9, d10, d11, so] → a'.eval (.tmp t) = a.eval (.tmp t)) → Below V.heap.size V w' → (execOp a'.eval { dst := some d5, op := op5, type := T5, pos := p5, after := #[], guard := none }).run P w' = .ok (.value X) w')
    (hb0 : ∀ w' : World, (Instr.buildSlice T 0 #[]).run P w' = .ok (.slice (some ⟨w'.heap.size, 0, none⟩) 0 0) (w'.alloc (.cells #[] e)))
    (hb1 : ∀ w' : World, (Instr.buildSlice T 1 #[(0, X)]).run P w' = .ok (.slice (some ⟨w'.heap.size, 0, none⟩) 1 1) (w'.alloc (.cells (cells x).toArray e)))
    (hend : ∀ (v0 v1 v2 v3 v4 v5 v6 v7 v8 v9 v10 v11 : Value) (w' : World), Below V.heap.size V w' → w'.ownsRow V.heap.size e size v11 (n + 1) ((l.take i ++ x :: l.drop i).flatMap cells) →
      Q .normal (((((((((((((a.put (some d0) v0).put (some d1) v1).put (some d2) v2).put (some d3) v3).put (some d4) v4).put (some d5) v5).put (some d6) v6).put (some d7) v7).put (some d8) v8).put (some d9) v9).put (some d10) v10).put (some d11) v11).put (some so) v11) w') :
    (Code.region id (insOps T TI T5 d0 d1 d2 d3 d4 d5 d6 d7 d8 d9 d10 d11 so sa op5 p0 p1 p2 p3 p4 p5 p6 p7 p8 p9 p10 p11 p12).toArray true).wp P Q a V := by
  subst hln hnt
  have hdst : (insOps T TI T5 d0 d1 d2 d3 d4 d5 d6 d7 d8 d9 d10 d11 so sa op5 p0 p1 p2 p3 p4 p5 p6 p7 p8 p9 p10 p11 p12).map Oper.dst = [d0, d1, d2, d3, d4, d5, d6, d7, d8, d9, d10, d11, so].map some := rfl
  have hdn : ((insOps T TI T5 d0 d1 d2 d3 d4 d5 d6 d7 d8 d9 d10 d11 so sa op5 p0 p1 p2 p3 p4 p5 p6 p7 p8 p9 p10 p11 p12).map Oper.dst).Nodup := by
    rw [hdst]
    exact List.Pairwise.map some (fun a b h e => h (Option.some.inj e)) hd
  obtain ⟨L, hL⟩ : ∃ L, insOps T TI T5 d0 d1 d2 d3 d4 d5 d6 d7 d8 d9 d10 d11 so sa op5 p0 p1 p2 p3 p4 p5 p6 p7 p8 p9 p10 p11 p12 = L := ⟨_, rfl⟩
  obtain ⟨S1, hS1⟩ : ∃ S1, sliced A 0 i c size = S1 := ⟨_, rfl⟩
  obtain ⟨S2, hS2⟩ : ∃ S2, sliced A i l.length c size = S2 := ⟨_, rfl⟩
  have hL1 : ∃ A1, S1 = .slice A1 i c ∧ Lies size cells V V.heap.size A1 (l.take i) := by
    refine ⟨_, hS1.symm, fun hp => ?_⟩
    rw [List.length_take] at hp
    obtain ⟨b, o, rfl, hB, hc⟩ := hl (by omega)
    refine ⟨b, o, ?_, hB, fun k y hk => hc k y ?_⟩
    · rw [if_neg (by omega)]
      simp [Addr.add]
    · rw [List.getElem?_take] at hk
      split at hk
      · exact hk
      · cases hk
  have hL2 : ∃ A2, S2 = .slice A2 (l.length - i) (c - i) ∧ Lies size cells V V.heap.size A2 (l.drop i) := by
    refine ⟨_, hS2.symm, fun hp => ?_⟩
    rw [List.length_drop] at hp
    obtain ⟨b, o, rfl, hB, hc⟩ := hl (by omega)
    refine ⟨b, o + i * size, ?_, hB, fun k y hk j u hu => ?_⟩
    · rw [if_neg (by omega)]
      unfold Addr.add
      simp only [Option.map_some, Option.some.injEq]
      split <;> simp_all
    · rw [List.getElem?_drop] at hk
      have := hc (i + k) y hk j u hu
      rw [Nat.add_mul] at this
      rw [← this]
      congr 2
      omega
  have hte : P.underlying T = some (.slice (P.elem T)) := by rw [ht]; simp [Program.elem, ht]
  have hel : P.elem T = e := by simp [Program.elem, ht]
  have hsof : ∀ w' : World, (sizeOf (P.elem T)).run P w' = .ok size w' := fun w' => by rw [hel]; simp [sizeOf, typeInfo, hi, hz1]
  refine wp_region_steps hm (by kernel_rfl) (by rw [show List.filterMap _root_.id ((insOps T TI T5 d0 d1 d2 d3 d4 d5 d6 d7 d8 d9 d10 d11 so sa op5 p0 p1 p2 p3 p4 p5 p6 p7 p8 p9 p10 p11 p12).map Oper.dst) = [d0, d1, d2, d3, d4, d5, d6, d7, d8, d9, d10, d11, so] from rfl]; exact hd)
    (fun vals w' => ∃ x0 x1 x2 x3 x4 x5 x6 x7 x8 x9 x10 x11 x12 : Option Value, vals = [x0, x1, x2, x3, x4, x5, x6, x7, x8, x9, x10, x11, x12] ∧ InsG V e size cells l x i (.slice A l.length c) (.int .i64 (i : Int)) S1 S2 X x0 x1 x2 x3 x4 x5 x6 x7 x8 x9 x10 x11 x12 w') ?h0 ?hs ?he
  case h0 => exact ⟨none, none, none, none, none, none, none, none, none, none, none, none, none, rfl, ⟨(Below.refl _ _).drew, (fun _ hv => by cases hv), (fun _ hv => by cases hv), (fun _ hv => by cases hv), (fun _ hv => by cases hv), (fun _ hv => by cases hv), (fun _ hv => by cases hv), (fun _ hv => by cases hv), (fun _ hv _ => by cases hv), (fun _ hv _ => by cases hv), (fun _ hv _ => by cases hv), (fun _ hv _ => by cases hv), (fun _ hv => by cases hv), (fun _ hv => by cases hv)⟩⟩
  case he =>
    rintro vs w' hvs ⟨x0, x1, x2, x3, x4, x5, x6, x7, x8, x9, x10, x11, x12, hx, h⟩
    match vs, hvs, hx with
    | [v0, v1, v2, v3, v4, v5, v6, v7, v8, v9, v10, v11, v12], _, hx =>
      simp only [List.map_cons, List.map_nil, List.cons.injEq, and_true] at hx
      obtain ⟨rfl, rfl, rfl, rfl, rfl, rfl, rfl, rfl, rfl, rfl, rfl, rfl, rfl⟩ := hx
      obtain rfl : v11 = v12 := Option.some.inj (h.a12 _ rfl)
      exact hend v0 v1 v2 v3 v4 v5 v6 v7 v8 v9 v10 v11 w' h.below (h.r11 _ rfl)
  case hs =>
    rintro j o vals w' hoj hc hn hdep ⟨x0, x1, x2, x3, x4, x5, x6, x7, x8, x9, x10, x11, x12, rfl, h⟩ K hK
    have hE : ∀ (k : Nat) (t : Tmp) (v : Value), ([d0, d1, d2, d3, d4, d5, d6, d7, d8, d9, d10, d11, so])[k]? = some t → ([x0, x1, x2, x3, x4, x5, x6, x7, x8, x9, x10, x11, x12])[k]? = some (some v) → (putsR (slotsR (insOps T TI T5 d0 d1 d2 d3 d4 d5 d6 d7 d8 d9 d10 d11 so sa op5 p0 p1 p2 p3 p4 p5 p6 p7 p8 p9 p10 p11 p12) [x0, x1, x2, x3, x4, x5, x6, x7, x8, x9, x10, x11, x12]) a).eval (.tmp t) = v := fun k t v hk hv => by
      refine putsR_hit _ a k t v (by rw [slotsR_fst rfl]; exact apartR_of (by rw [show List.filterMap _root_.id ((insOps T TI T5 d0 d1 d2 d3 d4 d5 d6 d7 d8 d9 d10 d11 so sa op5 p0 p1 p2 p3 p4 p5 p6 p7 p8 p9 p10 p11 p12).map Oper.dst) = [d0, d1, d2, d3, d4, d5, d6, d7, d8, d9, d10, d11, so] from rfl]; exact hd)) ?_ (hsz t (List.mem_of_getElem? hk))
      unfold slotsR
      rw [List.getElem?_zip_eq_some, hdst, List.getElem?_map, hk]
      exact ⟨rfl, hv⟩
    have hM : ∀ t : Tmp, (∀ (k : Nat) (v : Value), ([d0, d1, d2, d3, d4, d5, d6, d7, d8, d9, d10, d11, so])[k]? = some t → ([x0, x1, x2, x3, x4, x5, x6, x7, x8, x9, x10, x11, x12])[k]? ≠ some (some v)) → (putsR (slotsR (insOps T TI T5 d0 d1 d2 d3 d4 d5 d6 d7 d8 d9 d10 d11 so sa op5 p0 p1 p2 p3 p4 p5 p6 p7 p8 p9 p10 p11 p12) [x0, x1, x2, x3, x4, x5, x6, x7, x8, x9, x10, x11, x12]) a).eval (.tmp t) = a.eval (.tmp t) := fun t ht => by
      refine putsR_miss _ a t fun v hm => ?_
      obtain ⟨k, h1, h2⟩ := slots_mem hm
      rw [hdst, List.getElem?_map] at h1
      obtain ⟨t', ht', e⟩ := Option.map_eq_some_iff.1 h1
      cases e
      exact ht k v ht' h2
    have hother : ∀ t, t ∉ [d0, d1, d2, d3, d4, d5, d6, d7, d8, d9, d10, d11, so] → (putsR (slotsR (insOps T TI T5 d0 d1 d2 d3 d4 d5 d6 d7 d8 d9 d10 d11 so sa op5 p0 p1 p2 p3 p4 p5 p6 p7 p8 p9 p10 p11 p12) [x0, x1, x2, x3, x4, x5, x6, x7, x8, x9, x10, x11, x12]) a).eval (.tmp t) = a.eval (.tmp t) := fun t ht => hM t fun k v hk => absurd (List.mem_of_getElem? hk) ht
    have hI : (putsR (slotsR (insOps T TI T5 d0 d1 d2 d3 d4 d5 d6 d7 d8 d9 d10 d11 so sa op5 p0 p1 p2 p3 p4 p5 p6 p7 p8 p9 p10 p11 p12) [x0, x1, x2, x3, x4, x5, x6, x7, x8, x9, x10, x11, x12]) a).eval (.tmp sa) = .int .i64 (i : Int) := (hother sa hda).trans hat
    have hO : x12 = none → (putsR (slotsR (insOps T TI T5 d0 d1 d2 d3 d4 d5 d6 d7 d8 d9 d10 d11 so sa op5 p0 p1 p2 p3 p4 p5 p6 p7 p8 p9 p10 p11 p12) [x0, x1, x2, x3, x4, x5, x6, x7, x8, x9, x10, x11, x12]) a).eval (.tmp so) = .slice A l.length c := fun h12 => (hM so fun k v hk hv => by
      have : k = 12 := nodup_at hd hk rfl
      subst this
      rw [h12] at hv
      cases hv).trans ho
    have cl : ∀ (p q : Nat) (oo : Oper) (gr : Ground) (v : Value), (insOps T TI T5 d0 d1 d2 d3 d4 d5 d6 d7 d8 d9 d10 d11 so sa op5 p0 p1 p2 p3 p4 p5 p6 p7 p8 p9 p10 p11 p12)[p]? = some oo → ({ on := q, ground := gr } : Edge) ∈ oo.after → Region.binds .any { on := q, ground := gr } = true → ([x0, x1, x2, x3, x4, x5, x6, x7, x8, x9, x10, x11, x12])[p]? = some (some v) → ∃ u, ([x0, x1, x2, x3, x4, x5, x6, x7, x8, x9, x10, x11, x12])[q]? = some (some u) := fun p q oo gr v h1 h2 h3 h4 => hc.closed p oo v h1 h4 _ h2 h3
    have c4a : ∀ v, x4 = some v → ∃ u, x0 = some u := fun v hv => by obtain ⟨u, hu⟩ := cl 4 0 _ .data v rfl (by simp) rfl (by rw [hv]; rfl); exact ⟨u, Option.some.inj hu⟩
    have c4b : ∀ v, x4 = some v → ∃ u, x3 = some u := fun v hv => by obtain ⟨u, hu⟩ := cl 4 3 _ .data v rfl (by simp) rfl (by rw [hv]; rfl); exact ⟨u, Option.some.inj hu⟩
    have c7a : ∀ v, x7 = some v → ∃ u, x4 = some u := fun v hv => by obtain ⟨u, hu⟩ := cl 7 4 _ .data v rfl (by simp) rfl (by rw [hv]; rfl); exact ⟨u, Option.some.inj hu⟩
    have c7b : ∀ v, x7 = some v → ∃ u, x6 = some u := fun v hv => by obtain ⟨u, hu⟩ := cl 7 6 _ .data v rfl (by simp) rfl (by rw [hv]; rfl); exact ⟨u, Option.some.inj hu⟩
    have c11a : ∀ v, x11 = some v → ∃ u, x7 = some u := fun v hv => by obtain ⟨u, hu⟩ := cl 11 7 _ .data v rfl (by simp) rfl (by rw [hv]; rfl); exact ⟨u, Option.some.inj hu⟩
    have c12a : ∀ v, x12 = some v → ∃ u, x11 = some u := fun v hv => by obtain ⟨u, hu⟩ := cl 12 11 _ .data v rfl (by simp) rfl (by rw [hv]; rfl); exact ⟨u, Option.some.inj hu⟩
    have c12b : ∀ v, x12 = some v → ∃ u, x1 = some u := fun v hv => by obtain ⟨u, hu⟩ := cl 12 1 _ .phase v rfl (by simp) rfl (by rw [hv]; rfl); exact ⟨u, Option.some.inj hu⟩
    have c12c : ∀ v, x12 = some v → ∃ u, x8 = some u := fun v hv => by obtain ⟨u, hu⟩ := cl 12 8 _ .phase v rfl (by simp) rfl (by rw [hv]; rfl); exact ⟨u, Option.some.inj hu⟩
    have none_of : ∀ {p q : Option Value}, (∀ v, p = some v → ∃ u, q = some u) → q = none → p = none := fun {p q} hpq hq => by
      cases hp : p with
      | none => rfl
      | some v => obtain ⟨u, hu⟩ := hpq v hp; rw [hq] at hu; cases hu
    have dd : ∀ (q : Nat) (gr : Ground) (oo : Oper), o = oo → ({ on := q, ground := gr } : Edge) ∈ oo.after → Region.binds .any { on := q, ground := gr } = true → ∃ u, ([x0, x1, x2, x3, x4, x5, x6, x7, x8, x9, x10, x11, x12])[q]? = some (some u) := fun q gr oo h1 h2 h3 => hdep _ (h1 ▸ h2) h3
    have hv : ∀ (k : Nat) (t : Tmp) (v : Value), ([d0, d1, d2, d3, d4, d5, d6, d7, d8, d9, d10, d11, so])[k]? = some t → ([x0, x1, x2, x3, x4, x5, x6, x7, x8, x9, x10, x11, x12])[k]? = some (some v) → (putsR (slotsR (insOps T TI T5 d0 d1 d2 d3 d4 d5 d6 d7 d8 d9 d10 d11 so sa op5 p0 p1 p2 p3 p4 p5 p6 p7 p8 p9 p10 p11 p12) [x0, x1, x2, x3, x4, x5, x6, x7, x8, x9, x10, x11, x12]) a).eval (.tmp t) = v := hE
    have hjl : j < 13 := by have := (List.getElem?_eq_some_iff.1 hoj).1; exact this
    have hVw := h.below.size
    generalize putsR (slotsR (insOps T TI T5 d0 d1 d2 d3 d4 d5 d6 d7 d8 d9 d10 d11 so sa op5 p0 p1 p2 p3 p4 p5 p6 p7 p8 p9 p10 p11 p12) [x0, x1, x2, x3, x4, x5, x6, x7, x8, x9, x10, x11, x12]) a = a' at *
    clear cl hE hM hc
    obtain rfl | rfl | rfl | rfl | rfl | rfl | rfl | rfl | rfl | rfl | rfl | rfl | rfl : j = 0 ∨ j = 1 ∨ j = 2 ∨ j = 3 ∨ j = 4 ∨ j = 5 ∨ j = 6 ∨ j = 7 ∨ j = 8 ∨ j = 9 ∨ j = 10 ∨ j = 11 ∨ j = 12 := by omega
    · have eo := Option.some.inj hoj
      subst eo
      obtain rfl : x0 = none := Option.some.inj hn
      obtain rfl : x4 = none := none_of c4a rfl
      obtain rfl : x7 = none := none_of c7a rfl
      obtain rfl : x11 = none := none_of c11a rfl
      refine step_value (v := .slice (some ⟨w'.heap.size, 0, none⟩) 0 0) (w' := w'.alloc (.cells #[] e)) rfl ?_ (hK _ _ ⟨some (.slice (some ⟨w'.heap.size, 0, none⟩) 0 0), x1, x2, x3, none, x5, x6, none, x8, x9, x10, none, x12, rfl, ⟨h.below.alloc hVw _, h.m1, h.m2, h.s3, h.k5, h.m8, h.m9, h.s10, (fun _ hv _ => by cases hv; exact World.ownsRow_made w' #[] 0 hVw (Nat.zero_le _) (by simp)), (fun _ hv _ => by cases hv), (fun v hv h7 => by obtain ⟨g, e1, e2, e3⟩ := h.b6 v hv h7; exact ⟨g, e1, e2.more _, fun v0 hv0 _ hg => by cases hv0; have := e2.inside; simp only [Value.ownBlock, Option.some.injEq] at hg; omega⟩), (fun _ hv _ => by cases hv), (fun _ hv => by cases hv), h.a12⟩⟩)
      · unfold execOp
        simp only [List.map_toArray, List.map_nil, Sem.run_bind, hb0, Result.andThen_ok, Sem.run_pure]
    · have eo := Option.some.inj hoj
      subst eo
      obtain rfl : x1 = none := Option.some.inj hn
      obtain rfl : x12 = none := none_of c12b rfl
      refine step_value (v := .slice A l.length c) (w' := w') rfl ?_ (hK _ _ ⟨x0, some (.slice A l.length c), x2, x3, x4, x5, x6, x7, x8, x9, x10, x11, none, rfl, ⟨h.below, (fun _ hv => by cases hv; rfl), h.m2, h.s3, h.k5, h.m8, h.m9, h.s10, h.r0, h.r4, h.b6, h.r7, h.r11, h.a12⟩⟩)
      · show Result.ok (Next.value (a'.eval (.tmp so))) w' = _
        rw [hO rfl]
    · have eo := Option.some.inj hoj
      subst eo
      obtain rfl : x2 = none := Option.some.inj hn
      refine step_value (v := .int .i64 (i : Int)) (w' := w') rfl ?_ (hK _ _ ⟨x0, x1, some (.int .i64 (i : Int)), x3, x4, x5, x6, x7, x8, x9, x10, x11, x12, rfl, ⟨h.below, h.m1, (fun _ hv => by cases hv; rfl), h.s3, h.k5, h.m8, h.m9, h.s10, h.r0, h.r4, h.b6, h.r7, h.r11, h.a12⟩⟩)
      · show Result.ok (Next.value (a'.eval (.tmp sa))) w' = _
        rw [hI]
    · have eo := Option.some.inj hoj
      subst eo
      obtain rfl : x3 = none := Option.some.inj hn
      obtain ⟨u1, hu1⟩ := dd 1 .data _ rfl (by simp) rfl
      obtain ⟨u2, hu2⟩ := dd 2 .data _ rfl (by simp) rfl
      have e1 := hv 1 d1 u1 rfl hu1
      have e2 := hv 2 d2 u2 rfl hu2
      rw [h.m1 u1 (Option.some.inj hu1)] at e1
      rw [h.m2 u2 (Option.some.inj hu2)] at e2
      refine step_value (v := S1) (w' := w') rfl ?_ (hK _ _ ⟨x0, x1, x2, some (S1), x4, x5, x6, x7, x8, x9, x10, x11, x12, rfl, ⟨h.below, h.m1, h.m2, (fun _ hv => by cases hv; rfl), h.k5, h.m8, h.m9, h.s10, h.r0, h.r4, h.b6, h.r7, h.r11, h.a12⟩⟩)
      · have r1 : (Instr.sliceAt T (.slice A l.length c) none (some (.int .i64 (i : Int))) none).run P w' = .ok S1 w' := by
          rw [run_sliceAt_slice w' T _ _ _ _ hte, run_slice_h w' T A l.length c hte .i64 (i : Int) (by omega) (by omega), hsof, Result.andThen_ok, Int.toNat_natCast, hS1]
        unfold execOp
        simp only [Option.map_some, Option.map_none, e1, e2, Sem.run_bind, r1, Result.andThen_ok, Sem.run_pure]
    · have eo := Option.some.inj hoj
      obtain rfl : x4 = none := Option.some.inj hn
      obtain rfl : x7 = none := none_of c7a rfl
      obtain rfl : x11 = none := none_of c11a rfl
      obtain ⟨v0, hu0⟩ := dd 0 .data _ eo.symm (by simp) rfl
      obtain ⟨u3, hu3⟩ := dd 3 .data _ eo.symm (by simp) rfl
      have e0 := hv 0 d0 v0 rfl hu0
      have e3 := hv 3 d3 u3 rfl hu3
      obtain rfl : x0 = some v0 := Option.some.inj hu0
      obtain ⟨A1, hA1, hl1⟩ := hL1
      rw [h.s3 u3 (Option.some.inj hu3), hA1] at e3
      subst eo
      refine step_app w' rfl (.tmp d0) (.tmp d3) T e rfl i0 z bytes ht hi hz0 hz1 hz2 hzs hpos hcl hone V.heap.size v0 0 [] e0 (h.r0 v0 rfl rfl) V.heap.size A1 c (l.take i) i (by rw [List.length_take]; omega) e3 (hl1.past h.below (Nat.le_refl _)) (by omega) (by rw [Nat.zero_add]; exact Nat.le_trans (Nat.mul_le_mul_right _ (by omega)) hby) hVw ?_
      intro v' w'' ho' hb' hg'
      rw [Nat.zero_add, List.nil_append] at ho'
      exact hK _ _ ⟨some v0, x1, x2, x3, some v', x5, x6, none, x8, x9, x10, none, x12, rfl, ⟨h.below.trans hb', h.m1, h.m2, h.s3, h.k5, h.m8, h.m9, h.s10, (fun _ _ h4 => by cases h4), (fun _ hv _ => by cases hv; exact ho'), (fun v hv h7 => by obtain ⟨g, e1, e2, e4⟩ := h.b6 v hv h7; exact ⟨g, e1, (hg'.block g e2.inside (fun hh => e4 v0 rfl rfl hh.symm)).trans e2, fun _ _ h4 => by cases h4⟩), (fun _ hv _ => by cases hv), (fun _ hv => by cases hv), h.a12⟩⟩
    · have eo := Option.some.inj hoj
      subst eo
      obtain rfl : x5 = none := Option.some.inj hn
      refine step_value (v := X) (w' := w') rfl ?_ (hK _ _ ⟨x0, x1, x2, x3, x4, some (X), x6, x7, x8, x9, x10, x11, x12, rfl, ⟨h.below, h.m1, h.m2, h.s3, (fun _ hv => by cases hv; rfl), h.m8, h.m9, h.s10, h.r0, h.r4, h.b6, h.r7, h.r11, h.a12⟩⟩)
      · exact h5 a' w' T5 hother h.below
    · have eo := Option.some.inj hoj
      obtain rfl : x6 = none := Option.some.inj hn
      obtain rfl : x7 = none := none_of c7b rfl
      obtain rfl : x11 = none := none_of c11a rfl
      obtain ⟨u5, hu5⟩ := dd 5 .data _ eo.symm (by simp) rfl
      have e5 := hv 5 d5 u5 rfl hu5
      rw [h.k5 u5 (Option.some.inj hu5)] at e5
      subst eo
      have hal : Below w'.heap.size w' (w'.alloc (.cells (cells x).toArray e)) := (Below.refl _ _).alloc (Nat.le_refl _) _
      refine step_value (v := .slice (some ⟨w'.heap.size, 0, none⟩) 1 1) (w' := w'.alloc (.cells (cells x).toArray e)) rfl ?_ (hK _ _ ⟨x0, x1, x2, x3, x4, x5, some (.slice (some ⟨w'.heap.size, 0, none⟩) 1 1), none, x8, x9, x10, none, x12, rfl, ⟨h.below.alloc hVw _, h.m1, h.m2, h.s3, h.k5, h.m8, h.m9, h.s10, (fun v hv h4 => own_below (h.r0 v hv h4) hal), (fun v hv h7 => own_below (h.r4 v hv h7) hal), (fun v hv h7 => by cases hv; exact ⟨_, rfl, Own.made w' e (cells x), fun v0 hv0 h4 hg => by have := ((h.r0 v0 hv0 h4).lt _ hg).2; omega⟩), (fun _ hv _ => by cases hv), (fun _ hv => by cases hv), h.a12⟩⟩)
      · unfold execOp
        simp only [List.map_toArray, List.map_cons, List.map_nil, e5, Sem.run_bind, hb1, Result.andThen_ok, Sem.run_pure]
    · have eo := Option.some.inj hoj
      obtain rfl : x7 = none := Option.some.inj hn
      obtain rfl : x11 = none := none_of c11a rfl
      obtain ⟨v4, hu4⟩ := dd 4 .data _ eo.symm (by simp) rfl
      obtain ⟨v6, hu6⟩ := dd 6 .data _ eo.symm (by simp) rfl
      have e4 := hv 4 d4 v4 rfl hu4
      have e6 := hv 6 d6 v6 rfl hu6
      obtain rfl : x4 = some v4 := Option.some.inj hu4
      obtain rfl : x6 = some v6 := Option.some.inj hu6
      obtain ⟨g, rfl, hog, _⟩ := h.b6 v6 rfl rfl
      subst eo
      have hlx : Lies size cells w' (g + 1) (some ⟨g, 0, none⟩) [x] := fun _ => by
        refine ⟨g, 0, rfl, by omega, fun k y hk j u hu => ?_⟩
        match k, hk with
        | 0, hk =>
          obtain rfl : x = y := by simpa using hk
          rw [show (0 : Nat) + 0 * size + j = j by omega, hog.at_ j]
          exact hu
      refine step_app w' rfl (.tmp d4) (.tmp d6) T e rfl i0 z bytes ht hi hz0 hz1 hz2 hzs hpos hcl hone V.heap.size v4 i _ e4 (h.r4 v4 rfl rfl) (g + 1) (some ⟨g, 0, none⟩) 1 [x] 1 rfl e6 hlx (by omega) (Nat.le_trans (Nat.mul_le_mul_right _ (by omega)) hby) hVw ?_
      intro v' w'' ho' hb' hg'
      rw [← List.flatMap_append] at ho'
      exact hK _ _ ⟨x0, x1, x2, x3, some v4, x5, some (.slice (some ⟨g, 0, none⟩) 1 1), some v', x8, x9, x10, none, x12, rfl, ⟨h.below.trans hb', h.m1, h.m2, h.s3, h.k5, h.m8, h.m9, h.s10, (fun _ _ h4 => by cases h4), (fun _ _ h7 => by cases h7), (fun _ _ h7 => by cases h7), (fun _ hv _ => by cases hv; exact ho'), (fun _ hv => by cases hv), h.a12⟩⟩
    · have eo := Option.some.inj hoj
      subst eo
      obtain rfl : x8 = none := Option.some.inj hn
      obtain rfl : x12 = none := none_of c12c rfl
      refine step_value (v := .slice A l.length c) (w' := w') rfl ?_ (hK _ _ ⟨x0, x1, x2, x3, x4, x5, x6, x7, some (.slice A l.length c), x9, x10, x11, none, rfl, ⟨h.below, h.m1, h.m2, h.s3, h.k5, (fun _ hv => by cases hv; rfl), h.m9, h.s10, h.r0, h.r4, h.b6, h.r7, h.r11, h.a12⟩⟩)
      · show Result.ok (Next.value (a'.eval (.tmp so))) w' = _
        rw [hO rfl]
    · have eo := Option.some.inj hoj
      subst eo
      obtain rfl : x9 = none := Option.some.inj hn
      refine step_value (v := .int .i64 (i : Int)) (w' := w') rfl ?_ (hK _ _ ⟨x0, x1, x2, x3, x4, x5, x6, x7, x8, some (.int .i64 (i : Int)), x10, x11, x12, rfl, ⟨h.below, h.m1, h.m2, h.s3, h.k5, h.m8, (fun _ hv => by cases hv; rfl), h.s10, h.r0, h.r4, h.b6, h.r7, h.r11, h.a12⟩⟩)
      · show Result.ok (Next.value (a'.eval (.tmp sa))) w' = _
        rw [hI]
    · have eo := Option.some.inj hoj
      subst eo
      obtain rfl : x10 = none := Option.some.inj hn
      obtain ⟨u8, hu8⟩ := dd 8 .data _ rfl (by simp) rfl
      obtain ⟨u9, hu9⟩ := dd 9 .data _ rfl (by simp) rfl
      have e8 := hv 8 d8 u8 rfl hu8
      have e9 := hv 9 d9 u9 rfl hu9
      rw [h.m8 u8 (Option.some.inj hu8)] at e8
      rw [h.m9 u9 (Option.some.inj hu9)] at e9
      refine step_value (v := S2) (w' := w') rfl ?_ (hK _ _ ⟨x0, x1, x2, x3, x4, x5, x6, x7, x8, x9, some (S2), x11, x12, rfl, ⟨h.below, h.m1, h.m2, h.s3, h.k5, h.m8, h.m9, (fun _ hv => by cases hv; rfl), h.r0, h.r4, h.b6, h.r7, h.r11, h.a12⟩⟩)
      · have r1 : (Instr.sliceAt T (.slice A l.length c) (some (.int .i64 (i : Int))) none none).run P w' = .ok S2 w' := by
          rw [run_sliceAt_slice w' T _ _ _ _ hte, run_slice_l w' T A l.length c hte .i64 (i : Int) (by omega) (by omega), hsof, Result.andThen_ok, Int.toNat_natCast, hS2]
        unfold execOp
        simp only [Option.map_some, Option.map_none, e8, e9, Sem.run_bind, r1, Result.andThen_ok, Sem.run_pure]
    · have eo := Option.some.inj hoj
      obtain rfl : x11 = none := Option.some.inj hn
      obtain rfl : x12 = none := none_of c12a rfl
      obtain ⟨v7, hu7⟩ := dd 7 .data _ eo.symm (by simp) rfl
      obtain ⟨u10, hu10⟩ := dd 10 .data _ eo.symm (by simp) rfl
      have e7 := hv 7 d7 v7 rfl hu7
      have e10 := hv 10 d10 u10 rfl hu10
      obtain rfl : x7 = some v7 := Option.some.inj hu7
      obtain ⟨A2, hA2, hl2⟩ := hL2
      rw [h.s10 u10 (Option.some.inj hu10), hA2] at e10
      subst eo
      refine step_app w' rfl (.tmp d7) (.tmp d10) T e rfl i0 z bytes ht hi hz0 hz1 hz2 hzs hpos hcl hone V.heap.size v7 (i + 1) _ e7 (h.r7 v7 rfl rfl) V.heap.size A2 (c - i) (l.drop i) (l.length - i) (by rw [List.length_drop]) e10 (hl2.past h.below (Nat.le_refl _)) (by omega) (Nat.le_trans (Nat.mul_le_mul_right _ (by omega)) hby) hVw ?_
      intro v' w'' ho' hb' hg'
      rw [← List.flatMap_append, List.append_assoc, show i + 1 + (l.length - i) = l.length + 1 by omega] at ho'
      exact hK _ _ ⟨x0, x1, x2, x3, x4, x5, x6, some v7, x8, x9, x10, some v', none, rfl, ⟨h.below.trans hb', h.m1, h.m2, h.s3, h.k5, h.m8, h.m9, h.s10, (fun v hv h4 => by obtain ⟨u, hu⟩ := c7a v7 rfl; rw [h4] at hu; cases hu), (fun _ _ h7 => by cases h7), (fun _ _ h7 => by cases h7), (fun _ _ h11 => by cases h11), (fun _ hv => by cases hv; exact ho'), (fun _ hv => by cases hv)⟩⟩
    · have eo := Option.some.inj hoj
      obtain rfl : x12 = none := Option.some.inj hn
      obtain ⟨v11, hu11⟩ := dd 11 .data _ eo.symm (by simp) rfl
      have e11 := hv 11 d11 v11 rfl hu11
      obtain rfl : x11 = some v11 := Option.some.inj hu11
      subst eo
      refine step_value (v := v11) (w' := w') rfl ?_ (hK _ _ ⟨x0, x1, x2, x3, x4, x5, x6, x7, x8, x9, x10, some v11, some v11, rfl, ⟨h.below, h.m1, h.m2, h.s3, h.k5, h.m8, h.m9, h.s10, h.r0, h.r4, h.b6, h.r7, h.r11, (fun _ hv => by cases hv; rfl)⟩⟩)
      · show Result.ok (Next.value (a'.eval (.tmp d11))) w' = _
        rw [e11]
end
theorem load_own {P : Program} {w : World} {g : Nat} {t ty : TypeId} {l : List Value} {d : TypeDesc} (h : Own w g t l) (hu : P.underlying ty = some d) (hd : (match d with | .struct _ | .array _ _ => true | _ => false) = true) (hi : (P.info? ty).map (·.size) = some l.length) :
    (Instr.loadAt ty (.pointer (some ⟨g, 0, none⟩))).run P w = .ok (.agg l.toArray) w := by
  simp only [Instr.loadAt, Instr.sureAddr, Sem.run_bind, Sem.run_pure, Result.andThen_ok]
  exact run_loadVar_row w g t ty l.toArray (0, 0) d h hu hd (by simpa using hi)
/-- the new one is read from a variable -/
theorem load_op {P : Program} {a a' : Act} {V w' : World} {g sb : Nat} {tx ty T5 : TypeId} {l : List Value} {d : TypeDesc} {d5 : Tmp} {p5 : String} (hs : a'.eval (.tmp sb) = a.eval (.tmp sb)) (ha : a.eval (.tmp sb) = .pointer (some ⟨g, 0, none⟩)) (h : Own V g tx l) (hb : Below V.heap.size V w')
    (hu : P.underlying ty = some d) (hd : (match d with | .struct _ | .array _ _ => true | _ => false) = true) (hi : (P.info? ty).map (·.size) = some l.length) :
    (execOp a'.eval { dst := some d5, op := .load ty (.tmp sb), type := T5, pos := p5, after := #[], guard := none }).run P w' = .ok (.value (.agg l.toArray)) w' := by
  unfold execOp
  simp only [hs, ha, Sem.run_bind, load_own (h.past hb h.inside) hu hd hi, Result.andThen_ok, Sem.run_pure]
end Go.Proofs.Ytfelpjacccclkaa
namespace Go.Proofs.Ytfelpjacccclkaa
open Go Go.RowKit

/-- the operations of the region: T the slice's type, 'so' its slot, 'sa' the place's, op5 what makes the new one -/
abbrev insOpsR (T TI T5 : TypeId) (d0 d1 d2 d3 d4 d5 d6 d7 d8 d9 d10 d11 so sa sr : Tmp) (op5 : Op) (p0 p1 p2 p3 p4 p5 p6 p7 p8 p9 p10 p11 p12 : String) : List Oper :=
  [{ dst := some d0, op := .buildSlice T 0 #[], type := T, pos := p0, after := #[], guard := none },
   { dst := some d1, op := .move (.tmp so), type := T, pos := p1, after := #[], guard := none },
   { dst := some d2, op := .move (.tmp sa), type := TI, pos := p2, after := #[], guard := none },
   { dst := some d3, op := .slice T (.tmp d1) none (some (.tmp d2)) none, type := T, pos := p3, after := #[{ on := 1, ground := .data }, { on := 2, ground := .data }], guard := none },
   { dst := some d4, op := .call { callee := .builtin .append, args := #[.tmp d0, .tmp d3], argTypes := #[T, T] }, type := T, pos := p4, after := #[{ on := 0, ground := .data }, { on := 3, ground := .data }], guard := none },
   { dst := some d5, op := op5, type := T5, pos := p5, after := #[], guard := none },
   { dst := some d6, op := .buildSlice T 1 #[(0, .tmp d5)], type := T, pos := p6, after := #[{ on := 5, ground := .data }], guard := none },
   { dst := some d7, op := .call { callee := .builtin .append, args := #[.tmp d4, .tmp d6], argTypes := #[T, T] }, type := T, pos := p7, after := #[{ on := 4, ground := .data }, { on := 6, ground := .data }, { on := 4, ground := .chain }], guard := none },
   { dst := some d8, op := .move (.tmp so), type := T, pos := p8, after := #[], guard := none },
   { dst := some d9, op := .move (.tmp sa), type := TI, pos := p9, after := #[], guard := none },
   { dst := some d10, op := .slice T (.tmp d8) (some (.tmp d9)) none none, type := T, pos := p10, after := #[{ on := 8, ground := .data }, { on := 9, ground := .data }], guard := none },
   { dst := some d11, op := .call { callee := .builtin .append, args := #[.tmp d7, .tmp d10], argTypes := #[T, T] }, type := T, pos := p11, after := #[{ on := 7, ground := .data }, { on := 10, ground := .data }, { on := 7, ground := .chain }], guard := none },
   { dst := some sr, op := .assign (.tmp d11), type := T, pos := p12, after := #[{ on := 11, ground := .data }, { on := 11, ground := .chain }, { on := 0, ground := .phase }, { on := 1, ground := .phase }, { on := 2, ground := .phase }, { on := 3, ground := .phase }, { on := 4, ground := .phase }, { on := 5, ground := .phase }, { on := 6, ground := .phase }, { on := 7, ground := .phase }, { on := 8, ground := .phase }, { on := 9, ground := .phase }, { on := 10, ground := .phase }, { on := 11, ground := .phase }], guard := none }]
section
variable {P : Program} {α : Type} {size : Nat} {cells : α → List Value}
set_option maxRecDepth 100000 in
set_option maxHeartbeats 3200000 in
/-- **the three appends**, in whatever order: the new row lies in memory of its own -/
theorem wp_insR {id : Nat} {Q : Exit → Act → World → Prop} {a : Act} {V : World} (hm : P.follows .mixedOrders = true) {T TI T5 e : TypeId} {d0 d1 d2 d3 d4 d5 d6 d7 d8 d9 d10 d11 so sa sr : Tmp} {op5 : Op} {p0 p1 p2 p3 p4 p5 p6 p7 p8 p9 p10 p11 p12 : String}
    (hd : [d0, d1, d2, d3, d4, d5, d6, d7, d8, d9, d10, d11, sr].Nodup) (hda : sa ∉ [d0, d1, d2, d3, d4, d5, d6, d7, d8, d9, d10, d11, sr]) (hdo : so ∉ [d0, d1, d2, d3, d4, d5, d6, d7, d8, d9, d10, d11, sr]) (nt : Nat) (hnt : a.tmps.size = nt) (hsz : ∀ d ∈ [d0, d1, d2, d3, d4, d5, d6, d7, d8, d9, d10, d11, sr], d < nt)
    (i0 : TypeInfo) (z : Value) (bytes : Nat) (ht : P.underlying T = some (.slice e)) (hi : P.info? e = some i0) (hz0 : i0.zero = some z) (hz1 : i0.size = size) (hz2 : i0.bytes = bytes) (hzs : z.cells.size = size) (hpos : 0 < size) (hcl : ∀ x, (cells x).length = size) (hone : ∀ x, ∀ u ∈ cells x, u.oneCell' = true)
    (l : List α) (x : α) (i : Nat) (A : Option Addr) (c n : Nat) (hln : l.length = n) (hil : i ≤ n) (hnc : n ≤ c) (hbig : n + 1 ≤ maxLen) (hby : (n + 1) * bytes ≤ 140737488355328)
    (ho : a.eval (.tmp so) = .slice A n c) (hat : a.eval (.tmp sa) = .int .i64 (i : Int)) (hl : Lies size cells V V.heap.size A l)
    (X : Value) (h5 : ∀ (a' : Act) (w' : World) (t5 : TypeId), (∀ t, t ∉ [d0, d1, d2, d3, d4, d5, d6, d7, d8, d9, d10, d11, sr] → a'.eval (.tmp t) = a.eval (.tmp t)) → Below V.heap.size V w' → (execOp a'.eval { dst := some d5, op := op5, type := T5, pos := p5, after := #[], guard := none }).run P w' = .ok (.value X) w')
    (hb0 : ∀ w' : World, (Instr.buildSlice T 0 #[]).run P w' = .ok (.slice (some ⟨w'.heap.size, 0, none⟩) 0 0) (w'.alloc (.cells #[] e)))
    (hb1 : ∀ w' : World, (Instr.buildSlice T 1 #[(0, X)]).run P w' = .ok (.slice (some ⟨w'.heap.size, 0, none⟩) 1 1) (w'.alloc (.cells (cells x).toArray e)))
    (hend : ∀ (v0 v1 v2 v3 v4 v5 v6 v7 v8 v9 v10 v11 : Value) (w' : World), Below V.heap.size V w' → w'.ownsRow V.heap.size e size v11 (n + 1) ((l.take i ++ x :: l.drop i).flatMap cells) →
      Q .normal (((((((((((((a.put (some d0) v0).put (some d1) v1).put (some d2) v2).put (some d3) v3).put (some d4) v4).put (some d5) v5).put (some d6) v6).put (some d7) v7).put (some d8) v8).put (some d9) v9).put (some d10) v10).put (some d11) v11).put (some sr) v11) w') :
    (Code.region id (insOpsR T TI T5 d0 d1 d2 d3 d4 d5 d6 d7 d8 d9 d10 d11 so sa sr op5 p0 p1 p2 p3 p4 p5 p6 p7 p8 p9 p10 p11 p12).toArray true).wp P Q a V := by
  subst hln hnt
  have hdst : (insOpsR T TI T5 d0 d1 d2 d3 d4 d5 d6 d7 d8 d9 d10 d11 so sa sr op5 p0 p1 p2 p3 p4 p5 p6 p7 p8 p9 p10 p11 p12).map Oper.dst = [d0, d1, d2, d3, d4, d5, d6, d7, d8, d9, d10, d11, sr].map some := rfl
  have hdn : ((insOpsR T TI T5 d0 d1 d2 d3 d4 d5 d6 d7 d8 d9 d10 d11 so sa sr op5 p0 p1 p2 p3 p4 p5 p6 p7 p8 p9 p10 p11 p12).map Oper.dst).Nodup := by
    rw [hdst]
    exact List.Pairwise.map some (fun a b h e => h (Option.some.inj e)) hd
  obtain ⟨L, hL⟩ : ∃ L, insOpsR T TI T5 d0 d1 d2 d3 d4 d5 d6 d7 d8 d9 d10 d11 so sa sr op5 p0 p1 p2 p3 p4 p5 p6 p7 p8 p9 p10 p11 p12 = L := ⟨_, rfl⟩
  obtain ⟨S1, hS1⟩ : ∃ S1, sliced A 0 i c size = S1 := ⟨_, rfl⟩
  obtain ⟨S2, hS2⟩ : ∃ S2, sliced A i l.length c size = S2 := ⟨_, rfl⟩
  have hL1 : ∃ A1, S1 = .slice A1 i c ∧ Lies size cells V V.heap.size A1 (l.take i) := by
    refine ⟨_, hS1.symm, fun hp => ?_⟩
    rw [List.length_take] at hp
    obtain ⟨b, o, rfl, hB, hc⟩ := hl (by omega)
    refine ⟨b, o, ?_, hB, fun k y hk => hc k y ?_⟩
    · rw [if_neg (by omega)]
      simp [Addr.add]
    · rw [List.getElem?_take] at hk
      split at hk
      · exact hk
      · cases hk
  have hL2 : ∃ A2, S2 = .slice A2 (l.length - i) (c - i) ∧ Lies size cells V V.heap.size A2 (l.drop i) := by
    refine ⟨_, hS2.symm, fun hp => ?_⟩
    rw [List.length_drop] at hp
    obtain ⟨b, o, rfl, hB, hc⟩ := hl (by omega)
    refine ⟨b, o + i * size, ?_, hB, fun k y hk j u hu => ?_⟩
    · rw [if_neg (by omega)]
      unfold Addr.add
      simp only [Option.map_some, Option.some.injEq]
      split <;> simp_all
    · rw [List.getElem?_drop] at hk
      have := hc (i + k) y hk j u hu
      rw [Nat.add_mul] at this
      rw [← this]
      congr 2
      omega
  have hte : P.underlying T = some (.slice (P.elem T)) := by rw [ht]; simp [Program.elem, ht]
  have hel : P.elem T = e := by simp [Program.elem, ht]
  have hsof : ∀ w' : World, (sizeOf (P.elem T)).run P w' = .ok size w' := fun w' => by rw [hel]; simp [sizeOf, typeInfo, hi, hz1]
  refine wp_region_steps hm (by kernel_rfl) (by rw [show List.filterMap _root_.id ((insOpsR T TI T5 d0 d1 d2 d3 d4 d5 d6 d7 d8 d9 d10 d11 so sa sr op5 p0 p1 p2 p3 p4 p5 p6 p7 p8 p9 p10 p11 p12).map Oper.dst) = [d0, d1, d2, d3, d4, d5, d6, d7, d8, d9, d10, d11, sr] from rfl]; exact hd)
    (fun vals w' => ∃ x0 x1 x2 x3 x4 x5 x6 x7 x8 x9 x10 x11 x12 : Option Value, vals = [x0, x1, x2, x3, x4, x5, x6, x7, x8, x9, x10, x11, x12] ∧ InsG V e size cells l x i (.slice A l.length c) (.int .i64 (i : Int)) S1 S2 X x0 x1 x2 x3 x4 x5 x6 x7 x8 x9 x10 x11 x12 w') ?h0 ?hs ?he
  case h0 => exact ⟨none, none, none, none, none, none, none, none, none, none, none, none, none, rfl, ⟨(Below.refl _ _).drew, (fun _ hv => by cases hv), (fun _ hv => by cases hv), (fun _ hv => by cases hv), (fun _ hv => by cases hv), (fun _ hv => by cases hv), (fun _ hv => by cases hv), (fun _ hv => by cases hv), (fun _ hv _ => by cases hv), (fun _ hv _ => by cases hv), (fun _ hv _ => by cases hv), (fun _ hv _ => by cases hv), (fun _ hv => by cases hv), (fun _ hv => by cases hv)⟩⟩
  case he =>
    rintro vs w' hvs ⟨x0, x1, x2, x3, x4, x5, x6, x7, x8, x9, x10, x11, x12, hx, h⟩
    match vs, hvs, hx with
    | [v0, v1, v2, v3, v4, v5, v6, v7, v8, v9, v10, v11, v12], _, hx =>
      simp only [List.map_cons, List.map_nil, List.cons.injEq, and_true] at hx
      obtain ⟨rfl, rfl, rfl, rfl, rfl, rfl, rfl, rfl, rfl, rfl, rfl, rfl, rfl⟩ := hx
      obtain rfl : v11 = v12 := Option.some.inj (h.a12 _ rfl)
      exact hend v0 v1 v2 v3 v4 v5 v6 v7 v8 v9 v10 v11 w' h.below (h.r11 _ rfl)
  case hs =>
    rintro j o vals w' hoj hc hn hdep ⟨x0, x1, x2, x3, x4, x5, x6, x7, x8, x9, x10, x11, x12, rfl, h⟩ K hK
    have hE : ∀ (k : Nat) (t : Tmp) (v : Value), ([d0, d1, d2, d3, d4, d5, d6, d7, d8, d9, d10, d11, sr])[k]? = some t → ([x0, x1, x2, x3, x4, x5, x6, x7, x8, x9, x10, x11, x12])[k]? = some (some v) → (putsR (slotsR (insOpsR T TI T5 d0 d1 d2 d3 d4 d5 d6 d7 d8 d9 d10 d11 so sa sr op5 p0 p1 p2 p3 p4 p5 p6 p7 p8 p9 p10 p11 p12) [x0, x1, x2, x3, x4, x5, x6, x7, x8, x9, x10, x11, x12]) a).eval (.tmp t) = v := fun k t v hk hv => by
      refine putsR_hit _ a k t v (by rw [slotsR_fst rfl]; exact apartR_of (by rw [show List.filterMap _root_.id ((insOpsR T TI T5 d0 d1 d2 d3 d4 d5 d6 d7 d8 d9 d10 d11 so sa sr op5 p0 p1 p2 p3 p4 p5 p6 p7 p8 p9 p10 p11 p12).map Oper.dst) = [d0, d1, d2, d3, d4, d5, d6, d7, d8, d9, d10, d11, sr] from rfl]; exact hd)) ?_ (hsz t (List.mem_of_getElem? hk))
      unfold slotsR
      rw [List.getElem?_zip_eq_some, hdst, List.getElem?_map, hk]
      exact ⟨rfl, hv⟩
    have hM : ∀ t : Tmp, (∀ (k : Nat) (v : Value), ([d0, d1, d2, d3, d4, d5, d6, d7, d8, d9, d10, d11, sr])[k]? = some t → ([x0, x1, x2, x3, x4, x5, x6, x7, x8, x9, x10, x11, x12])[k]? ≠ some (some v)) → (putsR (slotsR (insOpsR T TI T5 d0 d1 d2 d3 d4 d5 d6 d7 d8 d9 d10 d11 so sa sr op5 p0 p1 p2 p3 p4 p5 p6 p7 p8 p9 p10 p11 p12) [x0, x1, x2, x3, x4, x5, x6, x7, x8, x9, x10, x11, x12]) a).eval (.tmp t) = a.eval (.tmp t) := fun t ht => by
      refine putsR_miss _ a t fun v hm => ?_
      obtain ⟨k, h1, h2⟩ := slots_mem hm
      rw [hdst, List.getElem?_map] at h1
      obtain ⟨t', ht', e⟩ := Option.map_eq_some_iff.1 h1
      cases e
      exact ht k v ht' h2
    have hother : ∀ t, t ∉ [d0, d1, d2, d3, d4, d5, d6, d7, d8, d9, d10, d11, sr] → (putsR (slotsR (insOpsR T TI T5 d0 d1 d2 d3 d4 d5 d6 d7 d8 d9 d10 d11 so sa sr op5 p0 p1 p2 p3 p4 p5 p6 p7 p8 p9 p10 p11 p12) [x0, x1, x2, x3, x4, x5, x6, x7, x8, x9, x10, x11, x12]) a).eval (.tmp t) = a.eval (.tmp t) := fun t ht => hM t fun k v hk => absurd (List.mem_of_getElem? hk) ht
    have hI : (putsR (slotsR (insOpsR T TI T5 d0 d1 d2 d3 d4 d5 d6 d7 d8 d9 d10 d11 so sa sr op5 p0 p1 p2 p3 p4 p5 p6 p7 p8 p9 p10 p11 p12) [x0, x1, x2, x3, x4, x5, x6, x7, x8, x9, x10, x11, x12]) a).eval (.tmp sa) = .int .i64 (i : Int) := (hother sa hda).trans hat
    have hO : x12 = none → (putsR (slotsR (insOpsR T TI T5 d0 d1 d2 d3 d4 d5 d6 d7 d8 d9 d10 d11 so sa sr op5 p0 p1 p2 p3 p4 p5 p6 p7 p8 p9 p10 p11 p12) [x0, x1, x2, x3, x4, x5, x6, x7, x8, x9, x10, x11, x12]) a).eval (.tmp so) = .slice A l.length c := fun _ => (hother so hdo).trans ho
    have cl : ∀ (p q : Nat) (oo : Oper) (gr : Ground) (v : Value), (insOpsR T TI T5 d0 d1 d2 d3 d4 d5 d6 d7 d8 d9 d10 d11 so sa sr op5 p0 p1 p2 p3 p4 p5 p6 p7 p8 p9 p10 p11 p12)[p]? = some oo → ({ on := q, ground := gr } : Edge) ∈ oo.after → Region.binds .any { on := q, ground := gr } = true → ([x0, x1, x2, x3, x4, x5, x6, x7, x8, x9, x10, x11, x12])[p]? = some (some v) → ∃ u, ([x0, x1, x2, x3, x4, x5, x6, x7, x8, x9, x10, x11, x12])[q]? = some (some u) := fun p q oo gr v h1 h2 h3 h4 => hc.closed p oo v h1 h4 _ h2 h3
    have c4a : ∀ v, x4 = some v → ∃ u, x0 = some u := fun v hv => by obtain ⟨u, hu⟩ := cl 4 0 _ .data v rfl (by simp) rfl (by rw [hv]; rfl); exact ⟨u, Option.some.inj hu⟩
    have c4b : ∀ v, x4 = some v → ∃ u, x3 = some u := fun v hv => by obtain ⟨u, hu⟩ := cl 4 3 _ .data v rfl (by simp) rfl (by rw [hv]; rfl); exact ⟨u, Option.some.inj hu⟩
    have c7a : ∀ v, x7 = some v → ∃ u, x4 = some u := fun v hv => by obtain ⟨u, hu⟩ := cl 7 4 _ .data v rfl (by simp) rfl (by rw [hv]; rfl); exact ⟨u, Option.some.inj hu⟩
    have c7b : ∀ v, x7 = some v → ∃ u, x6 = some u := fun v hv => by obtain ⟨u, hu⟩ := cl 7 6 _ .data v rfl (by simp) rfl (by rw [hv]; rfl); exact ⟨u, Option.some.inj hu⟩
    have c11a : ∀ v, x11 = some v → ∃ u, x7 = some u := fun v hv => by obtain ⟨u, hu⟩ := cl 11 7 _ .data v rfl (by simp) rfl (by rw [hv]; rfl); exact ⟨u, Option.some.inj hu⟩
    have c12a : ∀ v, x12 = some v → ∃ u, x11 = some u := fun v hv => by obtain ⟨u, hu⟩ := cl 12 11 _ .data v rfl (by simp) rfl (by rw [hv]; rfl); exact ⟨u, Option.some.inj hu⟩
    have c12b : ∀ v, x12 = some v → ∃ u, x1 = some u := fun v hv => by obtain ⟨u, hu⟩ := cl 12 1 _ .phase v rfl (by simp) rfl (by rw [hv]; rfl); exact ⟨u, Option.some.inj hu⟩
    have c12c : ∀ v, x12 = some v → ∃ u, x8 = some u := fun v hv => by obtain ⟨u, hu⟩ := cl 12 8 _ .phase v rfl (by simp) rfl (by rw [hv]; rfl); exact ⟨u, Option.some.inj hu⟩
    have none_of : ∀ {p q : Option Value}, (∀ v, p = some v → ∃ u, q = some u) → q = none → p = none := fun {p q} hpq hq => by
      cases hp : p with
      | none => rfl
      | some v => obtain ⟨u, hu⟩ := hpq v hp; rw [hq] at hu; cases hu
    have dd : ∀ (q : Nat) (gr : Ground) (oo : Oper), o = oo → ({ on := q, ground := gr } : Edge) ∈ oo.after → Region.binds .any { on := q, ground := gr } = true → ∃ u, ([x0, x1, x2, x3, x4, x5, x6, x7, x8, x9, x10, x11, x12])[q]? = some (some u) := fun q gr oo h1 h2 h3 => hdep _ (h1 ▸ h2) h3
    have hv : ∀ (k : Nat) (t : Tmp) (v : Value), ([d0, d1, d2, d3, d4, d5, d6, d7, d8, d9, d10, d11, sr])[k]? = some t → ([x0, x1, x2, x3, x4, x5, x6, x7, x8, x9, x10, x11, x12])[k]? = some (some v) → (putsR (slotsR (insOpsR T TI T5 d0 d1 d2 d3 d4 d5 d6 d7 d8 d9 d10 d11 so sa sr op5 p0 p1 p2 p3 p4 p5 p6 p7 p8 p9 p10 p11 p12) [x0, x1, x2, x3, x4, x5, x6, x7, x8, x9, x10, x11, x12]) a).eval (.tmp t) = v := hE
    have hjl : j < 13 := by have := (List.getElem?_eq_some_iff.1 hoj).1; exact this
    have hVw := h.below.size
    generalize putsR (slotsR (insOpsR T TI T5 d0 d1 d2 d3 d4 d5 d6 d7 d8 d9 d10 d11 so sa sr op5 p0 p1 p2 p3 p4 p5 p6 p7 p8 p9 p10 p11 p12) [x0, x1, x2, x3, x4, x5, x6, x7, x8, x9, x10, x11, x12]) a = a' at *
    clear cl hE hM hc
    obtain rfl | rfl | rfl | rfl | rfl | rfl | rfl | rfl | rfl | rfl | rfl | rfl | rfl : j = 0 ∨ j = 1 ∨ j = 2 ∨ j = 3 ∨ j = 4 ∨ j = 5 ∨ j = 6 ∨ j = 7 ∨ j = 8 ∨ j = 9 ∨ j = 10 ∨ j = 11 ∨ j = 12 := by omega
    · have eo := Option.some.inj hoj
      subst eo
      obtain rfl : x0 = none := Option.some.inj hn
      obtain rfl : x4 = none := none_of c4a rfl
      obtain rfl : x7 = none := none_of c7a rfl
      obtain rfl : x11 = none := none_of c11a rfl
      refine step_value (v := .slice (some ⟨w'.heap.size, 0, none⟩) 0 0) (w' := w'.alloc (.cells #[] e)) rfl ?_ (hK _ _ ⟨some (.slice (some ⟨w'.heap.size, 0, none⟩) 0 0), x1, x2, x3, none, x5, x6, none, x8, x9, x10, none, x12, rfl, ⟨h.below.alloc hVw _, h.m1, h.m2, h.s3, h.k5, h.m8, h.m9, h.s10, (fun _ hv _ => by cases hv; exact World.ownsRow_made w' #[] 0 hVw (Nat.zero_le _) (by simp)), (fun _ hv _ => by cases hv), (fun v hv h7 => by obtain ⟨g, e1, e2, e3⟩ := h.b6 v hv h7; exact ⟨g, e1, e2.more _, fun v0 hv0 _ hg => by cases hv0; have := e2.inside; simp only [Value.ownBlock, Option.some.injEq] at hg; omega⟩), (fun _ hv _ => by cases hv), (fun _ hv => by cases hv), h.a12⟩⟩)
      · unfold execOp
        simp only [List.map_toArray, List.map_nil, Sem.run_bind, hb0, Result.andThen_ok, Sem.run_pure]
    · have eo := Option.some.inj hoj
      subst eo
      obtain rfl : x1 = none := Option.some.inj hn
      obtain rfl : x12 = none := none_of c12b rfl
      refine step_value (v := .slice A l.length c) (w' := w') rfl ?_ (hK _ _ ⟨x0, some (.slice A l.length c), x2, x3, x4, x5, x6, x7, x8, x9, x10, x11, none, rfl, ⟨h.below, (fun _ hv => by cases hv; rfl), h.m2, h.s3, h.k5, h.m8, h.m9, h.s10, h.r0, h.r4, h.b6, h.r7, h.r11, h.a12⟩⟩)
      · show Result.ok (Next.value (a'.eval (.tmp so))) w' = _
        rw [hO rfl]
    · have eo := Option.some.inj hoj
      subst eo
      obtain rfl : x2 = none := Option.some.inj hn
      refine step_value (v := .int .i64 (i : Int)) (w' := w') rfl ?_ (hK _ _ ⟨x0, x1, some (.int .i64 (i : Int)), x3, x4, x5, x6, x7, x8, x9, x10, x11, x12, rfl, ⟨h.below, h.m1, (fun _ hv => by cases hv; rfl), h.s3, h.k5, h.m8, h.m9, h.s10, h.r0, h.r4, h.b6, h.r7, h.r11, h.a12⟩⟩)
      · show Result.ok (Next.value (a'.eval (.tmp sa))) w' = _
        rw [hI]
    · have eo := Option.some.inj hoj
      subst eo
      obtain rfl : x3 = none := Option.some.inj hn
      obtain ⟨u1, hu1⟩ := dd 1 .data _ rfl (by simp) rfl
      obtain ⟨u2, hu2⟩ := dd 2 .data _ rfl (by simp) rfl
      have e1 := hv 1 d1 u1 rfl hu1
      have e2 := hv 2 d2 u2 rfl hu2
      rw [h.m1 u1 (Option.some.inj hu1)] at e1
      rw [h.m2 u2 (Option.some.inj hu2)] at e2
      refine step_value (v := S1) (w' := w') rfl ?_ (hK _ _ ⟨x0, x1, x2, some (S1), x4, x5, x6, x7, x8, x9, x10, x11, x12, rfl, ⟨h.below, h.m1, h.m2, (fun _ hv => by cases hv; rfl), h.k5, h.m8, h.m9, h.s10, h.r0, h.r4, h.b6, h.r7, h.r11, h.a12⟩⟩)
      · have r1 : (Instr.sliceAt T (.slice A l.length c) none (some (.int .i64 (i : Int))) none).run P w' = .ok S1 w' := by
          rw [run_sliceAt_slice w' T _ _ _ _ hte, run_slice_h w' T A l.length c hte .i64 (i : Int) (by omega) (by omega), hsof, Result.andThen_ok, Int.toNat_natCast, hS1]
        unfold execOp
        simp only [Option.map_some, Option.map_none, e1, e2, Sem.run_bind, r1, Result.andThen_ok, Sem.run_pure]
    · have eo := Option.some.inj hoj
      obtain rfl : x4 = none := Option.some.inj hn
      obtain rfl : x7 = none := none_of c7a rfl
      obtain rfl : x11 = none := none_of c11a rfl
      obtain ⟨v0, hu0⟩ := dd 0 .data _ eo.symm (by simp) rfl
      obtain ⟨u3, hu3⟩ := dd 3 .data _ eo.symm (by simp) rfl
      have e0 := hv 0 d0 v0 rfl hu0
      have e3 := hv 3 d3 u3 rfl hu3
      obtain rfl : x0 = some v0 := Option.some.inj hu0
      obtain ⟨A1, hA1, hl1⟩ := hL1
      rw [h.s3 u3 (Option.some.inj hu3), hA1] at e3
      subst eo
      refine step_app w' rfl (.tmp d0) (.tmp d3) T e rfl i0 z bytes ht hi hz0 hz1 hz2 hzs hpos hcl hone V.heap.size v0 0 [] e0 (h.r0 v0 rfl rfl) V.heap.size A1 c (l.take i) i (by rw [List.length_take]; omega) e3 (hl1.past h.below (Nat.le_refl _)) (by omega) (by rw [Nat.zero_add]; exact Nat.le_trans (Nat.mul_le_mul_right _ (by omega)) hby) hVw ?_
      intro v' w'' ho' hb' hg'
      rw [Nat.zero_add, List.nil_append] at ho'
      exact hK _ _ ⟨some v0, x1, x2, x3, some v', x5, x6, none, x8, x9, x10, none, x12, rfl, ⟨h.below.trans hb', h.m1, h.m2, h.s3, h.k5, h.m8, h.m9, h.s10, (fun _ _ h4 => by cases h4), (fun _ hv _ => by cases hv; exact ho'), (fun v hv h7 => by obtain ⟨g, e1, e2, e4⟩ := h.b6 v hv h7; exact ⟨g, e1, (hg'.block g e2.inside (fun hh => e4 v0 rfl rfl hh.symm)).trans e2, fun _ _ h4 => by cases h4⟩), (fun _ hv _ => by cases hv), (fun _ hv => by cases hv), h.a12⟩⟩
    · have eo := Option.some.inj hoj
      subst eo
      obtain rfl : x5 = none := Option.some.inj hn
      refine step_value (v := X) (w' := w') rfl ?_ (hK _ _ ⟨x0, x1, x2, x3, x4, some (X), x6, x7, x8, x9, x10, x11, x12, rfl, ⟨h.below, h.m1, h.m2, h.s3, (fun _ hv => by cases hv; rfl), h.m8, h.m9, h.s10, h.r0, h.r4, h.b6, h.r7, h.r11, h.a12⟩⟩)
      · exact h5 a' w' T5 hother h.below
    · have eo := Option.some.inj hoj
      obtain rfl : x6 = none := Option.some.inj hn
      obtain rfl : x7 = none := none_of c7b rfl
      obtain rfl : x11 = none := none_of c11a rfl
      obtain ⟨u5, hu5⟩ := dd 5 .data _ eo.symm (by simp) rfl
      have e5 := hv 5 d5 u5 rfl hu5
      rw [h.k5 u5 (Option.some.inj hu5)] at e5
      subst eo
      have hal : Below w'.heap.size w' (w'.alloc (.cells (cells x).toArray e)) := (Below.refl _ _).alloc (Nat.le_refl _) _
      refine step_value (v := .slice (some ⟨w'.heap.size, 0, none⟩) 1 1) (w' := w'.alloc (.cells (cells x).toArray e)) rfl ?_ (hK _ _ ⟨x0, x1, x2, x3, x4, x5, some (.slice (some ⟨w'.heap.size, 0, none⟩) 1 1), none, x8, x9, x10, none, x12, rfl, ⟨h.below.alloc hVw _, h.m1, h.m2, h.s3, h.k5, h.m8, h.m9, h.s10, (fun v hv h4 => own_below (h.r0 v hv h4) hal), (fun v hv h7 => own_below (h.r4 v hv h7) hal), (fun v hv h7 => by cases hv; exact ⟨_, rfl, Own.made w' e (cells x), fun v0 hv0 h4 hg => by have := ((h.r0 v0 hv0 h4).lt _ hg).2; omega⟩), (fun _ hv _ => by cases hv), (fun _ hv => by cases hv), h.a12⟩⟩)
      · unfold execOp
        simp only [List.map_toArray, List.map_cons, List.map_nil, e5, Sem.run_bind, hb1, Result.andThen_ok, Sem.run_pure]
    · have eo := Option.some.inj hoj
      obtain rfl : x7 = none := Option.some.inj hn
      obtain rfl : x11 = none := none_of c11a rfl
      obtain ⟨v4, hu4⟩ := dd 4 .data _ eo.symm (by simp) rfl
      obtain ⟨v6, hu6⟩ := dd 6 .data _ eo.symm (by simp) rfl
      have e4 := hv 4 d4 v4 rfl hu4
      have e6 := hv 6 d6 v6 rfl hu6
      obtain rfl : x4 = some v4 := Option.some.inj hu4
      obtain rfl : x6 = some v6 := Option.some.inj hu6
      obtain ⟨g, rfl, hog, _⟩ := h.b6 v6 rfl rfl
      subst eo
      have hlx : Lies size cells w' (g + 1) (some ⟨g, 0, none⟩) [x] := fun _ => by
        refine ⟨g, 0, rfl, by omega, fun k y hk j u hu => ?_⟩
        match k, hk with
        | 0, hk =>
          obtain rfl : x = y := by simpa using hk
          rw [show (0 : Nat) + 0 * size + j = j by omega, hog.at_ j]
          exact hu
      refine step_app w' rfl (.tmp d4) (.tmp d6) T e rfl i0 z bytes ht hi hz0 hz1 hz2 hzs hpos hcl hone V.heap.size v4 i _ e4 (h.r4 v4 rfl rfl) (g + 1) (some ⟨g, 0, none⟩) 1 [x] 1 rfl e6 hlx (by omega) (Nat.le_trans (Nat.mul_le_mul_right _ (by omega)) hby) hVw ?_
      intro v' w'' ho' hb' hg'
      rw [← List.flatMap_append] at ho'
      exact hK _ _ ⟨x0, x1, x2, x3, some v4, x5, some (.slice (some ⟨g, 0, none⟩) 1 1), some v', x8, x9, x10, none, x12, rfl, ⟨h.below.trans hb', h.m1, h.m2, h.s3, h.k5, h.m8, h.m9, h.s10, (fun _ _ h4 => by cases h4), (fun _ _ h7 => by cases h7), (fun _ _ h7 => by cases h7), (fun _ hv _ => by cases hv; exact ho'), (fun _ hv => by cases hv), h.a12⟩⟩
    · have eo := Option.some.inj hoj
      subst eo
      obtain rfl : x8 = none := Option.some.inj hn
      obtain rfl : x12 = none := none_of c12c rfl
      refine step_value (v := .slice A l.length c) (w' := w') rfl ?_ (hK _ _ ⟨x0, x1, x2, x3, x4, x5, x6, x7, some (.slice A l.length c), x9, x10, x11, none, rfl, ⟨h.below, h.m1, h.m2, h.s3, h.k5, (fun _ hv => by cases hv; rfl), h.m9, h.s10, h.r0, h.r4, h.b6, h.r7, h.r11, h.a12⟩⟩)
      · show Result.ok (Next.value (a'.eval (.tmp so))) w' = _
        rw [hO rfl]
    · have eo := Option.some.inj hoj
      subst eo
      obtain rfl : x9 = none := Option.some.inj hn
      refine step_value (v := .int .i64 (i : Int)) (w' := w') rfl ?_ (hK _ _ ⟨x0, x1, x2, x3, x4, x5, x6, x7, x8, some (.int .i64 (i : Int)), x10, x11, x12, rfl, ⟨h.below, h.m1, h.m2, h.s3, h.k5, h.m8, (fun _ hv => by cases hv; rfl), h.s10, h.r0, h.r4, h.b6, h.r7, h.r11, h.a12⟩⟩)
      · show Result.ok (Next.value (a'.eval (.tmp sa))) w' = _
        rw [hI]
    · have eo := Option.some.inj hoj
      subst eo
      obtain rfl : x10 = none := Option.some.inj hn
      obtain ⟨u8, hu8⟩ := dd 8 .data _ rfl (by simp) rfl
      obtain ⟨u9, hu9⟩ := dd 9 .data _ rfl (by simp) rfl
      have e8 := hv 8 d8 u8 rfl hu8
      have e9 := hv 9 d9 u9 rfl hu9
      rw [h.m8 u8 (Option.some.inj hu8)] at e8
      rw [h.m9 u9 (Option.some.inj hu9)] at e9
      refine step_value (v := S2) (w' := w') rfl ?_ (hK _ _ ⟨x0, x1, x2, x3, x4, x5, x6, x7, x8, x9, some (S2), x11, x12, rfl, ⟨h.below, h.m1, h.m2, h.s3, h.k5, h.m8, h.m9, (fun _ hv => by cases hv; rfl), h.r0, h.r4, h.b6, h.r7, h.r11, h.a12⟩⟩)
      · have r1 : (Instr.sliceAt T (.slice A l.length c) (some (.int .i64 (i : Int))) none none).run P w' = .ok S2 w' := by
          rw [run_sliceAt_slice w' T _ _ _ _ hte, run_slice_l w' T A l.length c hte .i64 (i : Int) (by omega) (by omega), hsof, Result.andThen_ok, Int.toNat_natCast, hS2]
        unfold execOp
        simp only [Option.map_some, Option.map_none, e8, e9, Sem.run_bind, r1, Result.andThen_ok, Sem.run_pure]
    · have eo := Option.some.inj hoj
      obtain rfl : x11 = none := Option.some.inj hn
      obtain rfl : x12 = none := none_of c12a rfl
      obtain ⟨v7, hu7⟩ := dd 7 .data _ eo.symm (by simp) rfl
      obtain ⟨u10, hu10⟩ := dd 10 .data _ eo.symm (by simp) rfl
      have e7 := hv 7 d7 v7 rfl hu7
      have e10 := hv 10 d10 u10 rfl hu10
      obtain rfl : x7 = some v7 := Option.some.inj hu7
      obtain ⟨A2, hA2, hl2⟩ := hL2
      rw [h.s10 u10 (Option.some.inj hu10), hA2] at e10
      subst eo
      refine step_app w' rfl (.tmp d7) (.tmp d10) T e rfl i0 z bytes ht hi hz0 hz1 hz2 hzs hpos hcl hone V.heap.size v7 (i + 1) _ e7 (h.r7 v7 rfl rfl) V.heap.size A2 (c - i) (l.drop i) (l.length - i) (by rw [List.length_drop]) e10 (hl2.past h.below (Nat.le_refl _)) (by omega) (Nat.le_trans (Nat.mul_le_mul_right _ (by omega)) hby) hVw ?_
      intro v' w'' ho' hb' hg'
      rw [← List.flatMap_append, List.append_assoc, show i + 1 + (l.length - i) = l.length + 1 by omega] at ho'
      exact hK _ _ ⟨x0, x1, x2, x3, x4, x5, x6, some v7, x8, x9, x10, some v', none, rfl, ⟨h.below.trans hb', h.m1, h.m2, h.s3, h.k5, h.m8, h.m9, h.s10, (fun v hv h4 => by obtain ⟨u, hu⟩ := c7a v7 rfl; rw [h4] at hu; cases hu), (fun _ _ h7 => by cases h7), (fun _ _ h7 => by cases h7), (fun _ _ h11 => by cases h11), (fun _ hv => by cases hv; exact ho'), (fun _ hv => by cases hv)⟩⟩
    · have eo := Option.some.inj hoj
      obtain rfl : x12 = none := Option.some.inj hn
      obtain ⟨v11, hu11⟩ := dd 11 .data _ eo.symm (by simp) rfl
      have e11 := hv 11 d11 v11 rfl hu11
      obtain rfl : x11 = some v11 := Option.some.inj hu11
      subst eo
      refine step_value (v := v11) (w' := w') rfl ?_ (hK _ _ ⟨x0, x1, x2, x3, x4, x5, x6, x7, x8, x9, x10, some v11, some v11, rfl, ⟨h.below, h.m1, h.m2, h.s3, h.k5, h.m8, h.m9, h.s10, h.r0, h.r4, h.b6, h.r7, h.r11, (fun _ hv => by cases hv; rfl)⟩⟩)
      · show Result.ok (Next.value (a'.eval (.tmp d11))) w' = _
        rw [e11]
end
end Go.Proofs.Ytfelpjacccclkaa
namespace Go.Proofs.Ytfelpjacccclkaa
open Go Go.RowKit

theorem flc_len (f : Fl) : f.cells.length = 2 := rfl
theorem ret_row {w : World} {base : Nat} {v : Value} {l : List Fl} (h : w.ownsRow base 67 2 v l.length (l.flatMap Fl.cells)) : ∃ A c, v = .slice A l.length c ∧ l.length ≤ c ∧ Lies 2 Fl.cells w w.heap.size A l := by
  obtain ⟨A, c, e, h1, _, h2⟩ := lies_of_own (size := 2) (cells := Fl.cells) (l := l) (by decide) flc_len rfl h
  exact ⟨A, c, e, h1, h2⟩
def GivesF (base : Nat) (m : List Fl) (w : World) (e : Ending) (w' : World) : Prop := ∃ v, e = .returned v ∧ w'.ownsRow base 67 2 v m.length (m.flatMap Fl.cells) ∧ Below w.heap.size w w'
set_option maxRecDepth 100000 in
set_option maxHeartbeats 3200000 in
theorem without_any (A : Option Addr) (c : Nat) (l : List Fl) (n : ByteArray) (w : World) (hl : Lies 2 Fl.cells w w.heap.size A l) (hn : l.length ≤ 1099511627776) :
    Calls Try.prog 59 #[.slice A l.length c, .string n] w (GivesF w.heap.size (woF l n) w) := by
  obtain ⟨i0, hi, hz0, hz1, hz2⟩ := info_parts infoFl
  have HI := Lib.hid (And.intro Try.underlying22 (And.intro hi (And.intro hz0 (And.intro hz1 hz2))))
  have Hl := Lib.hid hl
  clear hl hi hz0 hz1 hz2
  go_enter Try.func59, Try.ntmps59
  go_wp2_with fail
  go_loopw [5, 10] (fun v i wr => ∃ k : Nat, i = .int .i64 (k : Int) ∧ k ≤ l.length ∧ wr.ownsRow w.heap.size 67 2 v (woF (l.take k) n).length ((woF (l.take k) n).flatMap Fl.cells) ∧ Below w.heap.size w wr)
    (fun _ i _ => l.length - (intOf i).toNat)
  case atStart => exact ⟨0, rfl, by omega, World.ownsRow_nil _ _ _ _, Below.refl _ _⟩
  case round =>
    obtain ⟨k, rfl, hk, hown, hb⟩ := hrel
    by_cases hlt : k < l.length
    · have hx : l[k]? = some l[k] := List.getElem?_eq_getElem hlt
      obtain ⟨b, o, rfl, hB, hxs⟩ := Hl.out (by omega)
      have x0 := (hb.cell (p := ⟨b, o + k * 2 + 0, none⟩) hB).trans (hxs k _ hx 0 _ rfl)
      have x1 := (hb.cell (p := ⟨b, o + k * 2 + 1, none⟩) hB).trans (hxs k _ hx 1 _ rfl)
      have hsn := woF_snoc n hx
      have hwl : (woF (l.take k) n).length ≤ k := Nat.le_trans (woF_len _ _) (List.length_take_le _ _)
      generalize l[k] = f at *
      simp only [Nat.add_zero] at x0
      obtain ⟨W, hW, bW, sW, oW⟩ := flbox wr f
      have f0 := oW.at_ 0
      have f1 := oW.at_ 1
      simp only [Fl.cells, List.getElem?_cons_zero, List.getElem?_cons_succ] at f0 f1
      have ho2 := Lib.hid (own_below (own_below hown bW) ((Below.refl _ _).alloc (Nat.le_refl _) (.cells #[.string f.n, .string f.d] 67)))
      have hLf := Lib.hid (fl_made W f)
      have HH := Lib.hid (And.intro (hb.trans (bW.mono hb.size)) (And.intro (own_below hown bW) hsn))
      have hbz := (hb.trans (bW.mono hb.size)).size
      have q0 : (0 : Int) ≤ (k : Int) := by omega
      have q1 : (k : Int) < (l.length : Int) := by omega
      clear hb hx hxs bW sW oW hown hsn
      by_cases hfn : f.n = n
      · have t1 : (f.n.toList == n.toList) = true := by rw [hfn]; exact beq_self_eq_true _
        have HF := Lib.hid hfn
        clear hfn hbz
        go_upto_region 5 with fail
        rw [← hW]
        clear hW
        go_wp2_with fail
        go_roundw
        case rel =>
          refine ⟨k + 1, by go_num, by omega, ?_, HH.out.1⟩
          rw [HH.out.2.2, if_pos HF.out]; exact HH.out.2.1
        case measure => simp [intOf]; omega
      · have t1 : (f.n.toList == n.toList) = false := beq_eq_false_iff_ne.2 (fun e => hfn (by rw [ByteArray.toList_eq, ByteArray.toList_eq] at e; exact bytes_eq.1 e))
        have HF := Lib.hid hfn
        clear hfn
        go_upto_region 5 with fail
        rw [← hW]
        clear hW
        go_wp2_with (at_builtin; refine wpList_append_lies (l := [f]) _ rfl (.tmp 18) (.tmp 20) 22 67 rfl i0 _ 32 HI.out.1 HI.out.2.1 HI.out.2.2.1 HI.out.2.2.2.1 HI.out.2.2.2.2 rfl (by decide) flc_len fl_one w.heap.size _ _ _ rfl ho2.out 1 rfl hLf.out ?m1 ?m2 ?m3 ?m4)
        case m1 => unfold maxLen; simp; omega
        case m2 => simp; omega
        case m3 => simp; omega
        case m4 =>
        intro v3 w3 ho3 hb3
        have H3 := Lib.hid (And.intro ho3 (((HH.out.1.alloc HH.out.1.size _)).trans hb3))
        clear ho3 hb3 hbz
        go_wp2_with fail
        go_roundw
        case rel =>
          refine ⟨k + 1, by go_num, by omega, ?_, H3.out.2⟩
          rw [HH.out.2.2, if_neg HF.out, List.flatMap_append, List.length_append]; exact H3.out.1
        case measure => simp [intOf]; omega
    · have hk2 : k = l.length := by omega
      have HH := Lib.hid (And.intro hb (And.intro hown hk2))
      clear hb hown hk2
      go_wp2_with fail
      go_ret
      refine ⟨_, rfl, ?_, HH.out.1⟩
      have h := HH.out.2.1
      rw [HH.out.2.2, List.take_length] at h
      exact h
end Go.Proofs.Ytfelpjacccclkaa
namespace Go.Proofs.Ytfelpjacccclkaa
open Go Go.RowKit

theorem bsF0 (w' : World) : (Instr.buildSlice 22 0 #[]).run Try.prog w' = .ok (.slice (some ⟨w'.heap.size, 0, none⟩) 0 0) (w'.alloc (.cells #[] 67)) := by kernel_rfl
theorem bsF1 (f : Fl) (w' : World) : (Instr.buildSlice 22 1 #[(0, .agg f.cells.toArray)]).run Try.prog w' = .ok (.slice (some ⟨w'.heap.size, 0, none⟩) 1 1) (w'.alloc (.cells f.cells.toArray 67)) := by kernel_rfl
def SmallF (m : List Fl) (n : ByteArray) (p : Nat) : Prop := ∀ (i : Nat) (f : Fl), i < p → m[i]? = some f → cmpN f.n n < 0
def BigF (m : List Fl) (n : ByteArray) (p : Nat) : Prop := ∀ f, m[p]? = some f → ¬ cmpN f.n n < 0
set_option maxRecDepth 100000 in
set_option maxHeartbeats 3200000 in
theorem with_any (A : Option Addr) (c : Nat) (l : List Fl) (x : Fl) (w : World) (hl : Lies 2 Fl.cells w w.heap.size A l) (hs : SortedF l) (hn : l.length ≤ 1000000000000) :
    Calls Try.prog 58 #[.slice A l.length c, x.val] w (GivesF w.heap.size (withF l x) w) := by
  obtain ⟨i0, hi, hz0, hz1, hz2⟩ := info_parts infoFl
  have HI := Lib.hid (And.intro Try.underlying22 (And.intro hi (And.intro hz0 (And.intro hz1 hz2))))
  obtain ⟨V, hV, bV, sV, oV⟩ := flbox w x
  have y1 := Lib.hid (without_any A c l x.n V (lies_keep hl bV) (by omega))
  rw [woF_take hs] at y1
  have hml := len_take (l := l) (n := x.n)
  have hms := sorted_take (n := x.n) hs
  have hmw := Lib.hid (show withF l x = putF (takeF l x.n) x from rfl)
  generalize takeF l x.n = m at *
  have f0 := oV.at_ 0
  simp only [Fl.cells, List.getElem?_cons_zero] at f0
  have HV := Lib.hid (And.intro bV (And.intro oV hms))
  unfold Fl.val
  clear hl hs hi hz0 hz1 hz2 bV sV oV hms
  go_enter Try.func58, Try.ntmps58
  go_upto_region 1 with fail
  rw [← hV]
  clear hV
  go_wp2_with fail
  refine y1.out.mono ?_
  rintro _ w1 ⟨v, rfl, ho1, b1⟩
  obtain ⟨A1, c1, rfl, hc1, hl1⟩ := ret_row ho1
  have H1 := Lib.hid (And.intro b1 (And.intro (HV.out.2.1.past b1 HV.out.2.1.inside) hl1))
  clear ho1 b1 hl1 y1 f0
  go_wp2_with fail
  go_loopw [5] (fun i wr => ∃ p : Nat, i = .int .i64 (p : Int) ∧ p ≤ m.length ∧ SmallF m x.n p ∧ Below w1.heap.size w1 wr)
    (fun i _ => m.length - (intOf i).toNat)
  case atStart => exact ⟨0, rfl, by omega, (fun i f hi => by omega), Below.refl _ _⟩
  case round =>
    obtain ⟨p, rfl, hp, hsm, hb⟩ := hrel
    have ox := H1.out.2.1.past hb H1.out.2.1.inside
    have f0 := ox.at_ 0
    simp only [Fl.cells, List.getElem?_cons_zero] at f0
    have q0 : (0 : Int) ≤ (p : Int) := by omega
    have stop : (hbig : BigF m x.n p) → RowKit.Hid (p = posF m x.n) := fun hbig => Lib.hid (pos_of HV.out.2.2 hp hsm hbig)
    by_cases hlt : p < m.length
    · have hx : m[p]? = some m[p] := List.getElem?_eq_getElem hlt
      obtain ⟨b, o, hA, hB, hxs⟩ := H1.out.2.2 (by omega)
      subst hA
      have x0 := (hb.cell (p := ⟨b, o + p * 2 + 0, none⟩) hB).trans (hxs p _ hx 0 _ rfl)
      generalize m[p] = f at *
      simp only [Nat.add_zero] at x0
      have q1 : (p : Int) < (m.length : Int) := by omega
      have t1 : decide (p < m.length) = true := by simpa using hlt
      have hlc := less_cmp f.n x.n
      by_cases hc : cmpN f.n x.n < 0
      · have t2 : Op.bytesLess f.n.toList x.n.toList = true := by rw [hlc]; exact decide_eq_true hc
        have HH := Lib.hid (And.intro hb (And.intro hsm (And.intro hx hc)))
        clear hb hsm hx hc hlc hxs ox stop
        go_wp2_with fail
        go_quiet (fail)
        go_wp2_with fail
        go_roundw
        case rel =>
          refine ⟨p + 1, by go_num, by omega, fun i g hi hg => ?_, below_draws HH.out.1 _⟩
          by_cases hip : i = p
          · subst hip
            rw [HH.out.2.2.1] at hg
            injection hg with hg
            rw [← hg]; exact HH.out.2.2.2
          · exact HH.out.2.1 i g (by omega) hg
        case measure => simp [intOf]; omega
      · have t2 : Op.bytesLess f.n.toList x.n.toList = false := by rw [hlc]; exact decide_eq_false hc
        have HE := stop (fun g hg => by rw [hx] at hg; injection hg with hg; rw [← hg]; exact hc)
        have HH := Lib.hid (And.intro hb ox)
        have hm3 : m.length ≤ 1000000000000 := by omega
        clear hb hsm hx hc hlc hxs ox stop
        go_wp2_with fail
        go_quiet (fail)
        go_upto_region 5 with fail
        have hb5 := below_draws HH.out.1 nq
        have HLV := Lib.hid (lies_keep H1.out.2.2 hb5)
        have hHT := Lib.hid (HH.out.2.draws nq)
        have HB5 := Lib.hid hb5
        clear hb5
        refine wp_insR (by kernel_rfl) (by decide) (by decide) (by decide) 38 rfl (by decide) i0 _ 32 HI.out.1 HI.out.2.1 HI.out.2.2.1 HI.out.2.2.2.1 HI.out.2.2.2.2 rfl (by decide) flc_len fl_one m x p _ c1 m.length rfl (by omega) hc1 (by unfold maxLen; omega) (by omega) rfl rfl HLV.out (.agg x.cells.toArray) (fun a' w' t5 hot hb => load_op (hot 3 (by decide)) rfl hHT.out hb Try.underlying67 rfl (by kernel_rfl)) bsF0 (bsF1 x) ?_
        intro z0 z1 z2 z3 z4 z5 z6 z7 z8 z9 z10 z11 w9 b9 o9
        simp only [Act.put, List.setIfInBounds_toArray, List.set_cons_zero, List.set_cons_succ]
        have H9 := Lib.hid (And.intro b9 o9)
        clear b9 o9
        go_wp2_with fail
        go_ret
        have hbe := (HV.out.1.trans ((H1.out.1.trans (HB5.out.mono H1.out.1.size)).mono HV.out.1.size))
        refine ⟨_, rfl, ?_, hbe.trans (H9.out.1.mono hbe.size)⟩
        have he : withF l x = m.take p ++ x :: m.drop p := by rw [hmw.out, HE.out]; rfl
        rw [he, show (m.take p ++ x :: m.drop p).length = m.length + 1 by simp; omega]
        exact World.ownsRow.mono H9.out.2 hbe.size
    · have hpm : p = m.length := by omega
      have HE := stop (fun g hg => by have := (List.getElem?_eq_some_iff.1 hg).1; omega)
      have t1 : decide (p < m.length) = false := by simpa using hlt
      have HH := Lib.hid (And.intro hb (And.intro ox hpm))
      have hm3 : m.length ≤ 1000000000000 := by omega
      have hpl : p ≤ m.length := by omega
      clear hb hsm ox stop hpm hlt
      go_wp2_with fail
      go_quiet (fail)
      go_upto_region 5 with fail
      have hb5 := below_draws HH.out.1 nq
      have HLV := Lib.hid (lies_keep H1.out.2.2 hb5)
      have hHT := Lib.hid (HH.out.2.1.draws nq)
      have HB5 := Lib.hid hb5
      clear hb5
      refine wp_insR (by kernel_rfl) (by decide) (by decide) (by decide) 38 rfl (by decide) i0 _ 32 HI.out.1 HI.out.2.1 HI.out.2.2.1 HI.out.2.2.2.1 HI.out.2.2.2.2 rfl (by decide) flc_len fl_one m x p _ c1 m.length rfl (by omega) hc1 (by unfold maxLen; omega) (by omega) rfl rfl HLV.out (.agg x.cells.toArray) (fun a' w' t5 hot hb => load_op (hot 3 (by decide)) rfl hHT.out hb Try.underlying67 rfl (by kernel_rfl)) bsF0 (bsF1 x) ?_
      intro z0 z1 z2 z3 z4 z5 z6 z7 z8 z9 z10 z11 w9 b9 o9
      simp only [Act.put, List.setIfInBounds_toArray, List.set_cons_zero, List.set_cons_succ]
      have H9 := Lib.hid (And.intro b9 o9)
      clear b9 o9
      go_wp2_with fail
      go_ret
      have hbe := (HV.out.1.trans ((H1.out.1.trans (HB5.out.mono H1.out.1.size)).mono HV.out.1.size))
      refine ⟨_, rfl, ?_, hbe.trans (H9.out.1.mono hbe.size)⟩
      have he : withF l x = m.take p ++ x :: m.drop p := by rw [hmw.out, HE.out]; rfl
      rw [he, show (m.take p ++ x :: m.drop p).length = m.length + 1 by simp; omega]
      exact World.ownsRow.mono H9.out.2 hbe.size
end Go.Proofs.Ytfelpjacccclkaa
namespace Go.Proofs.Ytfelpjacccclkaa
open Go Go.RowKit

set_option maxRecDepth 100000 in
set_option maxHeartbeats 1600000 in
theorem rrightW_any (x : Wr) (w : World) : Calls Try.prog 39 #[x.val] w fun e w' => e = .returned (.bool (rightW x)) ∧ Below w.heap.size w w' := by
  obtain ⟨V, hV, hVb, hVs, oV⟩ := wrbox w x
  have y := fun n => Lib.hid (fun W => rname_any n W)
  have HB := Lib.hid hVb
  have d0 := oV.at_ 0
  have d1 := oV.at_ 1
  have d2 := oV.at_ 2
  have d3 := oV.at_ 3
  simp only [Wr.cells, List.getElem?_cons_zero, List.getElem?_cons_succ] at d0 d1 d2 d3
  unfold Wr.val
  have e0 := Lib.hid (show rightW x = (rightN x.n && (if x.k = 1 then noB x.t else if x.k = 2 then rightN x.t && noB x.d else if x.k = 3 then noB x.t && noB x.d else false)) from rfl)
  have q1 := noB_emp x.t
  have q2 := noB_emp x.d
  have q3 := empty_eq x.t
  have q4 := empty_eq x.d
  clear hVb hVs oV
  generalize rightW x = r at *
  generalize hr1 : rightN x.n = r1 at *
  have y1 : Hid (∀ W, Calls Try.prog 38 #[.string x.n] W fun e w' => e = .returned (.bool r1) ∧ W = w') := Lib.hid (by rw [← hr1]; exact (y x.n).out)
  generalize hr2 : rightN x.t = r2 at *
  have y2 : Hid (∀ W, Calls Try.prog 38 #[.string x.t] W fun e w' => e = .returned (.bool r2) ∧ W = w') := Lib.hid (by rw [← hr2]; exact (y x.t).out)
  generalize noB x.t = b1 at *
  generalize noB x.d = b2 at *
  clear hr1 hr2 y
  by_cases k1 : x.k = 1
  · rw [if_pos k1] at e0
    rw [k1] at d0 hV ⊢
    clear k1
    cases r1
    · rw [Bool.false_and] at e0
      go_enter Try.func39, Try.ntmps39
      go_upto_region 1 with fail
      rw [← hV]
      clear hV
      go_wp2_with fail
      refine (y1.out _).mono ?_
      rintro _ _ ⟨rfl, rfl⟩
      go_wp2_with fail
      go_ret
      exact ⟨by rw [e0.out]; rfl, HB.out⟩
    · rw [Bool.true_and] at e0
      go_enter Try.func39, Try.ntmps39
      go_upto_region 1 with fail
      rw [← hV]
      clear hV
      go_wp2_with fail
      refine (y1.out _).mono ?_
      rintro _ _ ⟨rfl, rfl⟩
      go_wp2_with fail
      go_ret
      exact ⟨by rw [e0.out]; rfl, HB.out⟩
  rw [if_neg k1] at e0
  by_cases k2 : x.k = 2
  · rw [if_pos k2] at e0
    rw [k2] at d0 hV ⊢
    clear k1 k2
    cases r1
    · rw [Bool.false_and] at e0
      go_enter Try.func39, Try.ntmps39
      go_upto_region 1 with fail
      rw [← hV]
      clear hV
      go_wp2_with fail
      refine (y1.out _).mono ?_
      rintro _ _ ⟨rfl, rfl⟩
      go_wp2_with fail
      go_ret
      exact ⟨by rw [e0.out]; rfl, HB.out⟩
    · rw [Bool.true_and] at e0
      cases r2
      · rw [Bool.false_and] at e0
        go_enter Try.func39, Try.ntmps39
        go_upto_region 1 with fail
        rw [← hV]
        clear hV
        go_wp2_with fail
        refine (y1.out _).mono ?_
        rintro _ _ ⟨rfl, rfl⟩
        go_wp2_with fail
        refine (y2.out _).mono ?_
        rintro _ _ ⟨rfl, rfl⟩
        go_wp2_with fail
        go_ret
        exact ⟨by rw [e0.out]; rfl, HB.out⟩
      · rw [Bool.true_and] at e0
        go_enter Try.func39, Try.ntmps39
        go_upto_region 1 with fail
        rw [← hV]
        clear hV
        go_wp2_with fail
        refine (y1.out _).mono ?_
        rintro _ _ ⟨rfl, rfl⟩
        go_wp2_with fail
        refine (y2.out _).mono ?_
        rintro _ _ ⟨rfl, rfl⟩
        go_wp2_with fail
        go_ret
        exact ⟨by rw [e0.out]; rfl, HB.out⟩
  rw [if_neg k2] at e0
  by_cases k3 : x.k = 3
  · rw [if_pos k3] at e0
    rw [k3] at d0 hV ⊢
    clear k1 k2 k3
    cases r1
    · rw [Bool.false_and] at e0
      go_enter Try.func39, Try.ntmps39
      go_upto_region 1 with fail
      rw [← hV]
      clear hV
      go_wp2_with fail
      refine (y1.out _).mono ?_
      rintro _ _ ⟨rfl, rfl⟩
      go_wp2_with fail
      go_ret
      exact ⟨by rw [e0.out]; rfl, HB.out⟩
    · rw [Bool.true_and] at e0
      cases b1
      · rw [Bool.false_and] at e0
        go_enter Try.func39, Try.ntmps39
        go_upto_region 1 with fail
        rw [← hV]
        clear hV
        go_wp2_with fail
        refine (y1.out _).mono ?_
        rintro _ _ ⟨rfl, rfl⟩
        go_wp2_with fail
        go_ret
        exact ⟨by rw [e0.out]; rfl, HB.out⟩
      · rw [Bool.true_and] at e0
        go_enter Try.func39, Try.ntmps39
        go_upto_region 1 with fail
        rw [← hV]
        clear hV
        go_wp2_with fail
        refine (y1.out _).mono ?_
        rintro _ _ ⟨rfl, rfl⟩
        go_wp2_with fail
        go_ret
        exact ⟨by rw [e0.out]; rfl, HB.out⟩
  · rw [if_neg k3, Bool.and_false] at e0
    have t1 : (x.k == 1) = false := beq_eq_false_iff_ne.2 k1
    have t2 : (x.k == 2) = false := beq_eq_false_iff_ne.2 k2
    have t3 : (x.k == 3) = false := beq_eq_false_iff_ne.2 k3
    clear k1 k2 k3
    go_enter Try.func39, Try.ntmps39
    go_upto_region 1 with fail
    rw [← hV]
    clear hV
    go_wp2_with fail
    go_ret
    exact ⟨by rw [e0.out]; rfl, HB.out⟩
end Go.Proofs.Ytfelpjacccclkaa
namespace Go.Proofs.Ytfelpjacccclkaa
open Go Go.RowKit

theorem tk0 : DTold k0 (wtW [wA]) := ⟨by decide, by decide⟩
theorem tk1 : DTold k1 0 := ⟨by decide, by decide⟩
theorem tk2 : DTold k2 (wtW [wB, wC]) := ⟨by decide, by decide⟩
theorem tk3 : DTold k3 0 := ⟨by decide, by decide⟩
theorem tk3' : DTold k3 (wtW [wD]) := ⟨by decide, by decide⟩
theorem tk4 : DTold k4 0 := ⟨by decide, by decide⟩
theorem below_made {w v : World} {o : Obj} (h : Below (w.alloc o).heap.size (w.alloc o) v) : Below w.heap.size w v := ((Below.refl _ _).alloc (Nat.le_refl _) o).trans (h.mono (by simp))
def DkAt (z : Dl) (w : World) (P : Nat) : Prop := Own w P 25 z.cells
theorem own_made1 (w : World) (o : Obj) (t : TypeId) (l : List Value) : Own ((w.alloc o).alloc (.cells l.toArray t)) (w.heap.size + 1) t l := by
  have h := Own.made (w.alloc o) t l
  simp only [World.size_alloc] at h
  exact h
theorem undrew1 {w v : World} (h : Below w.drew.heap.size w.drew v) : Below w.heap.size w v := below_undrew h
theorem undrew2 {w v : World} {o : Obj} (h : Below (w.alloc o).drew.heap.size (w.alloc o).drew v) : Below w.heap.size w v := below_made (below_undrew h)
theorem past_made {w v : World} {t : TypeId} {l : List Value} (h : Below (w.alloc (.cells l.toArray t)).drew.heap.size (w.alloc (.cells l.toArray t)).drew v) : Own v w.heap.size t l := (own_drew (Own.made w t l)).past h (own_drew (Own.made w t l)).inside
theorem own_after {W w8 : World} {T : Nat} {t : TypeId} {l : List Value} (o : Own W T t l) (h : Below W.heap.size W w8) : Own w8 T t l := o.past h o.inside
theorem DkAt.inside {z : Dl} {w : World} {P : Nat} (h : DkAt z w P) : P < w.heap.size := Own.inside h
theorem DkAt.more {z : Dl} {w : World} {P : Nat} (h : DkAt z w P) (o : Obj) : DkAt z (w.alloc o) P := Own.more h o
theorem DkAt.drew {z : Dl} {w : World} {P : Nat} (h : DkAt z w P) : DkAt z w.drew P := h
theorem DkAt.stored {z : Dl} {w : World} {P b o : Nat} (h : DkAt z w P) (hn : b ≠ P) (u : Value) : DkAt z (w.setCell ⟨b, o, none⟩ u) P := Own.other h hn u
theorem DkAt.past {z : Dl} {w w' : World} {P B : Nat} (h : DkAt z w P) (hb : Below B w w') (hB : P < B) : DkAt z w' P := Own.past h hb hB
def Mid (w wx : World) (G : Nat) (k : Dk) : Prop := ∃ z : Dl, z.d = k ∧ Own wx G 25 z.cells ∧ DIn wx wx.heap.size z ∧ Below w.heap.size w wx ∧ w.heap.size ≤ G
set_option maxRecDepth 100000 in
set_option maxHeartbeats 6400000 in
theorem lives_true (w : World) : Calls Try.prog 13 #[] w fun e w' => e = .returned (.bool true) ∧ Below w.heap.size w w' := by
  have y1 := Lib.hid (fun W => add_any ⟨#[97]⟩ ⟨#[120]⟩ W)
  go_enter Try.func13, Try.ntmps13
  go_wp2_with fail
  refine (y1.out _).mono ?_
  rintro _ w1 ⟨rfl, b1⟩
  obtain ⟨V1, hV1, bV1, sV1, oV1⟩ := wrbox w1 ⟨1, ⟨#[97]⟩, ⟨#[]⟩, ⟨#[120]⟩⟩
  have hc := do_at (W := V1) (y := ⟨none, 0, [], none, 0, [], 9, false, -1⟩) (B := some ⟨w1.heap.size, 0, none⟩) 1 ⟨fun h => absurd h (by decide), fun h => absurd h (by decide), Nat.le_refl _⟩ rfl lv1 (lies4_own (t := 45) (l := [wA]) oV1) tk0
  have H1 := Lib.hid (belows b1 bV1)
  clear b1 bV1 sV1 oV1 y1
  go_wp2_with fail
  rw [← hV1]
  clear hV1
  refine hc.out.mono ?_
  rintro _ w2 ⟨b2, z1, rfl, hz1, iz1⟩
  obtain ⟨W2, hW2, o2, i2, bW2⟩ := var_new iz1
  have hc2 := sync_at i2 hz1 lv2 tk1
  have H2 := Lib.hid (And.intro ((H1.out.trans (b2.mono H1.out.size)).trans (bW2.mono (Nat.le_trans H1.out.size b2.size))) (And.intro o2 (Nat.le_trans H1.out.size b2.size)))
  obtain ⟨d0, d1, d2, d3, d4⟩ := own5 o2
  clear b2 hz1 iz1 bW2 i2 o2 hc
  go_upto_region 2 with fail
  rw [← hW2]
  clear hW2
  go_wp2_with fail
  refine hc2.out.mono ?_
  rintro _ w3 ⟨b3, z2, rfl, hz2, iz2⟩
  have o3 := H2.out.2.1.past b3 H2.out.2.1.inside
  obtain ⟨f0, f1, f2, f3, f4⟩ := open5 o3
  obtain ⟨p0, p1, p2, p3, p4⟩ := own5 o3
  obtain ⟨W3, hW3, oW3, iW3, bW3⟩ := var_set o3 iz2
  have H3 := Lib.hid (And.intro ((belows H2.out.1 b3).trans (bW3 _ H2.out.2.2)) (And.intro oW3 (And.intro iW3 hz2)))
  clear d0 d1 d2 d3 d4
  obtain ⟨d0, d1, d2, d3, d4⟩ := own5 oW3
  clear b3 hz2 iz2 bW3 o3 hc2
  have hGin := oW3.inside
  have y3 := Lib.hid (fun W => add_any ⟨#[97]⟩ ⟨#[121, 122]⟩ W)
  go_upto_region 3 with fail
  rw [← hW3]
  clear hW3 f0 f1 f2 f3 f4 p0 p1 p2 p3 p4
  go_cut [4] (fun s4 wx => s4 = .int .i64 0 ∧ Mid w wx w2.heap.size k3)
  case first =>
    go_region_with (first | (go_at_call 33; refine (y3.out _).mono ?_; rintro _ w5 ⟨rfl, b5⟩; replace b5 : Below W3.heap.size W3 w5 := below_undrew b5; have o5 := H3.out.2.1.past b5 H3.out.2.1.inside; have o5' := o5.more (.cells #[.int .u8 1, .string ⟨#[97]⟩, .string ⟨#[]⟩, .string ⟨#[121, 122]⟩, .int .u8 2, .string ⟨#[97]⟩, .string ⟨#[98]⟩, .string ⟨#[]⟩] 45); obtain ⟨g0, g1, g2, g3, g4⟩ := own5 o5; obtain ⟨h0, h1, h2, h3, h4⟩ := own5 o5'; have bb := (Below.refl w5.heap.size w5).alloc (Nat.le_refl _) (.cells #[.int .u8 1, .string ⟨#[97]⟩, .string ⟨#[]⟩, .string ⟨#[121, 122]⟩, .int .u8 2, .string ⟨#[97]⟩, .string ⟨#[98]⟩, .string ⟨#[]⟩] 45); have hc5 := do_at (B := some ⟨w5.heap.size, 0, none⟩) 2 ((H3.out.2.2.1.keep b5).keep bb) H3.out.2.2.2 lv3 (lies4_own (t := 45) (l := [wB, wC]) (Own.made w5 _ _)) tk2; have H5 := Lib.hid (And.intro (belows b5 bb) o5'); clear o5 o5' bb b5) | (go_at_call 9; refine hc5.out.mono ?_; rintro _ w6 ⟨b6, z3, rfl, hz3, iz3⟩; have o6 := H5.out.2.past b6 H5.out.2.inside; obtain ⟨f0, f1, f2, f3, f4⟩ := open5 o6; obtain ⟨c0, c1, c2, c3, c4⟩ := own5 o6))
    all_goals
      obtain ⟨_, rfl, oW6, iW6, bW6⟩ := var_set o6 iz3
      have HF := Lib.hid (And.intro oW6 (And.intro iW6 ((belows (belows H3.out.1 H5.out.1) b6).trans (bW6 _ H2.out.2.2))))
      clear o6 oW6 iW6 bW6
      go_wp2_with fail
      go_meet
      exact ⟨rfl, z3, hz3, HF.out.1, HF.out.2.1, HF.out.2.2, H2.out.2.2⟩
  case rest =>
    obtain ⟨rfl, z3, hz3, o3, i3, b3, hG⟩ := hcut
    clear d0 d1 d2 d3 d4
    obtain ⟨d0, d1, d2, d3, d4⟩ := own5 o3
    have hc4 := read_at (s := ⟨#[120, 121, 122]⟩) ⟨#[98]⟩ i3 hz3 lv4 tk3
    have H4 := Lib.hid (And.intro b3 (And.intro o3 (And.intro i3 hz3)))
    clear hz3 o3 i3 b3 y3
    go_wp2_with fail
    refine hc4.out.mono ?_
    rintro _ w4 ⟨rfl, b4⟩
    have o4 := H4.out.2.1.past b4 H4.out.2.1.inside
    have i4 := H4.out.2.2.1.keep b4
    clear d0 d1 d2 d3 d4
    obtain ⟨d0, d1, d2, d3, d4⟩ := own5 o4
    have hc5 := crash_at 0 1 i4 H4.out.2.2.2 lv5 tk3
    have H5 := Lib.hid (And.intro (belows H4.out.1 b4) (And.intro o4 i4))
    clear o4 i4 b4 hc4
    go_wp2_with fail
    refine hc5.out.mono ?_
    rintro _ w5 ⟨b5, z5, rfl, hz5, iz5⟩
    obtain ⟨W5, hW5, oW5, iW5, bW5⟩ := var_new iz5
    have o5 := (H5.out.2.1.past b5 H5.out.2.1.inside).past bW5 (H5.out.2.1.past b5 H5.out.2.1.inside).inside
    have i5 := (H5.out.2.2.keep b5).keep bW5
    have hc6 := read_at (s := ⟨#[120, 121]⟩) ⟨#[97]⟩ iW5 hz5 lv6 tk4
    have H6 := Lib.hid (And.intro (belows (belows H5.out.1 b5) bW5) (And.intro o5 i5))
    clear d0 d1 d2 d3 d4
    obtain ⟨d0, d1, d2, d3, d4⟩ := own5 oW5
    clear b5 hz5 iz5 oW5 iW5 bW5 o5 i5 hc5
    go_upto_region 6 with fail
    rw [← hW5]
    clear hW5
    go_wp2_with fail
    refine hc6.out.mono ?_
    rintro _ w6 ⟨rfl, b6⟩
    have o6 := H6.out.2.1.past b6 H6.out.2.1.inside
    have i6 := H6.out.2.2.keep b6
    clear d0 d1 d2 d3 d4
    obtain ⟨d0, d1, d2, d3, d4⟩ := own5 o6
    have H7 := Lib.hid (And.intro (belows H6.out.1 b6) (And.intro o6 i6))
    have y7 := Lib.hid (fun W => add_any ⟨#[99]⟩ ⟨#[49, 50, 51, 52, 53, 54, 55]⟩ W)
    clear o6 i6 b6 hc6
    go_upto_region 7 with fail
    go_cut [12] (fun s12 wx => s12 = .int .i64 9 ∧ Below w.heap.size w wx)
    case first =>
      have HS := Lib.hid (fun W (h : DkAt z3 W w2.heap.size) => own5 h)
      have hp6 : DkAt z3 w6 w2.heap.size := H7.out.2.1
      have hplt : w2.heap.size < w6.heap.size := hp6.inside
      have ih := Lib.hid (fun (W : World) (hb : Below w6.heap.size w6 W) (P : Nat) (o : Own W P 45 wD.cells) => do_at (B := some ⟨P, 0, none⟩) 1 (H7.out.2.2.keep hb) H4.out.2.2.2 (show doD k3 [wD] = ((doD k3 [wD]).1, 9) from Prod.ext rfl lv7) (lies4_own (t := 45) (l := [wD]) o) tk3')
      simp only [List.length_singleton] at ih
      go_region_held3 (fun w' => DkAt z3 w' w2.heap.size ∧ (w'.cell? ⟨w2.heap.size, 0, none⟩ = some (.slice z3.fA z3.files.length z3.fc) ∧ w'.cell? ⟨w2.heap.size, 1, none⟩ = some (.slice z3.wA z3.waits.length z3.wc) ∧ w'.cell? ⟨w2.heap.size, 2, none⟩ = some (.int .i64 z3.room) ∧ w'.cell? ⟨w2.heap.size, 3, none⟩ = some (.bool z3.down) ∧ w'.cell? ⟨w2.heap.size, 4, none⟩ = some (.int .i64 z3.fuse)))
        ((refine (fun h => And.intro h (HS.out _ h)) ?_; repeat (first | with_reducible exact hp8 | with_reducible exact hp7 | with_reducible exact hp6 | with_reducible refine DkAt.more ?_ _ | with_reducible refine DkAt.drew ?_ | with_reducible refine DkAt.stored ?_ (by omega) _)))
        (first | (go_simp; go_at_call 33; refine (y7.out _).mono ?_; rintro _ w7 ⟨rfl, b7⟩; have hn7 : Below w6.heap.size w6 w7 := (by first | with_reducible exact undrew1 b7 | with_reducible exact undrew2 b7); have hs7 := hn7.size; have hp7 : DkAt z3 w7 w2.heap.size := DkAt.past hp6 hn7 hplt; (try have oT7 : Own w7 w6.heap.size 25 zero5 := past_made b7); clear b7; have bS1 : Below w6.heap.size w6 (w7.alloc (.cells #[.int .u8 1, .string ⟨#[99]⟩, .string ⟨#[]⟩, .string ⟨#[49, 50, 51, 52, 53, 54, 55]⟩] 45)) := hn7.alloc hs7 _; have bV1 : Below w6.heap.size w6 (w7.alloc (.cells #[.slice none 0 0, .slice none 0 0, .int .i64 0, .bool false, .int .i64 0] 25)) := hn7.alloc hs7 _; have bS2 : Below w6.heap.size w6 ((w7.alloc (.cells #[.int .u8 1, .string ⟨#[99]⟩, .string ⟨#[]⟩, .string ⟨#[49, 50, 51, 52, 53, 54, 55]⟩] 45)).alloc (.cells #[.slice none 0 0, .slice none 0 0, .int .i64 0, .bool false, .int .i64 0] 25)) := bS1.alloc bS1.size _; have bS3 : Below w6.heap.size w6 ((w7.alloc (.cells #[.slice none 0 0, .slice none 0 0, .int .i64 0, .bool false, .int .i64 0] 25)).alloc (.cells #[.int .u8 1, .string ⟨#[99]⟩, .string ⟨#[]⟩, .string ⟨#[49, 50, 51, 52, 53, 54, 55]⟩] 45)) := bV1.alloc bV1.size _; have oS1 : Own (w7.alloc (.cells #[.int .u8 1, .string ⟨#[99]⟩, .string ⟨#[]⟩, .string ⟨#[49, 50, 51, 52, 53, 54, 55]⟩] 45)) w7.heap.size 45 wD.cells := Own.made w7 _ _; have oS2 : Own ((w7.alloc (.cells #[.int .u8 1, .string ⟨#[99]⟩, .string ⟨#[]⟩, .string ⟨#[49, 50, 51, 52, 53, 54, 55]⟩] 45)).alloc (.cells #[.slice none 0 0, .slice none 0 0, .int .i64 0, .bool false, .int .i64 0] 25)) w7.heap.size 45 wD.cells := oS1.more _; have oS3 : Own ((w7.alloc (.cells #[.slice none 0 0, .slice none 0 0, .int .i64 0, .bool false, .int .i64 0] 25)).alloc (.cells #[.int .u8 1, .string ⟨#[99]⟩, .string ⟨#[]⟩, .string ⟨#[49, 50, 51, 52, 53, 54, 55]⟩] 45)) (w7.heap.size + 1) 45 wD.cells := own_made1 w7 _ _ _; have oT2 : Own ((w7.alloc (.cells #[.int .u8 1, .string ⟨#[99]⟩, .string ⟨#[]⟩, .string ⟨#[49, 50, 51, 52, 53, 54, 55]⟩] 45)).alloc (.cells #[.slice none 0 0, .slice none 0 0, .int .i64 0, .bool false, .int .i64 0] 25)) (w7.heap.size + 1) 25 zero5 := own_made1 w7 _ _ _; have oT3 : Own ((w7.alloc (.cells #[.slice none 0 0, .slice none 0 0, .int .i64 0, .bool false, .int .i64 0] 25)).alloc (.cells #[.int .u8 1, .string ⟨#[99]⟩, .string ⟨#[]⟩, .string ⟨#[49, 50, 51, 52, 53, 54, 55]⟩] 45)) w7.heap.size 25 zero5 := (Own.made w7 _ _).more _; (try have oT1 : Own (w7.alloc (.cells #[.int .u8 1, .string ⟨#[99]⟩, .string ⟨#[]⟩, .string ⟨#[49, 50, 51, 52, 53, 54, 55]⟩] 45)) w6.heap.size 25 zero5 := oT7.more _)) | (go_simp; go_at_call 9; (with_reducible refine (ih.out _ ?_ _ ?_).out.mono ?_); (first | with_reducible exact bS1 | with_reducible exact bS2 | with_reducible exact bS3); (first | with_reducible exact oS1 | with_reducible exact oS2 | with_reducible exact oS3); rintro _ w8 ⟨b8, z8, rfl, _, _⟩; have hb8 : Below w6.heap.size w6 w8 := (by first | with_reducible exact belows bS1 b8 | with_reducible exact belows bS2 b8 | with_reducible exact belows bS3 b8); have hs8 := hb8.size; have hp8 : DkAt z3 w8 w2.heap.size := DkAt.past hp6 hb8 hplt; (try ((first | (with_reducible (have oT8 := own_after oT1 b8); have iT := oT7.inside) | with_reducible (have oT8 := own_after oT2 b8) | with_reducible (have oT8 := own_after oT3 b8)); have z0 := Own.at_ oT8 0; have z1 := Own.at_ oT8 1; have z2 := Own.at_ oT8 2; have z3_ := Own.at_ oT8 3; have z4_ := Own.at_ oT8 4; have f0 := Own.open_ oT8 0; have f1 := Own.open_ oT8 1; have f2 := Own.open_ oT8 2; have f3 := Own.open_ oT8 3; have f4 := Own.open_ oT8 4; simp only [zero5, List.getElem?_cons_zero, List.getElem?_cons_succ] at z0 z1 z2 z3_ z4_))))
      all_goals
        have hB8 : Below w.heap.size w w8 := belows H7.out.1 hb8
        have hw6 := H7.out.1.size
        have HB := Lib.hid hB8
        go_wp2_with fail
        go_meet
        first
        | exact ⟨rfl, HB.out.trans ((set5_kept w8 _ _ _ _ _ _).below (fun b e => by omega) HB.out.size)⟩
        | exact ⟨rfl, HB.out.alloc HB.out.size _⟩
    case rest =>
      obtain ⟨rfl, hb⟩ := hcut
      go_wp2_with fail
      go_ret
      exact ⟨rfl, hb⟩
end Go.Proofs.Ytfelpjacccclkaa
