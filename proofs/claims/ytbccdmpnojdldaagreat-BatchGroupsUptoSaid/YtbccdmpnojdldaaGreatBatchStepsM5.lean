/- Part 5 of the texts on which BatchSteps rests: facts and contracts. -/
import Derived.Test.YtbccdmpnojdldaaGreatBatchStepsM4
import Derived.BigQuiet
import Derived.Deep.QuietTactic
import Derived.Deep.RegionHeld3
import Derived.Deep.DeepCutAuto
import Derived.Deep.CutRange
import Derived.Deep.CutBlock
import Derived.Outline
namespace Go.Proofs.YtbccdmpnojdldaaGreat
open Go Go.RowKit

def KeysUp (l : List Up) : Prop := l.Pairwise fun x y => cmpRows x.key y.key ≤ 0
theorem even_keys {l : List Up} (h : EvenP l) : KeysUp l := by
  have h1 := h.2.1
  unfold Srt at h1
  rw [List.pairwise_map] at h1
  refine h1.imp fun {x y} hxy => ?_
  have hxy : Uk.cmp x.k y.k < 0 := hxy
  unfold Uk.cmp at hxy
  split at hxy
  · rename_i h0; exact Int.le_of_eq h0
  · exact Int.le_of_lt hxy
theorem keys_le {l : List Up} (h : KeysUp l) {i j : Nat} {x y : Up} (hi : l[i]? = some x) (hj : l[j]? = some y) (hij : i ≤ j) : cmpRows x.key y.key ≤ 0 := by
  obtain ⟨hil, rfl⟩ := List.getElem?_eq_some_iff.1 hi
  obtain ⟨hjl, rfl⟩ := List.getElem?_eq_some_iff.1 hj
  by_cases e : i = j
  · subst e; rw [row_lin.self]; exact Int.le_refl _
  · exact List.pairwise_iff_getElem.1 h i j hil hjl (by omega)
/-- where a key is sought -/
def seekB (l : List Up) (k : List Vl) : Nat := (l.takeWhile fun u => decide (cmpRows u.key k < 0)).length
/-- a key's group -/
def groupB (l : List Up) (k : List Vl) : List Up := (l.drop (seekB l k)).takeWhile fun u => decide (cmpRows u.key k = 0)
theorem seek_len (l : List Up) (k : List Vl) : seekB l k ≤ l.length := (List.takeWhile_sublist _).length_le
theorem group_len (l : List Up) (k : List Vl) : seekB l k + (groupB l k).length ≤ l.length := by
  have h1 := (List.takeWhile_sublist (fun u : Up => decide (cmpRows u.key k = 0)) (l := l.drop (seekB l k))).length_le
  have h2 := seek_len l k
  rw [List.length_drop] at h1
  unfold groupB
  omega
theorem seek_cons_lt {l : List Up} {u : Up} {k : List Vl} (h : cmpRows u.key k < 0) : seekB (u :: l) k = seekB l k + 1 := by
  unfold seekB
  rw [List.takeWhile_cons_of_pos (by simpa using h)]
  rfl
theorem seek_cons_ge {l : List Up} {u : Up} {k : List Vl} (h : ¬ cmpRows u.key k < 0) : seekB (u :: l) k = 0 := by
  unfold seekB
  rw [List.takeWhile_cons_of_neg (by simpa using h)]
  rfl
/-- all ahead of it have lesser keys -/
theorem seek_lt : ∀ (l : List Up) (k : List Vl) (i : Nat) (u : Up), i < seekB l k → l[i]? = some u → cmpRows u.key k < 0
  | [], _, _, _, h, _ => by simp [seekB] at h
  | x :: l, k, i, u, h, hu => by
    by_cases hx : cmpRows x.key k < 0
    · rw [seek_cons_lt hx] at h
      cases i with
      | zero => rw [List.getElem?_cons_zero] at hu; cases hu; exact hx
      | succ i => rw [List.getElem?_cons_succ] at hu; exact seek_lt l k i u (by omega) hu
    · rw [seek_cons_ge hx] at h; omega
/-- the one there has not -/
theorem seek_at : ∀ (l : List Up) (k : List Vl) (u : Up), l[seekB l k]? = some u → ¬ cmpRows u.key k < 0
  | [], _, _, h => by simp at h
  | x :: l, k, u, h => by
    by_cases hx : cmpRows x.key k < 0
    · rw [seek_cons_lt hx, List.getElem?_cons_succ] at h; exact seek_at l k u h
    · rw [seek_cons_ge hx, List.getElem?_cons_zero] at h; cases h; exact hx
/-- nor has one behind it -/
theorem seek_ge {l : List Up} {k : List Vl} (hl : KeysUp l) {i : Nat} {u : Up} (h : seekB l k ≤ i) (hu : l[i]? = some u) : ¬ cmpRows u.key k < 0 := by
  have hi := (List.getElem?_eq_some_iff.1 hu).1
  have hs : seekB l k < l.length := by omega
  have h1 := seek_at l k _ (List.getElem?_eq_getElem hs)
  have h2 := keys_le hl (List.getElem?_eq_getElem hs) hu h
  intro h3
  exact h1 (row_lin.le_lt h2 h3)
/-- it is the one place with both -/
theorem seek_only {l : List Up} {k : List Vl} {n : Nat} (hn : n ≤ l.length) (h1 : ∀ i u, i < n → l[i]? = some u → cmpRows u.key k < 0) (h2 : ∀ u, l[n]? = some u → ¬ cmpRows u.key k < 0) : seekB l k = n := by
  rcases Nat.lt_trichotomy (seekB l k) n with h | h | h
  · have hs : seekB l k < l.length := by omega
    exact absurd (h1 _ _ h (List.getElem?_eq_getElem hs)) (seek_at l k _ (List.getElem?_eq_getElem hs))
  · exact h
  · have hs : n < l.length := Nat.lt_of_lt_of_le h (seek_len l k)
    exact absurd (seek_lt l k n _ h (List.getElem?_eq_getElem hs)) (h2 _ (List.getElem?_eq_getElem hs))
theorem take_filter {k : List Vl} : ∀ {l : List Up}, KeysUp l → (∀ v ∈ l, ¬ cmpRows v.key k < 0) → l.takeWhile (fun u => decide (cmpRows u.key k = 0)) = l.filter fun u => decide (cmpRows u.key k = 0)
  | [], _, _ => rfl
  | v :: l, h, hv => by
    have hl := (List.pairwise_cons.1 h)
    by_cases h0 : cmpRows v.key k = 0
    · rw [List.takeWhile_cons_of_pos (by simpa using h0), List.filter_cons_of_pos (by simpa using h0), take_filter hl.2 fun x hx => hv x (List.mem_cons_of_mem _ hx)]
    · rw [List.takeWhile_cons_of_neg (by simpa using h0), List.filter_cons_of_neg (by simpa using h0), eq_comm, List.filter_eq_nil_iff]
      intro x hx
      have h1 := hl.1 x hx
      have h2 := hv v List.mem_cons_self
      have h3 : cmpRows k v.key < 0 := by have := row_lin.swap v.key k; omega
      have h4 := row_lin.lt_le h3 h1
      have h5 := row_lin.swap k x.key
      simp only [decide_eq_true_eq]
      omega
/-- a group is all updates of its key -/
theorem group_filter {k : List Vl} : ∀ {l : List Up}, KeysUp l → groupB l k = l.filter fun u => decide (cmpRows u.key k = 0)
  | [], _ => by simp [groupB]
  | v :: l, h => by
    have hl := (List.pairwise_cons.1 h)
    by_cases h0 : cmpRows v.key k < 0
    · have ih := group_filter (k := k) hl.2
      rw [List.filter_cons_of_neg (by simp only [decide_eq_true_eq]; omega), ← ih]
      unfold groupB
      rw [seek_cons_lt h0, List.drop_succ_cons]
    · unfold groupB
      rw [seek_cons_ge h0, List.drop_zero]
      refine take_filter h fun x hx => ?_
      rcases List.mem_cons.1 hx with rfl | hx
      · exact h0
      · intro h3
        exact h0 (row_lin.le_lt (hl.1 x hx) h3)
theorem cnt_split {α : Type} {p q r : α → Bool} : ∀ {l : List α}, (∀ x ∈ l, p x = (q x || r x)) → (∀ x ∈ l, (q x && r x) = false) → (l.filter p).length = (l.filter q).length + (l.filter r).length
  | [], _, _ => rfl
  | x :: l, h1, h2 => by
    have ih := cnt_split (l := l) (fun y hy => h1 y (List.mem_cons_of_mem _ hy)) fun y hy => h2 y (List.mem_cons_of_mem _ hy)
    have e1 := h1 x List.mem_cons_self
    have e2 := h2 x List.mem_cons_self
    rw [List.filter_cons, List.filter_cons, List.filter_cons, e1]
    cases hq : q x <;> cases hr : r x <;> simp_all <;> omega
/-- the updates up to a key -/
def leB (l : List Up) (k : List Vl) : List Up := l.filter fun u => decide (cmpRows u.key k ≤ 0)
theorem heads_same {l : List Up} {a b : List Vl} (h : cmpRows a b = 0) : leB l b = leB l a := by
  unfold leB
  refine List.filter_congr fun x _ => ?_
  have h1 : cmpRows b a = 0 := by have := row_lin.swap a b; omega
  rw [decide_eq_decide]
  exact ⟨fun k => (row_lin.le x.key b a k (by omega)).1, fun k => (row_lin.le x.key a b k (by omega)).1⟩
theorem heads_step {l : List Up} (hl : KeysUp l) {j : Nat} {u v : Up} (hu : l[j]? = some u) (hv : l[j + 1]? = some v) (hne : cmpRows u.key v.key ≠ 0) : (leB l v.key).length = (leB l u.key).length + (groupB l v.key).length := by
  rw [group_filter hl]
  unfold leB
  have huv : cmpRows u.key v.key < 0 := by have := keys_le hl hu hv (by omega); omega
  refine cnt_split (fun x hx => ?_) fun x hx => ?_
  · obtain ⟨i, hi⟩ := List.mem_iff_getElem?.1 hx
    rw [Bool.eq_iff_iff, Bool.or_eq_true, decide_eq_true_eq, decide_eq_true_eq, decide_eq_true_eq]
    by_cases hij : i ≤ j
    · have h1 := keys_le hl hi hu hij
      have h2 := row_lin.le_lt h1 huv
      exact ⟨fun _ => .inl h1, fun _ => by omega⟩
    · have h1 := keys_le hl hv hi (by omega)
      have h2 := row_lin.swap v.key x.key
      have h3 := row_lin.lt_le huv h1
      have h4 := row_lin.swap u.key x.key
      exact ⟨fun _ => .inr (by omega), fun h => by omega⟩
  · cases h1 : decide (cmpRows x.key u.key ≤ 0) with
    | false => rfl
    | true =>
      have h2 := row_lin.le_lt (of_decide_eq_true h1) huv
      rw [Bool.true_and]
      exact decide_eq_false (by omega)
theorem heads_first {l : List Up} (hl : KeysUp l) {u : Up} (hu : l[0]? = some u) : (leB l u.key).length = (groupB l u.key).length := by
  rw [group_filter hl]
  unfold leB
  rw [List.filter_congr fun x hx => ?_]
  obtain ⟨i, hi⟩ := List.mem_iff_getElem?.1 hx
  have h1 := keys_le hl hu hi (Nat.zero_le _)
  have h2 := row_lin.swap u.key x.key
  rw [decide_eq_decide]
  omega
theorem heads_last {l : List Up} (hl : KeysUp l) {j : Nat} {u : Up} (hu : l[j]? = some u) (hj : j + 1 = l.length) : (leB l u.key).length = l.length := by
  unfold leB
  rw [List.filter_eq_self.2 fun x hx => ?_]
  obtain ⟨i, hi⟩ := List.mem_iff_getElem?.1 hx
  have := (List.getElem?_eq_some_iff.1 hi).1
  exact decide_eq_true (keys_le hl hi hu (by omega))
end Go.Proofs.YtbccdmpnojdldaaGreat
namespace Go.Proofs.YtbccdmpnojdldaaGreat
open Go Go.RowKit

/-- the order of keys and rows -/
def plc (a b : Up) : Int := if cmpRows a.key b.key = 0 then cmpRows a.row b.row else cmpRows a.key b.key
theorem plc_lin : Lin plc (fun _ => False) where
  swap a b := by
    unfold plc
    rw [cmpRows_swap a.key b.key, cmpRows_swap a.row b.row]
    by_cases h1 : cmpRows a.key b.key = 0
    · rw [if_pos (by omega), if_pos h1]
    · rw [if_neg (by omega), if_neg h1]
  le a b c h k := by
    unfold plc at *
    exact lex_le h k (cmpRows_le a.key b.key c.key) rows_zero (cmpRows_le a.row b.row c.row)
  eq _ _ h _ := h.elim
theorem plc_cmp {a b : Up} {s t : Tm} (h : plc a b < 0) : Uk.cmp ⟨a.key, a.row, s⟩ ⟨b.key, b.row, t⟩ < 0 := by
  unfold plc at h
  unfold Uk.cmp
  dsimp only
  split at h
  · rename_i h0; rw [if_pos h0, if_neg (by omega)]; exact h
  · rename_i h0; rw [if_neg h0]; exact h
def PlUp (l : List Up) : Prop := l.Pairwise fun x y => plc x y ≤ 0
theorem even_plc {l : List Up} (h : EvenP l) : PlUp l := by
  have h1 := h.2.1
  unfold Srt at h1
  rw [List.pairwise_map] at h1
  refine h1.imp fun {x y} hxy => ?_
  have hxy : Uk.cmp x.k y.k < 0 := hxy
  unfold Uk.cmp at hxy
  unfold plc
  split at hxy
  · rename_i h0
    have h0 : cmpRows x.key y.key = 0 := h0
    rw [if_pos h0]
    split at hxy
    · rename_i h2; exact Int.le_of_eq h2
    · exact Int.le_of_lt hxy
  · rename_i h0
    have h0 : ¬ cmpRows x.key y.key = 0 := h0
    rw [if_neg h0]
    exact Int.le_of_lt hxy
/-- those of r of the place of u, as far as they stand in front -/
def grp (u : Up) (r : List Up) : List Up := r.takeWhile fun x => decide (plc x u = 0)
theorem tw_mem {p : Up → Bool} {x : Up} : ∀ {l : List Up}, x ∈ l.takeWhile p → p x = true
  | [], h => by simp at h
  | y :: l, h => by
    by_cases hy : p y = true
    · rw [List.takeWhile_cons_of_pos hy] at h
      rcases List.mem_cons.1 h with rfl | h
      · exact hy
      · exact tw_mem h
    · rw [List.takeWhile_cons_of_neg hy] at h; simp at h
theorem grp_mem {u x : Up} {r : List Up} (h : x ∈ grp u r) : plc x u = 0 ∧ x ∈ r := ⟨of_decide_eq_true (tw_mem h), (List.takeWhile_sublist _).subset h⟩
theorem grp_split (u : Up) (r : List Up) : r = grp u r ++ r.drop (grp u r).length := by
  unfold grp
  induction r with
  | nil => rfl
  | cons x r ih =>
    by_cases h : plc x u = 0
    · rw [List.takeWhile_cons_of_pos (by simpa using h), List.length_cons, List.drop_succ_cons, List.cons_append, ← ih]
    · rw [List.takeWhile_cons_of_neg (by simpa using h)]; rfl
theorem past_grp {u : Up} : ∀ {r : List Up}, PlUp r → (∀ y ∈ r, plc u y ≤ 0) → ∀ y ∈ r.drop (grp u r).length, plc u y < 0
  | [], _, _, y, h => by simp at h
  | v :: r, hr, hu, y, h => by
    have hc := List.pairwise_cons.1 hr
    unfold grp at h
    by_cases h0 : plc v u = 0
    · rw [List.takeWhile_cons_of_pos (by simpa using h0), List.length_cons, List.drop_succ_cons] at h
      exact past_grp hc.2 (fun y hy => hu y (List.mem_cons_of_mem _ hy)) y h
    · rw [List.takeWhile_cons_of_neg (by simpa using h0), List.length_nil, List.drop_zero] at h
      have h1 := hu v List.mem_cons_self
      have h2 := plc_lin.swap v u
      have h3 : plc u v < 0 := by omega
      rcases List.mem_cons.1 h with rfl | h
      · exact h3
      · exact plc_lin.lt_le h3 (hc.1 y h)
/-- the merger, somewhere on its way: ta, tb are taken, ra, rb are left -/
structure MInv (f : List Tm) (ta ra tb rb : List Up) (out : List (Uk × Int)) : Prop where
  sep : ∀ x ∈ ta ++ tb, ∀ y ∈ ra ++ rb, plc x y < 0
  fit : resE Uk.cmp ((advL f (ta ++ tb)).map Up.p) = 0
  out_ : out = nz Uk.cmp ((advL f (ta ++ tb)).map Up.p)
theorem merge_start (f : List Tm) (a b : List Up) : MInv f [] a [] b [] := ⟨fun x hx => (by simp at hx), rfl, rfl⟩
theorem keys_apart {f : List Tm} {X Y : List Up} (h : ∀ x ∈ X, ∀ y ∈ Y, plc x y < 0) : ∀ x ∈ (advL f X).map Up.p, ∀ y ∈ (advL f Y).map Up.p, Uk.cmp x.1 y.1 < 0 := fun x hx y hy => by
  obtain ⟨x', hx', rfl⟩ := List.mem_map.1 hx
  obtain ⟨x0, hx0, rfl⟩ := List.mem_map.1 hx'
  obtain ⟨y', hy', rfl⟩ := List.mem_map.1 hy
  obtain ⟨y0, hy0, rfl⟩ := List.mem_map.1 hy'
  exact plc_cmp (h x0 hx0 y0 hy0)
theorem res_apart {X Y : List (Uk × Int)} (h : ∀ x ∈ X, ∀ y ∈ Y, Uk.cmp x.1 y.1 < 0) : nz Uk.cmp (X ++ Y) = nz Uk.cmp X ++ nz Uk.cmp Y ∧ (resE Uk.cmp (X ++ Y) = 0 ↔ resE Uk.cmp X = 0 ∧ resE Uk.cmp Y = 0) := by
  unfold nz resE
  rw [asm_append h, List.filter_append, List.all_append]
  refine ⟨rfl, ?_⟩
  cases ((asm Uk.cmp X).all fun x => fits x.2) <;> cases ((asm Uk.cmp Y).all fun x => fits x.2) <;> simp
theorem advL_append (f : List Tm) (X Y : List Up) : advL f (X ++ Y) = advL f X ++ advL f Y := List.map_append
theorem adv_keys {f : List Tm} (hf : ∀ x ∈ f, x.right = true) {X : List Up} (h : chkUs X = 0) : ∀ x ∈ (advL f X).map Up.p, UkR x.1 := keys_right (chkUs_all.1 ((chkUs_adv hf X).trans h))
theorem taken_same {f : List Tm} (hf : ∀ x ∈ f, x.right = true) {ta ga tb gb : List Up} (h : chkUs (ta ++ ga ++ (tb ++ gb)) = 0) :
    nz Uk.cmp ((advL f (ta ++ ga ++ (tb ++ gb))).map Up.p) = nz Uk.cmp ((advL f (ta ++ tb)).map Up.p ++ (advL f (ga ++ gb)).map Up.p) ∧ resE Uk.cmp ((advL f (ta ++ ga ++ (tb ++ gb))).map Up.p) = resE Uk.cmp ((advL f (ta ++ tb)).map Up.p ++ (advL f (ga ++ gb)).map Up.p) := by
  have hl := adv_keys hf h
  have hm : ∀ x ∈ (advL f (ta ++ tb)).map Up.p ++ (advL f (ga ++ gb)).map Up.p, UkR x.1 := by
    rw [← List.map_append, ← advL_append]
    refine adv_keys hf (chkUs_all.2 fun u hu => chkUs_all.1 h u ?_)
    simp only [List.mem_append] at hu ⊢
    rcases hu with (hu | hu) | (hu | hu)
    · exact .inl (.inl hu)
    · exact .inr (.inl hu)
    · exact .inl (.inr hu)
    · exact .inr (.inr hu)
  have hs : ∀ k, sumOf Uk.cmp ((advL f (ta ++ ga ++ (tb ++ gb))).map Up.p) k = sumOf Uk.cmp ((advL f (ta ++ tb)).map Up.p ++ (advL f (ga ++ gb)).map Up.p) k := fun k => by
    simp only [advL_append, List.map_append, sumOf_append]
    omega
  exact ⟨nz_ext uk_lin hl hm hs, (resL_ext uk_lin hl hm hs).2⟩
/-- one step -/
theorem merge_step {f : List Tm} {ta ra tb rb : List Up} {out : List (Uk × Int)} (hm : MInv f ta ra tb rb out) (hf : ∀ x ∈ f, x.right = true) (hc : chkUs (ta ++ ra ++ (tb ++ rb)) = 0) (hra : PlUp ra) (hrb : PlUp rb) {u : Up} (hu : ∀ y ∈ ra ++ rb, plc u y ≤ 0)
    (hE : consE [advL f (grp u ra ++ grp u rb)] = 0) :
    MInv f (ta ++ grp u ra) (ra.drop (grp u ra).length) (tb ++ grp u rb) (rb.drop (grp u rb).length) (out ++ consL [advL f (grp u ra ++ grp u rb)]) := by
  have hg : ∀ y ∈ grp u ra ++ grp u rb, plc y u = 0 ∧ y ∈ ra ++ rb := fun y hy => by
    rcases List.mem_append.1 hy with hy | hy
    · exact ⟨(grp_mem hy).1, List.mem_append_left _ (grp_mem hy).2⟩
    · exact ⟨(grp_mem hy).1, List.mem_append_right _ (grp_mem hy).2⟩
  have hc' : chkUs (ta ++ grp u ra ++ (tb ++ grp u rb)) = 0 := chkUs_all.2 fun v hv => chkUs_all.1 hc v (by
    simp only [List.mem_append] at hv ⊢
    rcases hv with (hv | hv) | (hv | hv)
    · exact .inl (.inl hv)
    · exact .inl (.inr (grp_mem hv).2)
    · exact .inr (.inl hv)
    · exact .inr (.inr (grp_mem hv).2))
  obtain ⟨e1, e2⟩ := taken_same hf hc'
  obtain ⟨a1, a2⟩ := res_apart (keys_apart (f := f) (X := ta ++ tb) (Y := grp u ra ++ grp u rb) fun x hx y hy => hm.sep x hx y (hg y hy).2)
  obtain ⟨_, c2, c3⟩ := cons_chk hE
  simp only [List.flatten_cons, List.flatten_nil, List.append_nil] at c2 c3
  refine ⟨fun x hx y hy => ?_, ?_, ?_⟩
  · have hy' : y ∈ ra ++ rb ∧ plc u y < 0 := by
      rcases List.mem_append.1 hy with hy | hy
      · exact ⟨List.mem_append_left _ (List.mem_of_mem_drop hy), past_grp hra (fun z hz => hu z (List.mem_append_left _ hz)) y hy⟩
      · exact ⟨List.mem_append_right _ (List.mem_of_mem_drop hy), past_grp hrb (fun z hz => hu z (List.mem_append_right _ hz)) y hy⟩
    have hx' : x ∈ ta ++ tb ∨ x ∈ grp u ra ++ grp u rb := by
      simp only [List.mem_append] at hx ⊢
      rcases hx with (hx | hx) | (hx | hx)
      · exact .inl (.inl hx)
      · exact .inr (.inl hx)
      · exact .inl (.inr hx)
      · exact .inr (.inr hx)
    rcases hx' with hx | hx
    · exact hm.sep x hx y hy'.1
    · exact plc_lin.le_lt (by have := (hg x hx).1; omega) hy'.2
  · rw [e2, a2]; exact ⟨hm.fit, c2⟩
  · rw [e1, a1, hm.out_, c3, (resE_zero c2).1]
theorem res_ten {l : List (Uk × Int)} (h : resE Uk.cmp l ≠ 0) : resE Uk.cmp l = 10 := by
  unfold resE at *
  split at h
  · exact absurd rfl h
  · rename_i h1; rw [if_neg h1]
/-- a step that fails: then both together fail -/
theorem merge_fail {f : List Tm} {ta ra tb rb : List Up} {out : List (Uk × Int)} (hm : MInv f ta ra tb rb out) (hf : ∀ x ∈ f, x.right = true) (hc : chkUs (ta ++ ra ++ (tb ++ rb)) = 0) (hra : PlUp ra) (hrb : PlUp rb) {u : Up} (hu : ∀ y ∈ ra ++ rb, plc u y ≤ 0)
    (hE : consE [advL f (grp u ra ++ grp u rb)] ≠ 0) : consE [advL f (grp u ra ++ grp u rb)] = 10 ∧ consE [advL f (ta ++ ra ++ (tb ++ rb))] = 10 := by
  have hcg : chkUs (grp u ra ++ grp u rb) = 0 := chkUs_all.2 fun v hv => chkUs_all.1 hc v (by
    simp only [List.mem_append] at hv ⊢
    rcases hv with hv | hv
    · exact .inl (.inr (grp_mem hv).2)
    · exact .inr (.inr (grp_mem hv).2))
  have hone : ∀ {l : List Up}, chkUs l = 0 → consE [advL f l] = resE Uk.cmp ((advL f l).map Up.p) := fun {l} h => by
    unfold consE
    rw [if_pos (chkLs_all.2 fun m hm => by obtain rfl : m = advL f l := (by simpa using hm); exact (chkUs_adv hf l).trans h)]
    simp
  rw [hone hcg] at hE ⊢
  rw [hone hc]
  refine ⟨res_ten hE, res_ten fun h => hE ?_⟩
  rw [(taken_same hf hc).2] at h
  have h1 := ((res_apart (keys_apart (f := f) (X := ta ++ tb) (Y := ra ++ rb) hm.sep)).2.1 h).2
  have hsp : ra ++ rb = grp u ra ++ ra.drop (grp u ra).length ++ (grp u rb ++ rb.drop (grp u rb).length) := by rw [← grp_split, ← grp_split]
  have hcr : chkUs (grp u ra ++ ra.drop (grp u ra).length ++ (grp u rb ++ rb.drop (grp u rb).length)) = 0 := by
    rw [← hsp]
    exact chkUs_all.2 fun v hv => chkUs_all.1 hc v (by
      simp only [List.mem_append] at hv ⊢
      rcases hv with hv | hv
      · exact .inl (.inr hv)
      · exact .inr (.inr hv))
  rw [hsp, (taken_same hf hcr).2] at h1
  refine ((res_apart (keys_apart (f := f) (X := grp u ra ++ grp u rb) (Y := ra.drop (grp u ra).length ++ rb.drop (grp u rb).length) fun x hx y hy => ?_)).2.1 h1).1
  have hx0 : plc x u = 0 := by
    rcases List.mem_append.1 hx with hx | hx
    · exact (grp_mem hx).1
    · exact (grp_mem hx).1
  refine plc_lin.le_lt (b := u) (by omega) ?_
  rcases List.mem_append.1 hy with hy | hy
  · exact past_grp hra (fun z hz => hu z (List.mem_append_left _ hz)) y hy
  · exact past_grp hrb (fun z hz => hu z (List.mem_append_right _ hz)) y hy
/-- at the end: what both together make -/
theorem merge_end {f : List Tm} {a b : List Up} {out : List (Uk × Int)} (hm : MInv f a [] b [] out) (hf : ∀ x ∈ f, x.right = true) (hc : chkUs (a ++ b) = 0) : consE [advL f (a ++ b)] = 0 ∧ consL [advL f (a ++ b)] = out := by
  have h1 : chkLs [advL f (a ++ b)] = 0 := chkLs_all.2 fun m hm => by obtain rfl : m = advL f (a ++ b) := (by simpa using hm); exact (chkUs_adv hf _).trans hc
  unfold consE consL
  rw [if_pos h1, if_pos h1]
  simp only [List.flatten_cons, List.flatten_nil, List.append_nil]
  exact ⟨hm.fit, by rw [(resE_zero hm.fit).1, hm.out_]⟩
end Go.Proofs.YtbccdmpnojdldaaGreat
namespace Go.Proofs.YtbccdmpnojdldaaGreat
open Go Go.RowKit

/-- an update with the key and row of the next step -/
def nextM : List Up → List Up → Option Up
  | [], [] => none
  | x :: _, [] => some x
  | [], y :: _ => some y
  | x :: _, y :: _ => if plc x y ≤ 0 then some x else some y
theorem next_none {ra rb : List Up} : nextM ra rb = none ↔ ra = [] ∧ rb = [] := by
  cases ra <;> cases rb <;> simp [nextM]
  split <;> simp
theorem plc_self (u : Up) : plc u u = 0 := plc_lin.self u
theorem head_le {x : Up} {r : List Up} (h : PlUp (x :: r)) : ∀ y ∈ x :: r, plc x y ≤ 0 := fun y hy => by
  rcases List.mem_cons.1 hy with rfl | hy
  · exact Int.le_of_eq (plc_self _)
  · exact (List.pairwise_cons.1 h).1 y hy
theorem next_min {ra rb : List Up} {u : Up} (h : nextM ra rb = some u) (hra : PlUp ra) (hrb : PlUp rb) : ∀ y ∈ ra ++ rb, plc u y ≤ 0 := by
  cases ra with
  | nil =>
    cases rb with
    | nil => cases h
    | cons y rb =>
      obtain rfl : y = u := by simpa [nextM] using h
      simpa using head_le hrb
  | cons x ra =>
    cases rb with
    | nil =>
      obtain rfl : x = u := by simpa [nextM] using h
      simpa using head_le hra
    | cons y rb =>
      have h : (if plc x y ≤ 0 then some x else some y) = some u := h
      split at h
      · rename_i h0
        obtain rfl : x = u := by simpa using h
        intro z hz
        rcases List.mem_append.1 hz with hz | hz
        · exact head_le hra z hz
        · exact (plc_lin.le x y z h0 (head_le hrb z hz)).1
      · rename_i h0
        obtain rfl : y = u := by simpa using h
        have h1 : plc y x < 0 := by have := plc_lin.swap x y; omega
        intro z hz
        rcases List.mem_append.1 hz with hz | hz
        · exact Int.le_of_lt (plc_lin.lt_le h1 (head_le hra z hz))
        · exact head_le hrb z hz
theorem grp_head (u : Up) (r : List Up) : 0 < (grp u (u :: r)).length := by
  unfold grp
  rw [List.takeWhile_cons_of_pos (by simpa using plc_self u)]
  exact Nat.succ_pos _
/-- a step takes some -/
theorem grp_pos {ra rb : List Up} {u : Up} (h : nextM ra rb = some u) : 0 < (grp u ra).length + (grp u rb).length := by
  cases ra with
  | nil =>
    cases rb with
    | nil => cases h
    | cons y rb =>
      obtain rfl : y = u := by simpa [nextM] using h
      have := grp_head y rb; omega
  | cons x ra =>
    cases rb with
    | nil =>
      obtain rfl : x = u := by simpa [nextM] using h
      have := grp_head x ra; omega
    | cons y rb =>
      have h : (if plc x y ≤ 0 then some x else some y) = some u := h
      split at h
      · obtain rfl : x = u := by simpa using h
        have := grp_head x ra; omega
      · obtain rfl : y = u := by simpa using h
        have := grp_head y rb; omega
theorem plup_drop {r : List Up} (h : PlUp r) (n : Nat) : PlUp (r.drop n) := List.Pairwise.sublist (List.drop_sublist _ _) h
section
variable {f : List Tm} {ta ra tb rb : List Up} {out : List (Uk × Int)} {O : List Up}
theorem minv_key (hm : MInv f ta ra tb rb out) (hO : O.map Up.p = out) {z : Up} (hz : z ∈ O) : ∃ x ∈ ta ++ tb, x.key = z.key ∧ x.row = z.row ∧ adv x.t f = z.t := by
  have h : z.p ∈ nz Uk.cmp ((advL f (ta ++ tb)).map Up.p) := by rw [← hm.out_, ← hO]; exact List.mem_map_of_mem hz
  obtain ⟨p, hp, e⟩ := nz_keys h
  obtain ⟨v, hv, rfl⟩ := List.mem_map.1 hp
  obtain ⟨x, hx, rfl⟩ := List.mem_map.1 hv
  have e : (⟨x.key, x.row, adv x.t f⟩ : Uk) = ⟨z.key, z.row, z.t⟩ := e
  injection e with e1 e2 e3
  exact ⟨x, hx, e1, e2, e3⟩
theorem minv_advd (hm : MInv f ta ra tb rb out) (hO : O.map Up.p = out) : ∀ z ∈ O, adv z.t f = z.t := fun z hz => by
  obtain ⟨x, _, _, _, e⟩ := minv_key hm hO hz
  rw [← e]
  exact adv_again x.t f
theorem minv_ahead (hm : MInv f ta ra tb rb out) (hO : O.map Up.p = out) : ∀ z ∈ O, ∀ y ∈ ra ++ rb, plc z y < 0 := fun z hz y hy => by
  obtain ⟨x, hx, e1, e2, _⟩ := minv_key hm hO hz
  have := hm.sep x hx y hy
  unfold plc at *
  rwa [e1, e2] at this
theorem minv_even (hm : MInv f ta ra tb rb out) (hf : ∀ x ∈ f, x.right = true) (hc : chkUs (ta ++ tb) = 0) (hO : O.map Up.p = out) : EvenP O := by
  have hR := adv_keys hf hc
  have hn : O.map Up.p = nz Uk.cmp ((advL f (ta ++ tb)).map Up.p) := hO.trans hm.out_
  refine ⟨fun z hz => ?_, by rw [hn]; exact nz_srt uk_lin _, chkUs_all.2 fun z hz => ?_⟩
  · have h : z.p ∈ nz Uk.cmp ((advL f (ta ++ tb)).map Up.p) := by rw [← hn]; exact List.mem_map_of_mem hz
    exact ((nz_mem uk_lin hR z.p).1 h).2.2
  · have h : z.p ∈ nz Uk.cmp ((advL f (ta ++ tb)).map Up.p) := by rw [← hn]; exact List.mem_map_of_mem hz
    exact nz_right (R := UkR) hR _ h
end
end Go.Proofs.YtbccdmpnojdldaaGreat
namespace Go.Proofs.YtbccdmpnojdldaaGreat
open Go Go.RowKit

/-- a merger at work: of both lists what is taken and what is left, what came of it, the cost, the error -/
structure MS where
  ta : List Up
  ra : List Up
  tb : List Up
  rb : List Up
  out : List (Uk × Int)
  cost : Nat
  E : Int
def MS.left (s : MS) : Nat := s.ra.length + s.rb.length
def MS.step (f : List Tm) (s : MS) (u : Up) : MS :=
  { ta := s.ta ++ grp u s.ra, ra := s.ra.drop (grp u s.ra).length, tb := s.tb ++ grp u s.rb, rb := s.rb.drop (grp u s.rb).length, out := s.out ++ consL [advL f (grp u s.ra ++ grp u s.rb)], cost := s.cost + ((grp u s.ra).length + (grp u s.rb).length), E := 0 }
def workM (f : List Tm) (fuel : Int) : Nat → MS → MS
  | 0, s => s
  | n + 1, s => if (s.cost : Int) < fuel then
      match nextM s.ra s.rb with
      | none => s
      | some u => if consE [advL f (grp u s.ra ++ grp u s.rb)] = 0 then workM f fuel n (s.step f u) else { s with E := consE [advL f (grp u s.ra ++ grp u s.rb)] }
    else s
theorem grp_le (u : Up) (r : List Up) : (grp u r).length ≤ r.length := (List.takeWhile_sublist _).length_le
theorem step_left {f : List Tm} {s : MS} {u : Up} (h : nextM s.ra s.rb = some u) : (s.step f u).left < s.left ∧ (s.step f u).cost + (s.step f u).left = s.cost + s.left ∧ s.cost < (s.step f u).cost := by
  have h1 := grp_pos h
  have h2 := grp_le u s.ra
  have h3 := grp_le u s.rb
  unfold MS.left MS.step
  dsimp only
  rw [List.length_drop, List.length_drop]
  omega
/-- what stays right on the way -/
structure MS.Fine (f : List Tm) (a b : List Up) (s : MS) : Prop where
  inv : MInv f s.ta s.ra s.tb s.rb s.out
  a_ : s.ta ++ s.ra = a
  b_ : s.tb ++ s.rb = b
theorem fine_step {f : List Tm} {a b : List Up} {s : MS} {u : Up} (h : s.Fine f a b) (hf : ∀ x ∈ f, x.right = true) (hc : chkUs (a ++ b) = 0) (ha : PlUp a) (hb : PlUp b) (hu : nextM s.ra s.rb = some u) (hE : consE [advL f (grp u s.ra ++ grp u s.rb)] = 0) : (s.step f u).Fine f a b := by
  have hra : PlUp s.ra := by have := h.a_ ▸ ha; exact (List.pairwise_append.1 this).2.1
  have hrb : PlUp s.rb := by have := h.b_ ▸ hb; exact (List.pairwise_append.1 this).2.1
  refine ⟨merge_step h.inv hf (by rw [h.a_, h.b_]; exact hc) hra hrb (next_min hu hra hrb) hE, ?_, ?_⟩
  · show s.ta ++ grp u s.ra ++ s.ra.drop (grp u s.ra).length = a
    rw [List.append_assoc, ← grp_split, h.a_]
  · show s.tb ++ grp u s.rb ++ s.rb.drop (grp u s.rb).length = b
    rw [List.append_assoc, ← grp_split, h.b_]
/-- all that work does -/
theorem work_fine {f : List Tm} {a b : List Up} (hf : ∀ x ∈ f, x.right = true) (hc : chkUs (a ++ b) = 0) (ha : PlUp a) (hb : PlUp b) (fuel : Int) : ∀ (n : Nat) (s : MS), s.E = 0 → s.left ≤ n → s.Fine f a b →
    (workM f fuel n s).Fine f a b ∧ (workM f fuel n s).cost + (workM f fuel n s).left = s.cost + s.left ∧ s.cost ≤ (workM f fuel n s).cost ∧
    ((workM f fuel n s).E = 0 ∧ ((workM f fuel n s).left = 0 ∨ fuel ≤ (workM f fuel n s).cost) ∧ ((s.cost : Int) < fuel → 0 < s.left → s.cost < (workM f fuel n s).cost) ∨ (workM f fuel n s).E = 10 ∧ consE [advL f (a ++ b)] = 10) ∧
    ((s.left = 0 ∨ fuel ≤ s.cost) → workM f fuel n s = s)
  | 0, s, h0, hl, hs => ⟨hs, rfl, Nat.le_refl _, .inl ⟨h0, .inl (by show s.left = 0; omega), fun _ h => by omega⟩, fun _ => rfl⟩
  | n + 1, s, h0, hl, hs => by
    by_cases hlt : (s.cost : Int) < fuel
    case neg =>
      have e : workM f fuel (n + 1) s = s := by unfold workM; rw [if_neg hlt]
      rw [e]
      exact ⟨hs, rfl, Nat.le_refl _, .inl ⟨h0, .inr (by omega), fun h => absurd h hlt⟩, fun _ => rfl⟩
    cases hu : nextM s.ra s.rb with
    | none =>
      have e : workM f fuel (n + 1) s = s := by unfold workM; rw [if_pos hlt, hu]
      have h1 := next_none.1 hu
      have hz : s.left = 0 := by unfold MS.left; rw [h1.1, h1.2]; rfl
      rw [e]
      exact ⟨hs, rfl, Nat.le_refl _, .inl ⟨h0, .inl hz, fun _ h => by omega⟩, fun _ => rfl⟩
    | some u =>
      obtain ⟨l1, l2, l3⟩ := step_left (f := f) hu
      have hpos : ¬ (s.left = 0 ∨ fuel ≤ s.cost) := by omega
      by_cases hE : consE [advL f (grp u s.ra ++ grp u s.rb)] = 0
      · have e : workM f fuel (n + 1) s = workM f fuel n (s.step f u) := by rw [workM, if_pos hlt, hu]; exact if_pos hE
        obtain ⟨i1, i2, i3, i4, i5⟩ := work_fine hf hc ha hb fuel n (s.step f u) rfl (by omega) (fine_step hs hf hc ha hb hu hE)
        rw [e]
        refine ⟨i1, by omega, by omega, ?_, fun h => absurd h hpos⟩
        rcases i4 with ⟨j1, j2, _⟩ | j
        · exact .inl ⟨j1, j2, fun _ _ => by omega⟩
        · exact .inr j
      · have e : workM f fuel (n + 1) s = { s with E := consE [advL f (grp u s.ra ++ grp u s.rb)] } := by rw [workM, if_pos hlt, hu]; exact if_neg hE
        have hra : PlUp s.ra := by have := hs.a_ ▸ ha; exact (List.pairwise_append.1 this).2.1
        have hrb : PlUp s.rb := by have := hs.b_ ▸ hb; exact (List.pairwise_append.1 this).2.1
        have hfail := merge_fail hs.inv hf (by rw [hs.a_, hs.b_]; exact hc) hra hrb (next_min hu hra hrb) hE
        rw [hs.a_, hs.b_] at hfail
        rw [e]
        exact ⟨⟨hs.inv, hs.a_, hs.b_⟩, rfl, Nat.le_refl _, .inr ⟨hfail.1, hfail.2⟩, fun h => absurd h hpos⟩
end Go.Proofs.YtbccdmpnojdldaaGreat
namespace Go.Proofs.YtbccdmpnojdldaaGreat
open Go Go.RowKit

/-- i divides l: no key and row on both sides, and those from i on behind all of o -/
structure DivB (l : List Up) (i : Int) (o : List Up) : Prop where
  lo : 0 ≤ i
  hi : i ≤ l.length
  side : ∀ x y, 0 < i → l[i.toNat - 1]? = some x → l[i.toNat]? = some y → plc x y < 0
  past : ∀ z y, o[o.length - 1]? = some z → l[i.toNat]? = some y → plc z y < 0
structure MergOk (f : List Tm) (a b o : List Up) (i j : Int) : Prop where
  even : EvenP a ∧ EvenP b ∧ EvenP o
  front : FrontOk f
  advd : ∀ u ∈ o, adv u.t f = u.t
  da : DivB a i o
  db : DivB b j o
theorem even_two {a b : List Up} (ha : EvenP a) (hb : EvenP b) : chkUs (a ++ b) = 0 := chkUs_all.2 fun u hu => by
  rcases List.mem_append.1 hu with hu | hu
  · exact chkUs_all.1 ha.2.2 u hu
  · exact chkUs_all.1 hb.2.2 u hu
theorem div_of {t r o : List Up} (h1 : ∀ x ∈ t, ∀ y ∈ r, plc x y < 0) (h2 : ∀ z ∈ o, ∀ y ∈ r, plc z y < 0) : DivB (t ++ r) t.length o := by
  have hr : ∀ y, (t ++ r)[(t.length : Int).toNat]? = some y → y ∈ r := fun y hy => by
    rw [Int.toNat_natCast, List.getElem?_append_right (Nat.le_refl _)] at hy
    exact List.mem_of_getElem? hy
  refine ⟨by omega, by rw [List.length_append]; omega, fun x y hi hx hy => ?_, fun z y hz hy => h2 z (List.mem_of_getElem? hz) y (hr y hy)⟩
  rw [Int.toNat_natCast, List.getElem?_append_left (by omega)] at hx
  exact h1 x (List.mem_of_getElem? hx) y (hr y hy)
/-- a merger at work is right -/
theorem fine_ok {f : List Tm} {a b o : List Up} {s : MS} (h : s.Fine f a b) (hf : FrontOk f) (ha : EvenP a) (hb : EvenP b) (ho : o.map Up.p = s.out) : MergOk f a b o s.ta.length s.tb.length := by
  have hc := even_two ha hb
  have hct : chkUs (s.ta ++ s.tb) = 0 := chkUs_all.2 fun u hu => chkUs_all.1 hc u (by
    rw [← h.a_, ← h.b_]
    simp only [List.mem_append] at hu ⊢
    rcases hu with hu | hu
    · exact .inl (.inl hu)
    · exact .inr (.inl hu))
  have hah := minv_ahead h.inv ho
  refine ⟨⟨ha, hb, minv_even h.inv hf.right hct ho⟩, hf, minv_advd h.inv ho, ?_, ?_⟩
  · rw [← h.a_]
    exact div_of (fun x hx y hy => h.inv.sep x (List.mem_append_left _ hx) y (List.mem_append_left _ hy)) fun z hz y hy => hah z hz y (List.mem_append_left _ hy)
  · rw [← h.b_]
    exact div_of (fun x hx y hy => h.inv.sep x (List.mem_append_right _ hx) y (List.mem_append_right _ hy)) fun z hz y hy => hah z hz y (List.mem_append_right _ hy)
theorem fine_start (f : List Tm) (a b : List Up) : MS.Fine f a b ⟨[], a, [], b, [], 0, 0⟩ := ⟨merge_start f a b, rfl, rfl⟩
/-- a merger that has nothing left: what it ends with -/
theorem fine_end {f : List Tm} {a b : List Up} {s : MS} (h : s.Fine f a b) (hf : ∀ x ∈ f, x.right = true) (hc : chkUs (a ++ b) = 0) (hl : s.left = 0) : consE [advL f (a ++ b)] = 0 ∧ consL [advL f (a ++ b)] = s.out := by
  unfold MS.left at hl
  have h1 : s.ra = [] := List.eq_nil_of_length_eq_zero (by omega)
  have h2 : s.rb = [] := List.eq_nil_of_length_eq_zero (by omega)
  have ea := h.a_
  have eb := h.b_
  have hi := h.inv
  rw [h1, List.append_nil] at ea
  rw [h2, List.append_nil] at eb
  rw [h1, h2, ea, eb] at hi
  exact merge_end hi hf hc
/-- a list of two lists of updates, advanced: as one -/
theorem cons_two {f : List Tm} {a b : List Up} : consE [advL f a ++ advL f b] = consE [advL f (a ++ b)] ∧ consL [advL f a ++ advL f b] = consL [advL f (a ++ b)] := by rw [advL_append]; exact ⟨rfl, rfl⟩
end Go.Proofs.YtbccdmpnojdldaaGreat
namespace Go.Proofs.YtbccdmpnojdldaaGreat
open Go Go.RowKit

/-- t is beyond f, or f is no frontier at all -/
def Past_ (f : List Tm) (t : Tm) : Prop := f = [] ∨ beyond f t = true
/-- beyond f, the same is there -/
def SameAt (f : List Tm) (X Y : List Up) : Prop := ∀ t, Past_ f t → ∀ r, sumOf cmpRows (atP X t) r = sumOf cmpRows (atP Y t) r
section
variable {f g : List Tm} {X Y Z W : List Up}
theorem SameAt.refl : SameAt f X X := fun _ _ _ => rfl
theorem SameAt.symm (h : SameAt f X Y) : SameAt f Y X := fun t ht r => (h t ht r).symm
theorem SameAt.trans (h : SameAt f X Y) (k : SameAt f Y Z) : SameAt f X Z := fun t ht r => (h t ht r).trans (k t ht r)
theorem SameAt.append (h : SameAt f X Y) (k : SameAt f Z W) : SameAt f (X ++ Z) (Y ++ W) := fun t ht r => by
  rw [at_append, at_append, sumOf_append, sumOf_append, h t ht r, k t ht r]
theorem SameAt.perm (h : X.Perm Y) : SameAt f X Y := fun t _ r => by
  refine sumOf_perm ?_ r
  unfold atP
  exact (h.filter _).map _
/-- g is later than f -/
def LaterF (g f : List Tm) : Prop := f = [] ∨ (g ≠ [] ∧ ∀ x ∈ g, beyond f x = true)
theorem past_later (h : LaterF g f) {t : Tm} (ht : Past_ g t) : Past_ f t := by
  rcases h with h | ⟨h1, h2⟩
  · exact .inl h
  · rcases ht with ht | ht
    · exact absurd ht h1
    · obtain ⟨x, hx, hxt⟩ := beyond_iff.1 ht
      obtain ⟨y, hy, hyx⟩ := beyond_iff.1 (h2 x hx)
      exact .inr (beyond_iff.2 ⟨y, hy, le_trans' hyx hxt⟩)
theorem later_refl (f : List Tm) : LaterF f f := by
  by_cases h : f = []
  · exact .inl h
  · exact .inr ⟨h, fun x hx => beyond_iff.2 ⟨x, hx, le_refl' x⟩⟩
theorem later_trans {e : List Tm} (h : LaterF g f) (k : LaterF f e) : LaterF g e := by
  rcases k with k | ⟨k1, k2⟩
  · exact .inl k
  · rcases h with h | ⟨h1, h2⟩
    · exact absurd h k1
    · refine .inr ⟨h1, fun x hx => ?_⟩
      obtain ⟨y, hy, hyx⟩ := beyond_iff.1 (h2 x hx)
      obtain ⟨z, hz, hzy⟩ := beyond_iff.1 (k2 y hy)
      exact beyond_iff.2 ⟨z, hz, le_trans' hzy hyx⟩
theorem SameAt.later (h : SameAt f X Y) (k : LaterF g f) : SameAt g X Y := fun t ht r => h t (past_later k ht) r
theorem same_adv : SameAt f (advL f X) X := fun t ht r => by rw [atP_adv ht]
/-- evened out -/
theorem same_cons {e : List Up} (h : consE [X] = 0) (he : e.map Up.p = consL [X]) : SameAt f e X := fun t _ r => by
  obtain ⟨h1, h2, h3⟩ := cons_chk h
  have hl : chkUs X = 0 := chkLs_all.1 h1 X (by simp)
  simp only [List.flatten_cons, List.flatten_nil, List.append_nil] at h2 h3
  rw [at_sum, at_sum, he, h3, (resE_zero h2).1, psum_nz uk_lin _ (keys_right (chkUs_all.1 hl))]
/-- a batch of them -/
theorem same_batch {e : List Up} (h : consE [advL f X] = 0) (he : e.map Up.p = consL [advL f X]) : SameAt f e X := (same_cons h he).trans same_adv
/-- what is there is told by the sums -/
theorem at_of_same (h : SameAt f X Y) {t : Tm} (ht : Past_ f t) (hX : chkUs X = 0) (hY : chkUs Y = 0) : atL X t = atL Y t ∧ atE X t = atE Y t := by
  by_cases hc : chk [t] = 0
  · rw [(at_of hX hc).1, (at_of hX hc).2, (at_of hY hc).1, (at_of hY hc).2]
    exact resL_ext row_lin (at_right hX) (at_right hY) fun r => h t ht r
  · have c1 : chkAt X t = chk [t] := by unfold chkAt orI; rw [if_pos hX]
    have c2 : chkAt Y t = chk [t] := by unfold chkAt orI; rw [if_pos hY]
    unfold atL atE
    rw [c1, c2, if_neg hc, if_neg hc, if_neg hc, if_neg hc]
    exact ⟨rfl, rfl⟩
/-- the parts of a merger: what it has of both lists, and what it has made, are still there -/
theorem same_merger {a b o : List Up} {s : MS} (h : s.Fine f a b) (hf : ∀ x ∈ f, x.right = true) (hc : chkUs (a ++ b) = 0) (ho : o.map Up.p = s.out) : SameAt f (o ++ (s.ra ++ s.rb)) (a ++ b) := by
  have hct : chkUs (s.ta ++ s.tb) = 0 := chkUs_all.2 fun u hu => chkUs_all.1 hc u (by
    rw [← h.a_, ← h.b_]
    simp only [List.mem_append] at hu ⊢
    rcases hu with hu | hu
    · exact .inl (.inl hu)
    · exact .inr (.inl hu))
  have h1 : SameAt f o (s.ta ++ s.tb) := by
    refine SameAt.trans (Y := advL f (s.ta ++ s.tb)) (fun t _ r => ?_) same_adv
    rw [at_sum, at_sum, ho, h.inv.out_, psum_nz uk_lin _ (adv_keys hf hct)]
  refine (h1.append SameAt.refl).trans ?_
  rw [← h.a_, ← h.b_]
  refine SameAt.perm ?_
  rw [List.append_assoc, List.append_assoc]
  refine List.Perm.append_left _ ?_
  rw [← List.append_assoc, ← List.append_assoc]
  exact List.Perm.append_right _ List.perm_append_comm
end
end Go.Proofs.YtbccdmpnojdldaaGreat
namespace Go.Proofs.YtbccdmpnojdldaaGreat
open Go Go.RowKit

theorem up_p {x y : Up} (h : x.p = y.p) : x.key = y.key ∧ x.row = y.row ∧ x.t = y.t ∧ x.d = y.d := by
  have h : ((⟨x.key, x.row, x.t⟩ : Uk), x.d) = ((⟨y.key, y.row, y.t⟩ : Uk), y.d) := h
  simp only [Prod.mk.injEq, Uk.mk.injEq] at h
  exact ⟨h.1.1, h.1.2.1, h.1.2.2, h.2⟩
theorem plc_p {x x' y y' : Up} (hx : x.p = x'.p) (hy : y.p = y'.p) : plc x y = plc x' y' := by
  obtain ⟨a, b, _⟩ := up_p hx
  obtain ⟨c, d, _⟩ := up_p hy
  unfold plc
  rw [a, b, c, d]
theorem map_pk {l m : List Up} (h : l.map Up.p = m.map Up.p) : l.map Up.k = m.map Up.k := by
  have := congrArg (List.map Prod.fst) h
  rw [List.map_map, List.map_map] at this
  exact this
theorem chkUs_p : ∀ {l m : List Up}, l.map Up.p = m.map Up.p → chkUs l = chkUs m
  | [], [], _ => rfl
  | [], _ :: _, h => by simp at h
  | _ :: _, [], h => by simp at h
  | x :: l, y :: m, h => by
    rw [List.map_cons, List.map_cons, List.cons.injEq] at h
    have ih := chkUs_p h.2
    have hk : x.k = y.k := congrArg Prod.fst h.1
    unfold chkUs chkU
    rw [ih, hk]
theorem even_p {l m : List Up} (h : l.map Up.p = m.map Up.p) (hl : EvenP l) : EvenP m := by
  refine ⟨fun u hu => ?_, by rw [← h]; exact hl.2.1, by rw [← chkUs_p h]; exact hl.2.2⟩
  have : u.p ∈ l.map Up.p := by rw [h]; exact List.mem_map_of_mem hu
  obtain ⟨x, hx, e⟩ := List.mem_map.1 this
  rw [← (up_p e).2.2.2]
  exact hl.1 x hx
theorem advL_p {l m : List Up} (f : List Tm) (h : l.map Up.p = m.map Up.p) : (advL f l).map Up.p = (advL f m).map Up.p := by
  have e : ∀ n : List Up, (advL f n).map Up.p = (n.map Up.p).map fun x => ((⟨x.1.key, x.1.row, adv x.1.t f⟩ : Uk), x.2) := fun n => by
    unfold advL
    rw [List.map_map, List.map_map]
    rfl
  rw [e, e, h]
theorem consL_p {l m : List Up} (h : l.map Up.p = m.map Up.p) : consL [l] = consL [m] ∧ consE [l] = consE [m] := by
  have hc : chkLs [l] = chkLs [m] := by unfold chkLs; rw [chkUs_p h]
  unfold consL consE
  rw [hc]
  simp only [List.flatten_cons, List.flatten_nil, List.append_nil]
  rw [h]
  exact ⟨rfl, rfl⟩
theorem mem_p {l m : List Up} (h : l.map Up.p = m.map Up.p) {x : Up} (hx : x ∈ l) : ∃ y ∈ m, y.p = x.p := by
  have : x.p ∈ m.map Up.p := by rw [← h]; exact List.mem_map_of_mem hx
  obtain ⟨y, hy, e⟩ := List.mem_map.1 this
  exact ⟨y, hy, e⟩
theorem len_p {l m : List Up} (h : l.map Up.p = m.map Up.p) : l.length = m.length := by have := congrArg List.length h; simpa using this
theorem take_p {l m : List Up} (h : l.map Up.p = m.map Up.p) (n : Nat) : (l.take n).map Up.p = (m.take n).map Up.p := by rw [List.map_take, List.map_take, h]
theorem drop_p {l m : List Up} (h : l.map Up.p = m.map Up.p) (n : Nat) : (l.drop n).map Up.p = (m.drop n).map Up.p := by rw [List.map_drop, List.map_drop, h]
theorem app_p {l m l' m' : List Up} (h : l.map Up.p = m.map Up.p) (h' : l'.map Up.p = m'.map Up.p) : (l ++ l').map Up.p = (m ++ m').map Up.p := by rw [List.map_append, List.map_append, h, h']
theorem advd_p {f : List Tm} {l m : List Up} (h : l.map Up.p = m.map Up.p) (hl : ∀ u ∈ l, adv u.t f = u.t) : ∀ u ∈ m, adv u.t f = u.t := fun u hu => by
  obtain ⟨x, hx, e⟩ := mem_p h.symm hu
  have := (up_p e).2.2.1
  rw [← this]
  exact hl x hx
/-- a merger as it lies, at work from where it is -/
def startM (a : List Up) (i : Nat) (b : List Up) (j : Nat) (o : List (Uk × Int)) : MS := ⟨a.take i, a.drop i, b.take j, b.drop j, o, 0, 0⟩
def FineM (f : List Tm) (a : List Up) (i : Nat) (b : List Up) (j : Nat) (o : List (Uk × Int)) : Prop := i ≤ a.length ∧ j ≤ b.length ∧ (startM a i b j o).Fine f a b
theorem finem_copy {f : List Tm} {a a' b b' : List Up} {i j : Nat} {o : List (Uk × Int)} (h : FineM f a i b j o) (ha : a.map Up.p = a'.map Up.p) (hb : b.map Up.p = b'.map Up.p) : FineM f a' i b' j o := by
  obtain ⟨h1, h2, h3⟩ := h
  refine ⟨by rw [← len_p ha]; exact h1, by rw [← len_p hb]; exact h2, ⟨fun x hx y hy => ?_, ?_, ?_⟩, List.take_append_drop _ _, List.take_append_drop _ _⟩
  · obtain ⟨x0, hx0, ex⟩ := mem_p (app_p (take_p ha i) (take_p hb j)).symm hx
    obtain ⟨y0, hy0, ey⟩ := mem_p (app_p (drop_p ha i) (drop_p hb j)).symm hy
    rw [← plc_p ex ey]
    exact h3.inv.sep x0 hx0 y0 hy0
  · have := advL_p f (app_p (take_p ha i) (take_p hb j))
    show resE Uk.cmp ((advL f (a'.take i ++ b'.take j)).map Up.p) = 0
    rw [← this]
    exact h3.inv.fit
  · have := advL_p f (app_p (take_p ha i) (take_p hb j))
    show o = nz Uk.cmp ((advL f (a'.take i ++ b'.take j)).map Up.p)
    rw [← this]
    exact h3.inv.out_
theorem finem_start (f : List Tm) (a b : List Up) : FineM f a 0 b 0 [] := ⟨Nat.zero_le _, Nat.zero_le _, fine_start f a b⟩
theorem finem_of {f : List Tm} {a b : List Up} {s : MS} (h : s.Fine f a b) : FineM f a s.ta.length b s.tb.length s.out := by
  obtain ⟨h1, h2, h3⟩ := h
  subst h2; subst h3
  refine ⟨by rw [List.length_append]; omega, by rw [List.length_append]; omega, ?_⟩
  have e : startM (s.ta ++ s.ra) s.ta.length (s.tb ++ s.rb) s.tb.length s.out = ⟨s.ta, s.ra, s.tb, s.rb, s.out, 0, 0⟩ := by
    unfold startM
    rw [List.take_left, List.drop_left, List.take_left, List.drop_left]
  rw [e]
  exact ⟨h1, rfl, rfl⟩
/-- such a merger is right -/
theorem finem_ok {f : List Tm} {a b o : List Up} {i j : Nat} {O : List (Uk × Int)} (h : FineM f a i b j O) (hf : FrontOk f) (ha : EvenP a) (hb : EvenP b) (ho : o.map Up.p = O) : MergOk f a b o i j := by
  obtain ⟨h1, h2, h3⟩ := h
  have := fine_ok h3 hf ha hb ho
  have e1 : (startM a i b j O).ta.length = i := by show (a.take i).length = i; rw [List.length_take]; omega
  have e2 : (startM a i b j O).tb.length = j := by show (b.take j).length = j; rw [List.length_take]; omega
  rwa [e1, e2] at this
theorem start_left (a : List Up) (i : Nat) (b : List Up) (j : Nat) (o : List (Uk × Int)) : (startM a i b j o).left = (a.length - i) + (b.length - j) := by
  unfold startM MS.left
  rw [List.length_drop, List.length_drop]
theorem work_E {f : List Tm} {fuel : Int} : ∀ (n : Nat) (s : MS), s.E = 0 → (workM f fuel n s).ta.length + (workM f fuel n s).tb.length = s.ta.length + s.tb.length + ((workM f fuel n s).cost - s.cost) ∧ s.cost ≤ (workM f fuel n s).cost
  | 0, s, _ => ⟨by show _ = _ + (s.cost - s.cost); rw [Nat.sub_self]; rfl, Nat.le_refl _⟩
  | n + 1, s, h => by
    unfold workM
    split
    · cases hu : nextM s.ra s.rb with
      | none => exact ⟨by show _ = _ + (s.cost - s.cost); rw [Nat.sub_self]; rfl, Nat.le_refl _⟩
      | some u =>
        dsimp only
        split
        · obtain ⟨h1, h2⟩ := work_E (f := f) (fuel := fuel) n (s.step f u) rfl
          have e1 : (s.step f u).ta.length = s.ta.length + (grp u s.ra).length := List.length_append
          have e2 : (s.step f u).tb.length = s.tb.length + (grp u s.rb).length := List.length_append
          have e3 : (s.step f u).cost = s.cost + ((grp u s.ra).length + (grp u s.rb).length) := rfl
          omega
        · exact ⟨by show _ = _ + (s.cost - s.cost); rw [Nat.sub_self]; rfl, Nat.le_refl _⟩
    · exact ⟨by show _ = _ + (s.cost - s.cost); rw [Nat.sub_self]; rfl, Nat.le_refl _⟩
end Go.Proofs.YtbccdmpnojdldaaGreat
namespace Go.Proofs.YtbccdmpnojdldaaGreat
open Go Go.RowKit

/-- a batch: its frontier, its updates -/
structure Bt where
  sA : Option Addr
  sc : Nat
  f : List Tm
  uA : Option Addr
  uc : Nat
  l : List Up
namespace Bt
def cells (b : Bt) : List Value := [.slice b.sA b.f.length b.sc, .slice b.uA b.l.length b.uc]
def val (b : Bt) : Value := .agg #[.slice b.sA b.f.length b.sc, .slice b.uA b.l.length b.uc]
end Bt
structure BtIn (w : World) (B : Nat) (b : Bt) : Prop where
  since : Times w B b.sA b.f
  ups : Ups w B b.uA b.l
theorem BtIn.past {w w' : World} {B B' : Nat} {b : Bt} (h : BtIn w B b) (hb : Below B' w w') (hB : B ≤ B') : BtIn w' B b := ⟨h.since.past hb hB, h.ups.past hb hB⟩
theorem BtIn.wide {w : World} {B B' : Nat} {b : Bt} (h : BtIn w B b) (hB : B ≤ B') : BtIn w B' b := ⟨h.since.wide hB, h.ups.wide hB⟩
theorem BtIn.keep {w w' : World} {b : Bt} (h : BtIn w w.heap.size b) (hb : Below w.heap.size w w') : BtIn w' w'.heap.size b := (h.past hb (Nat.le_refl _)).wide hb.size
/-- how great lists may be -/
def big : Nat := 1099511627776
theorem big_eq : big = 1099511627776 := rfl
structure TsOk (f : List Tm) (c : Nat) : Prop where
  n : f.length ≤ 1099511627776
  le : f.length ≤ c
  c_ : c ≤ maxLen
structure UsOk (l : List Up) : Prop where
  n : l.length ≤ 1099511627776
  ok : ∀ u ∈ l, UOk u
structure BtOk (b : Bt) : Prop where
  f : TsOk b.f b.sc
  l : UsOk b.l
def Bt.nil : Bt := ⟨none, 0, [], none, 0, []⟩
theorem bt_nil_in (w : World) (B : Nat) : BtIn w B Bt.nil := ⟨Times.nil_, ⟨Lies.nil_, fun u hu => by cases hu⟩⟩
theorem ts_nil : TsOk [] 0 := ⟨Nat.zero_le _, Nat.le_refl _, Nat.zero_le _⟩
theorem us_nil : UsOk [] := ⟨Nat.zero_le _, fun u hu => by cases hu⟩
theorem bt_nil_ok : BtOk Bt.nil := ⟨ts_nil, us_nil⟩
/-- it lies in no block below B -/
def LoT (B : Nat) (A : Option Addr) : Prop := ∀ b o, A = some (⟨b, o, none⟩ : Addr) → B ≤ b
structure BtLo (B : Nat) (b : Bt) : Prop where
  f : LoT B b.sA
  l : Lo B b.uA b.l
theorem lot_nil (B : Nat) : LoT B none := fun _ _ h => by cases h
theorem bt_nil_lo (B : Nat) : BtLo B Bt.nil := ⟨lot_nil B, lo_nil B⟩
theorem Lo.mono {B B' : Nat} {A : Option Addr} {l : List Up} (h : Lo B A l) (hB : B' ≤ B) : Lo B' A l := ⟨fun b o e => Nat.le_trans hB (h.1 b o e), fun u hu b o e => Nat.le_trans hB (h.2 u hu b o e)⟩
theorem LoT.mono {B B' : Nat} {A : Option Addr} (h : LoT B A) (hB : B' ≤ B) : LoT B' A := fun b o e => Nat.le_trans hB (h b o e)
theorem BtLo.mono {B B' : Nat} {b : Bt} (h : BtLo B b) (hB : B' ≤ B) : BtLo B' b := ⟨h.f.mono hB, h.l.mono hB⟩
/-- a merger: two lists, how far each is, its frontier, what came of it -/
structure Mg where
  aA : Option Addr
  ac : Nat
  a : List Up
  bA : Option Addr
  bc : Nat
  b : List Up
  i : Int
  j : Int
  sA : Option Addr
  sc : Nat
  f : List Tm
  oA : Option Addr
  oc : Nat
  o : List Up
namespace Mg
def cells (m : Mg) : List Value := [.slice m.aA m.a.length m.ac, .slice m.bA m.b.length m.bc, .int .i64 m.i, .int .i64 m.j, .slice m.sA m.f.length m.sc, .slice m.oA m.o.length m.oc]
def val (m : Mg) : Value := .agg #[.slice m.aA m.a.length m.ac, .slice m.bA m.b.length m.bc, .int .i64 m.i, .int .i64 m.j, .slice m.sA m.f.length m.sc, .slice m.oA m.o.length m.oc]
def nil : Mg := ⟨none, 0, [], none, 0, [], 0, 0, none, 0, [], none, 0, []⟩
end Mg
structure MgIn (w : World) (B : Nat) (m : Mg) : Prop where
  a : Ups w B m.aA m.a
  b : Ups w B m.bA m.b
  f : Times w B m.sA m.f
  o : Ups w B m.oA m.o
theorem MgIn.past {w w' : World} {B B' : Nat} {m : Mg} (h : MgIn w B m) (hb : Below B' w w') (hB : B ≤ B') : MgIn w' B m := ⟨h.a.past hb hB, h.b.past hb hB, h.f.past hb hB, h.o.past hb hB⟩
theorem MgIn.wide {w : World} {B B' : Nat} {m : Mg} (h : MgIn w B m) (hB : B ≤ B') : MgIn w B' m := ⟨h.a.wide hB, h.b.wide hB, h.f.wide hB, h.o.wide hB⟩
theorem MgIn.keep {w w' : World} {m : Mg} (h : MgIn w w.heap.size m) (hb : Below w.heap.size w w') : MgIn w' w'.heap.size m := (h.past hb (Nat.le_refl _)).wide hb.size
structure MgOk (m : Mg) : Prop where
  a : UsOk m.a
  b : UsOk m.b
  f : TsOk m.f m.sc
  o : UsOk m.o
  i : -9223372036854775808 ≤ m.i ∧ m.i ≤ 9223372036854775807
  j : -9223372036854775808 ≤ m.j ∧ m.j ≤ 9223372036854775807
structure MgLo (B : Nat) (m : Mg) : Prop where
  a : Lo B m.aA m.a
  b : Lo B m.bA m.b
  f : LoT B m.sA
  o : Lo B m.oA m.o
theorem MgLo.mono {B B' : Nat} {m : Mg} (h : MgLo B m) (hB : B' ≤ B) : MgLo B' m := ⟨h.a.mono hB, h.b.mono hB, h.f.mono hB, h.o.mono hB⟩
theorem mg_nil_in (w : World) (B : Nat) : MgIn w B Mg.nil := ⟨⟨Lies.nil_, fun u hu => by cases hu⟩, ⟨Lies.nil_, fun u hu => by cases hu⟩, Times.nil_, ⟨Lies.nil_, fun u hu => by cases hu⟩⟩
theorem mg_nil_ok : MgOk Mg.nil := ⟨us_nil, us_nil, ts_nil, us_nil, by decide, by decide⟩
theorem mg_nil_lo (B : Nat) : MgLo B Mg.nil := ⟨lo_nil B, lo_nil B, lot_nil B, lo_nil B⟩
/-- a batch's two cells in a block of their own -/
theorem btbox (w : World) (b : Bt) : ∃ W, W = w.alloc (.cells #[.slice b.sA b.f.length b.sc, .slice b.uA b.l.length b.uc] 26) ∧ Below w.heap.size w W ∧ W.heap.size = w.heap.size + 1 ∧ Own W w.heap.size 26 b.cells :=
  ⟨_, rfl, (Below.refl _ _).alloc (Nat.le_refl _) _, by simp, Own.made w 26 b.cells⟩
/-- a merger's six -/
theorem mgbox (w : World) (m : Mg) : ∃ W, W = w.alloc (.cells #[.slice m.aA m.a.length m.ac, .slice m.bA m.b.length m.bc, .int .i64 m.i, .int .i64 m.j, .slice m.sA m.f.length m.sc, .slice m.oA m.o.length m.oc] 43) ∧ Below w.heap.size w W ∧ W.heap.size = w.heap.size + 1 ∧ Own W w.heap.size 43 m.cells :=
  ⟨_, rfl, (Below.refl _ _).alloc (Nat.le_refl _) _, by simp, Own.made w 43 m.cells⟩
/-- what lies in other blocks than the one that turned -/
theorem times_other {w X : World} {P : Nat} {A : Option Addr} {l : List Tm} (h : Times w w.heap.size A l) (hA : LoT (P + 1) A) (hs : X.heap.size = w.heap.size) (hX : ∀ b, b ≠ P → X.heap[b]? = w.heap[b]?) : Times X X.heap.size A l := fun hp => by
  obtain ⟨b, o, e, hb, hc⟩ := h hp
  have hne : b ≠ P := by have := hA b o e; omega
  have hk : ∀ j, X.cell? ⟨b, j, none⟩ = w.cell? ⟨b, j, none⟩ := fun j => by unfold World.cell?; rw [hX b hne]
  refine ⟨b, o, e, by omega, fun i v hi => ?_⟩
  obtain ⟨a0, a1, a2⟩ := hc i v hi
  exact ⟨(hk _).trans a0, (hk _).trans a1, (hk _).trans a2⟩
theorem ups_other {w X : World} {P : Nat} {A : Option Addr} {l : List Up} (h : Ups w w.heap.size A l) (hlo : Lo (P + 1) A l) (hs : X.heap.size = w.heap.size) (hX : ∀ b, b ≠ P → X.heap[b]? = w.heap[b]?) : Ups X X.heap.size A l := by
  refine ⟨fun hp => ?_, fun u hu => ⟨vals_other (h.each_ u hu).key (fun b o e => hlo.2 u hu b o (.inl e)) hs hX, vals_other (h.each_ u hu).row (fun b o e => hlo.2 u hu b o (.inr e)) hs hX⟩⟩
  obtain ⟨b, o, e, hb, hc⟩ := h.head hp
  have hne : b ≠ P := by have := hlo.1 b o e; omega
  exact ⟨b, o, e, by omega, fun i x hi j u hj => by
    rw [← hc i x hi j u hj]
    unfold World.cell?
    rw [hX b hne]⟩
theorem set2_other (w : World) (P : Nat) (x y : Value) : ((w.setCell ⟨P, 0, none⟩ x).setCell ⟨P, 1, none⟩ y).heap.size = w.heap.size ∧ ∀ b, b ≠ P → ((w.setCell ⟨P, 0, none⟩ x).setCell ⟨P, 1, none⟩ y).heap[b]? = w.heap[b]? :=
  ⟨by simp [World.setCell], fun b hb => (Below.heap_setCell _ ⟨P, 1, none⟩ y b hb).trans (Below.heap_setCell w ⟨P, 0, none⟩ x b hb)⟩
end Go.Proofs.YtbccdmpnojdldaaGreat
namespace Go.Proofs.YtbccdmpnojdldaaGreat
open Go Go.RowKit

/-- all that was there but blocks P and g is as it was -/
structure Fr (w w' : World) (P g : Nat) : Prop where
  os : w'.os = w.os
  tape : w'.tape = w.tape
  output : w'.output = w.output
  size : w.heap.size ≤ w'.heap.size
  block : ∀ k, k < w.heap.size → k ≠ P → k ≠ g → w'.heap[k]? = w.heap[k]?
theorem Fr.refl (w : World) (P g : Nat) : Fr w w P g := ⟨rfl, rfl, rfl, Nat.le_refl _, fun _ _ _ _ => rfl⟩
theorem Fr.trans {a b c : World} {P g : Nat} (h : Fr a b P g) (k : Fr b c P g) : Fr a c P g := ⟨k.os.trans h.os, k.tape.trans h.tape, k.output.trans h.output, Nat.le_trans h.size k.size, fun i h0 h1 h2 => (k.block i (Nat.lt_of_lt_of_le h0 h.size) h1 h2).trans (h.block i h0 h1 h2)⟩
theorem Fr.below {w w' : World} {P g B : Nat} (h : Fr w w' P g) (hP : B ≤ P) (hg : B ≤ g) (hB : B ≤ w.heap.size) : Below B w w' := ⟨h.os, h.tape, h.output, h.size, fun k hk => h.block k (by omega) (by omega) (by omega)⟩
/-- rows copied so far: in block g, told by the variable P -/
structure Rws (w : World) (P g n cap base : Nat) (xs : List Value) : Prop where
  var : Own w P 116 [.slice (some ⟨g, 0, none⟩) n cap]
  row : w.ownsRow base 63 3 (.slice (some ⟨g, 0, none⟩) n cap) n xs
  ne : g ≠ P
theorem ret_sub {A : Option Addr} {m n c : Nat} (h : m = n) : Ending.returned (.slice A m c) = .returned (.slice A n c) := by rw [h]
def Rowed (r : List Vl) (P g n cap base : Nat) (xs : List Value) (w : World) (x : Ending) (w' : World) : Prop :=
  ∃ A c, x = .returned (.slice A r.length c) ∧ (0 < r.length → A = some ⟨g, n * 3, none⟩) ∧ (r = [] → A = none) ∧ Rws w' P g (n + r.length) cap base (xs ++ r.flatMap Vl.cells) ∧ Fr w w' P g
set_option maxRecDepth 100000 in
set_option maxHeartbeats 3200000 in
theorem rowcopy_any (P g n cap base : Nat) (xs : List Value) (A : Option Addr) (c : Nat) (r : List Vl) (w : World) (hr : Rws w P g n cap base xs) (hl : Vals w w.heap.size A r) (hn : n + r.length ≤ cap) (hc : cap ≤ 140737488351232) :
    Calls Tryz.prog 93 #[.pointer (some ⟨P, 0, none⟩), .slice A r.length c] w (Rowed r P g n cap base xs w) := by
  obtain ⟨i0, hi, hz0, hz1, hz2⟩ := info_parts infoVl
  have HI := Lib.hid (And.intro Tryz.underlying116 (And.intro hi hz1))
  by_cases h0 : r = []
  · subst h0
    have HR := Lib.hid hr
    clear hr hl hn hi hz0 hz1 hz2
    go_enter Tryz.func93, Tryz.ntmps93
    go_wp2_with fail
    go_ret
    exact ⟨none, 0, rfl, fun h => absurd h (by simp), fun _ => rfl, by simpa using HR.out, Fr.refl _ _ _⟩
  have hp : 0 < r.length := List.length_pos_iff.2 h0
  obtain ⟨b, o, rfl, hB, hv⟩ := hl hp
  have t0 : ((r.length : Int) == 0) = false := beq_eq_false_iff_ne.2 (by omega)
  have c0 := hr.var.at_ 0
  have f0 := hr.var.open_ 0
  simp only [List.getElem?_cons_zero] at c0
  have hsrc := Lib.hid (lies_cells (size := 3) (cells := Vl.cells) (by decide) (fun _ => rfl) (lies_of_vals hl))
  have HR := Lib.hid (And.intro hr h0)
  clear hr hl hv hi hz0 hz1 hz2 h0
  go_enter Tryz.func93, Tryz.ntmps93
  go_wp2_with (at_builtin; refine wpList_append_room _ rfl (.tmp 16) (.tmp 17) 116 35 63 63 rfl i0 3 HI.out.1 Tryz.underlying35 HI.out.2.1 HI.out.2.2 base g n cap r.length c b o xs (r.flatMap Vl.cells) HR.out.1.row rfl rfl ?m1 hn hsrc.out ?m2 ?m3)
  case m1 => exact flat_size (size := 3) (cells := Vl.cells) (fun _ => rfl) r
  case m2 => exact fun v hv => (by obtain ⟨x, _, hx⟩ := List.mem_flatMap.1 hv; exact vl_one x v hx)
  intro w1 ho1 hg1
  have hvar : Own w1 P 116 [.slice (some ⟨g, 0, none⟩) n cap] := (hg1.block P HR.out.1.var.inside (by simp; exact fun h => HR.out.1.ne h.symm)).trans HR.out.1.var
  have c1 := hvar.at_ 0
  have f1 := hvar.open_ 0
  simp only [List.getElem?_cons_zero] at c1
  have hg1' := hg1
  have H1 := Lib.hid (And.intro ho1 (And.intro hg1 hvar))
  clear ho1 hg1 hvar c0 f0
  have hvs := H1.out.2.2.set_ 0 (.slice (some ⟨g, 0, none⟩) (n + r.length) cap)
  have hfrm : Fr w (w1.setCell ⟨P, 0, none⟩ (.slice (some ⟨g, 0, none⟩) (n + r.length) cap)) P g := ⟨hg1'.os, hg1'.tape, hg1'.output, by simpa [World.setCell] using hg1'.size, fun k h0 h1 h2 => (Below.heap_setCell w1 ⟨P, 0, none⟩ _ k h1).trans (hg1'.block k h0 (by simp; exact h2))⟩
  obtain ⟨V, hV⟩ : ∃ V, V = w1.setCell ⟨P, 0, none⟩ (.slice (some ⟨g, 0, none⟩) (n + r.length) cap) := ⟨_, rfl⟩
  rw [← hV] at hvs hfrm
  have c2 := hvs.at_ 0
  simp only [List.set_cons_zero, List.getElem?_cons_zero] at c2
  have hrow : V.ownsRow base 63 3 (.slice (some ⟨g, 0, none⟩) (n + r.length) cap) (n + r.length) (xs ++ r.flatMap Vl.cells) := by
    rw [hV]
    refine World.ownsRow.kept (row := some P) H1.out.1 ⟨rfl, rfl, rfl, by simp [World.setCell], fun k _ hne => Below.heap_setCell w1 ⟨P, 0, none⟩ _ k (by simpa using hne)⟩ (.inr ?_)
    exact fun h => HR.out.1.ne (by simpa [Value.ownBlock] using h)
  have HV := Lib.hid (And.intro hvs (And.intro hfrm hrow))
  have q0 : (0 : Int) ≤ (n : Int) := by omega
  have q1 : (n : Int) ≤ ((n + r.length : Nat) : Int) := by omega
  have q2 : ((n + r.length : Nat) : Int) ≤ (cap : Int) := by omega
  clear hvs hfrm hg1' hrow
  go_upto_region 5 with fail
  rw [← hV]
  clear hV c1 f1
  go_quiet (fail)
  go_wp2_with fail
  go_ret
  exact ⟨_, _, ret_sub (Nat.add_sub_cancel_left n r.length), fun _ => rfl, fun h => absurd h HR.out.2, ⟨HV.out.1, HV.out.2.2, HR.out.1.ne⟩, ⟨HV.out.2.1.os, HV.out.2.1.tape, HV.out.2.1.output, HV.out.2.1.size, HV.out.2.1.block⟩⟩
end Go.Proofs.YtbccdmpnojdldaaGreat
namespace Go.Proofs.YtbccdmpnojdldaaGreat
open Go Go.RowKit

theorem flat_set {α : Type} {size : Nat} {cells : α → List Value} (hcl : ∀ x, (cells x).length = size) : ∀ (X : List α) (k r : Nat) (u : α) (v : Value), X[k]? = some u → r < size → (X.flatMap cells).set (k * size + r) v = (X.take k).flatMap cells ++ ((cells u).set r v ++ (X.drop (k + 1)).flatMap cells)
  | [], k, r, u, v, h, _ => by simp at h
  | x :: X, 0, r, u, v, h, hr => by
    obtain rfl : x = u := by simpa using h
    rw [List.flatMap_cons, Nat.zero_mul, Nat.zero_add, List.set_append_left _ _ (by rw [hcl]; exact hr)]
    simp
  | x :: X, k + 1, r, u, v, h, hr => by
    have ih := flat_set hcl X k r u v (by simpa using h) hr
    rw [List.flatMap_cons, List.set_append_right _ _ (by rw [hcl, Nat.add_mul]; omega), hcl, show (k + 1) * size + r - size = k * size + r by rw [Nat.add_mul]; omega, ih]
    simp
theorem flat_part {α : Type} {cells : α → List Value} {X : List α} {k : Nat} {u : α} (h : X[k]? = some u) : X.flatMap cells = (X.take k).flatMap cells ++ (cells u ++ (X.drop (k + 1)).flatMap cells) := by
  obtain ⟨hk, rfl⟩ := List.getElem?_eq_some_iff.1 h
  have e : X = X.take k ++ X[k] :: X.drop (k + 1) := by rw [← List.drop_eq_getElem_cons hk, List.take_append_drop]
  have e := congrArg (fun Y : List α => Y.flatMap cells) e
  simp only [List.flatMap_append, List.flatMap_cons] at e
  exact e
theorem flat_change {α : Type} {cells : α → List Value} {X : List α} {k : Nat} {u u' : α} (h : X[k]? = some u) : (X.set k u').flatMap cells = (X.take k).flatMap cells ++ (cells u' ++ (X.drop (k + 1)).flatMap cells) := by
  obtain ⟨hk, rfl⟩ := List.getElem?_eq_some_iff.1 h
  rw [List.set_eq_take_append_cons_drop, if_pos hk]
  simp
theorem flat_sets {α : Type} {size : Nat} {cells : α → List Value} (hcl : ∀ x, (cells x).length = size) {X : List α} {k : Nat} {u : α} (h : X[k]? = some u) (c : List Value) (hc : c.length = size) (r : Nat) (v : Value) (hr : r < size) :
    ((X.take k).flatMap cells ++ (c ++ (X.drop (k + 1)).flatMap cells)).set (k * size + r) v = (X.take k).flatMap cells ++ (c.set r v ++ (X.drop (k + 1)).flatMap cells) := by
  have hk := (List.getElem?_eq_some_iff.1 h).1
  have hl : ((X.take k).flatMap cells).length = k * size := by rw [flat_size hcl, List.length_take, Nat.min_eq_left (by omega)]
  rw [List.set_append_right _ _ (by rw [hl]; omega), hl, Nat.add_sub_cancel_left, List.set_append_left _ _ (by rw [hc]; exact hr)]
end Go.Proofs.YtbccdmpnojdldaaGreat
namespace Go.Proofs.YtbccdmpnojdldaaGreat
open Go Go.RowKit

/-- an update's time -/
theorem set_time {X : List Up} {k : Nat} {u : Up} (h : X[k]? = some u) (t : Tm) :
    (((X.flatMap Up.cells).set (k * 6 + 2) (.int .u64 (t.e : Int))).set (k * 6 + 3) (.int .u64 (t.a : Int))).set (k * 6 + 4) (.int .u64 (t.b : Int)) = (X.set k { u with t := t }).flatMap Up.cells := by
  rw [flat_change h, flat_part h, flat_sets (size := 6) (fun _ => rfl) h _ rfl 2 _ (by decide), flat_sets (size := 6) (fun _ => rfl) h _ rfl 3 _ (by decide), flat_sets (size := 6) (fun _ => rfl) h _ rfl 4 _ (by decide)]
  rfl
/-- an update's rows -/
theorem set_rows {X : List Up} {k : Nat} {u : Up} (h : X[k]? = some u) (kA rA : Option Addr) (kc rc : Nat) :
    ((X.flatMap Up.cells).set (k * 6 + 0) (.slice kA u.key.length kc)).set (k * 6 + 1) (.slice rA u.row.length rc) = (X.set k { u with kA := kA, kc := kc, rA := rA, rc := rc }).flatMap Up.cells := by
  rw [flat_change h, flat_part h, flat_sets (size := 6) (fun _ => rfl) h _ rfl 0 _ (by decide), flat_sets (size := 6) (fun _ => rfl) h _ rfl 1 _ (by decide)]
  rfl
/-- the first ones changed, one more of them -/
theorem part_next {α : Type} {g : α → α} {l : List α} {k : Nat} {u : α} (h : l[k]? = some u) : ((l.take k).map g ++ l.drop k)[k]? = some u ∧ ((l.take k).map g ++ l.drop k).set k (g u) = (l.take (k + 1)).map g ++ l.drop (k + 1) := by
  obtain ⟨hk, rfl⟩ := List.getElem?_eq_some_iff.1 h
  have hl : ((l.take k).map g).length = k := by rw [List.length_map, List.length_take, Nat.min_eq_left (by omega)]
  constructor
  · rw [List.getElem?_append_right (by omega), hl, Nat.sub_self, List.getElem?_drop, Nat.add_zero, List.getElem?_eq_getElem hk]
  · rw [List.set_append_right _ _ (by omega), hl, Nat.sub_self, List.drop_eq_getElem_cons hk, List.set_cons_zero, List.take_add_one, List.getElem?_eq_getElem hk, List.map_append, List.append_assoc]
    rfl
end Go.Proofs.YtbccdmpnojdldaaGreat
namespace Go.Proofs.YtbccdmpnojdldaaGreat
open Go Go.RowKit

/-- how many values the rows of updates have -/
def wide : List Up → Nat
  | [] => 0
  | u :: l => (u.key.length + u.row.length) + wide l
theorem wide_snoc {l : List Up} {k : Nat} {u : Up} (h : l[k]? = some u) : wide (l.take (k + 1)) = wide (l.take k) + (u.key.length + u.row.length) := by
  induction l generalizing k with
  | nil => simp at h
  | cons x l ih =>
    cases k with
    | zero =>
      obtain rfl : x = u := by simpa using h
      simp [wide]
    | succ k =>
      rw [List.take_succ_cons, List.take_succ_cons]
      unfold wide
      rw [ih (by simpa using h)]
      omega
theorem wide_le : ∀ {l : List Up}, chkUs l = 0 → wide l ≤ l.length * 16
  | [], _ => Nat.zero_le _
  | u :: l, h => by
    have h1 := chkUs_all.1 h u (by simp)
    have h2 := wide_le (l := l) (chkUs_all.2 fun x hx => chkUs_all.1 h x (by simp [hx]))
    obtain ⟨a, b, _⟩ := chkK_zero h1
    have k1 := (chkRow_zero a).2
    have k2 := (chkRow_zero b).2
    have k1 : u.key.length ≤ 8 := k1
    have k2 : u.row.length ≤ 8 := k2
    unfold wide
    rw [List.length_cons]
    omega
theorem wide_take (l : List Up) (k : Nat) : wide (l.take k) ≤ wide l := by
  induction l generalizing k with
  | nil => simp
  | cons x l ih =>
    cases k with
    | zero => simp [wide]
    | succ k => rw [List.take_succ_cons]; unfold wide; have := ih k; omega
/-- a list whose block is known whole, and holds none of its rows -/
def RowOwn (w : World) (A : Option Addr) (l : List Up) : Prop := (l = [] → A = none) ∧ (0 < l.length → ∃ G, A = some ⟨G, 0, none⟩ ∧ Own w G 60 (l.flatMap Up.cells) ∧ ∀ u ∈ l, ∀ b o, (u.kA = some (⟨b, o, none⟩ : Addr) ∨ u.rA = some (⟨b, o, none⟩ : Addr)) → b ≠ G)
/-- a copy: the same told, in memory of its own -/
def CopyUps (l : List Up) (w : World) (x : Ending) (w' : World) : Prop :=
  ∃ A, ∃ outL : List Up, x = .returned (.slice A outL.length outL.length) ∧ outL.map Up.p = l.map Up.p ∧ Ups w' w'.heap.size A outL ∧ (∀ u ∈ outL, UOk u) ∧ Lo w.heap.size A outL ∧ Below w.heap.size w w' ∧ RowOwn w' A outL
set_option maxRecDepth 100000 in
set_option maxHeartbeats 12800000 in
/-- the variable that was made ahead of a call -/
theorem var_s1 {w0 w1 : World} (b1 : Below (w0.drew.alloc (.cells #[.slice none 0 0] 116)).heap.size (w0.drew.alloc (.cells #[.slice none 0 0] 116)) w1) : Own w1 w0.heap.size 116 [.slice none 0 0] := (Own.made w0.drew 116 [.slice none 0 0]).past b1 (by simp)
theorem var_s3 {w0 w1 : World} {o : Obj} (b1 : Below ((w0.drew.alloc (.cells #[.slice none 0 0] 116)).alloc o).heap.size ((w0.drew.alloc (.cells #[.slice none 0 0] 116)).alloc o) w1) : Own w1 w0.heap.size 116 [.slice none 0 0] := ((Own.made w0.drew 116 [.slice none 0 0]).more o).past b1 (by simp; omega)
theorem own_next {w : World} {N : Nat} {t : TypeId} {l : List Value} (hN : w.heap.size = N) : Own (w.alloc (.cells l.toArray t)) N t l := by subst hN; exact Own.made w t l
theorem var_s4 {w0 w1 : World} {o : Obj} (b1 : Below ((w0.drew.alloc o).alloc (.cells #[.slice none 0 0] 116)).heap.size ((w0.drew.alloc o).alloc (.cells #[.slice none 0 0] 116)) w1) : Own w1 (w0.heap.size + 1) 116 [.slice none 0 0] := (own_next (w := w0.drew.alloc o) (l := [.slice none 0 0]) (t := 116) (by simp)).past b1 (by simp)
theorem make_rows (n : Nat) (hn : n ≤ 4398046511104) : ∃ z : List Value, z.length = n * 3 ∧ ∀ W : World, (Instr.makeSlice 116 (.int .i64 0) (.int .i64 (n : Int))).run Tryz.prog W = .ok (.slice (some ⟨W.heap.size, 0, none⟩) 0 n) (W.alloc (.cells z.toArray 63)) := by
  obtain ⟨i0, hi, hz0, hz1, hz2⟩ := info_parts infoVl
  have hU := Tryz.underlying116
  refine ⟨(madeCells (Value.agg #[.bool false, .int .i64 0, .string ⟨#[]⟩]).cells (n * i0.size)).toList, ?_, fun W => by
    have hr := run_make (P := Tryz.prog) W _ _ i0 _ hU hi hz0 .i64 .i64 0 n (Int.le_refl _) (by omega) (by rw [hz2]; omega) (by omega)
    simp only [Int.toNat_zero, Int.toNat_natCast] at hr
    rw [Array.toArray_toList]
    exact hr⟩
  rw [Array.length_toList, size_madeCells, hz1]
/-- what the head of a copy has made: the list's block, the variable, the room for the rows -/
structure Mk (w X : World) (l : List Up) (B1 : Option Addr) (P g n : Nat) : Prop where
  rows : Rws X P g 0 n w.heap.size []
  nil_ : l = [] → B1 = none
  list : 0 < l.length → ∃ G, B1 = some ⟨G, 0, none⟩ ∧ w.heap.size ≤ G ∧ G ≠ P ∧ G ≠ g ∧ Own X G 60 (l.flatMap Up.cells)
  p_ : w.heap.size ≤ P
  g_ : w.heap.size ≤ g
  below : Below w.heap.size w X
theorem mk_gen {w X : World} {l : List Up} {B1 : Option Addr} {P g G n : Nat} {Z : List Value} (hZ : Z.length = n * 3) (hn : n ≤ 4398046511104) (hP : Own X P 116 [.slice (some ⟨g, 0, none⟩) 0 n]) (hg : Own X g 63 Z) (hne : g ≠ P) (hPb : w.heap.size ≤ P) (hgb : w.heap.size ≤ g) (hGb : w.heap.size ≤ G) (hnil : l = [] → B1 = none)
    (hl : 0 < l.length → B1 = some ⟨G, 0, none⟩ ∧ G ≠ P ∧ G ≠ g ∧ Own X G 60 (l.flatMap Up.cells)) (hb : Below w.heap.size w X) : Mk w X l B1 P g n :=
  ⟨⟨hP, ⟨by simp, .inr ⟨g, n, Z.toArray, rfl, hgb, hg, Nat.zero_le _, by unfold maxLen; omega, by simpa using hZ, by simp⟩⟩, hne⟩, hnil, fun h => ⟨G, (hl h).1, hGb, (hl h).2⟩, hPb, hgb, hb⟩
section
variable {w w0 w1 : World} {l : List Up} {B1 : Option Addr} {n : Nat} {Z : List Value}
theorem mkF1 (hZ : Z.length = n * 3) (hn : n ≤ 4398046511104) (HB : Below w.heap.size w w0) (hb1 : Bl w0 w1) (b1 : Below w0.drew.heap.size w0.drew w1) (hnil : l = [] → B1 = none ∧ w1 = w0.drew) (hown : 0 < l.length → B1 = some ⟨w0.drew.heap.size, 0, none⟩ ∧ Own w1 w0.drew.heap.size 60 (l.flatMap Up.cells)) :
    Mk w ((w1.alloc (.cells Z.toArray 63)).alloc (.cells #[.slice (some ⟨w1.heap.size, 0, none⟩) 0 n] 116)) l B1 (w1.heap.size + 1) w1.heap.size n := by
  have s1 := HB.size
  have s2 : w0.heap.size ≤ w1.heap.size := hb1.below.size
  have s3 := b1.size
  simp at s3
  have hbm : Bm w.heap.size w w1 := HB.trans (hb1.below.mono HB.size)
  refine mk_gen (G := w0.heap.size) hZ hn (own_next (w := w1.alloc (.cells Z.toArray 63)) (l := [.slice (some ⟨w1.heap.size, 0, none⟩) 0 n]) (by simp)) ((Own.made w1 _ Z).more _) (by omega) (by omega) (by omega) (by omega) (fun h => (hnil h).1) (fun h => ?_) ?_
  · have k : Own w1 w0.heap.size 60 (l.flatMap Up.cells) := by simpa using (hown h).2
    have hin := k.inside
    exact ⟨by simpa using (hown h).1, by omega, by omega, ((k.more _).more _)⟩
  · show Bm w.heap.size w _
    repeat (first | exact hbm | refine Bm.set ?_ (by omega) _ _ | refine Bm.more ?_ (Nat.le_refl _) _ | refine Bm.drew ?_)
theorem mkF2 (hZ : Z.length = n * 3) (hn : n ≤ 4398046511104) (HB : Below w.heap.size w w0) (hb1 : Bl w0 w1) (b1 : Below w0.drew.heap.size w0.drew w1) (hnil : l = [] → B1 = none ∧ w1 = w0.drew) (hown : 0 < l.length → B1 = some ⟨w0.drew.heap.size, 0, none⟩ ∧ Own w1 w0.drew.heap.size 60 (l.flatMap Up.cells)) :
    Mk w ((w1.alloc (.cells #[.slice (some ⟨w1.heap.size + 1, 0, none⟩) 0 n] 116)).alloc (.cells Z.toArray 63)) l B1 w1.heap.size (w1.heap.size + 1) n := by
  have s1 := HB.size
  have s2 : w0.heap.size ≤ w1.heap.size := hb1.below.size
  have s3 := b1.size
  simp at s3
  have hbm : Bm w.heap.size w w1 := HB.trans (hb1.below.mono HB.size)
  refine mk_gen (G := w0.heap.size) hZ hn ((Own.made w1 _ [.slice (some ⟨w1.heap.size + 1, 0, none⟩) 0 n]).more _) (own_next (w := w1.alloc (.cells #[.slice (some ⟨w1.heap.size + 1, 0, none⟩) 0 n] 116)) (l := Z) (by simp)) (by omega) (by omega) (by omega) (by omega) (fun h => (hnil h).1) (fun h => ?_) ?_
  · have k : Own w1 w0.heap.size 60 (l.flatMap Up.cells) := by simpa using (hown h).2
    have hin := k.inside
    exact ⟨by simpa using (hown h).1, by omega, by omega, ((k.more _).more _)⟩
  · show Bm w.heap.size w _
    repeat (first | exact hbm | refine Bm.set ?_ (by omega) _ _ | refine Bm.more ?_ (Nat.le_refl _) _ | refine Bm.drew ?_)
theorem mkF3 (hZ : Z.length = n * 3) (hn : n ≤ 4398046511104) (HB : Below w.heap.size w w0) (hb1 : Bl w0 w1) (b1 : Below (w0.alloc (.cells Z.toArray 63)).drew.heap.size (w0.alloc (.cells Z.toArray 63)).drew w1) (hnil : l = [] → B1 = none ∧ w1 = (w0.alloc (.cells Z.toArray 63)).drew) (hown : 0 < l.length → B1 = some ⟨(w0.alloc (.cells Z.toArray 63)).drew.heap.size, 0, none⟩ ∧ Own w1 (w0.alloc (.cells Z.toArray 63)).drew.heap.size 60 (l.flatMap Up.cells)) :
    Mk w (w1.alloc (.cells #[.slice (some ⟨w0.heap.size, 0, none⟩) 0 n] 116)) l B1 w1.heap.size w0.heap.size n := by
  have s1 := HB.size
  have s2 : w0.heap.size ≤ w1.heap.size := hb1.below.size
  have s3 := b1.size
  simp at s3
  have hbm : Bm w.heap.size w w1 := HB.trans (hb1.below.mono HB.size)
  refine mk_gen (G := (w0.heap.size + 1)) hZ hn (Own.made w1 _ [.slice (some ⟨w0.heap.size, 0, none⟩) 0 n]) (((own_drew' (Own.made w0 _ Z)).past b1 (by simp)).more _) (by omega) (by omega) (by omega) (by omega) (fun h => (hnil h).1) (fun h => ?_) ?_
  · have k : Own w1 (w0.heap.size + 1) 60 (l.flatMap Up.cells) := by simpa using (hown h).2
    have hin := k.inside
    exact ⟨by simpa using (hown h).1, by omega, by omega, (k.more _)⟩
  · show Bm w.heap.size w _
    repeat (first | exact hbm | refine Bm.set ?_ (by omega) _ _ | refine Bm.more ?_ (Nat.le_refl _) _ | refine Bm.drew ?_)
theorem mkF4 (hZ : Z.length = n * 3) (hn : n ≤ 4398046511104) (HB : Below w.heap.size w w0) (hb1 : Bl w0 w1) (b1 : Below ((w0.alloc (.cells Z.toArray 63)).alloc (.cells #[.slice none 0 0] 116)).drew.heap.size ((w0.alloc (.cells Z.toArray 63)).alloc (.cells #[.slice none 0 0] 116)).drew w1) (hnil : l = [] → B1 = none ∧ w1 = ((w0.alloc (.cells Z.toArray 63)).alloc (.cells #[.slice none 0 0] 116)).drew) (hown : 0 < l.length → B1 = some ⟨((w0.alloc (.cells Z.toArray 63)).alloc (.cells #[.slice none 0 0] 116)).drew.heap.size, 0, none⟩ ∧ Own w1 ((w0.alloc (.cells Z.toArray 63)).alloc (.cells #[.slice none 0 0] 116)).drew.heap.size 60 (l.flatMap Up.cells)) :
    Mk w (w1.setCell ⟨w0.heap.size + 1, 0, none⟩ (.slice (some ⟨w0.heap.size, 0, none⟩) 0 n)) l B1 (w0.heap.size + 1) w0.heap.size n := by
  have s1 := HB.size
  have s2 : w0.heap.size ≤ w1.heap.size := hb1.below.size
  have s3 := b1.size
  simp at s3
  have hbm : Bm w.heap.size w w1 := HB.trans (hb1.below.mono HB.size)
  refine mk_gen (G := (w0.heap.size + 2)) hZ hn (((own_drew' (own_next (w := w0.alloc (.cells Z.toArray 63)) (l := [.slice none 0 0]) (t := 116) (N := w0.heap.size + 1) (by simp))).past b1 (by simp)).set_ 0 _) (((own_drew' ((Own.made w0 _ Z).more _)).past b1 (by simp; omega)).other (p := ⟨w0.heap.size + 1, 0, none⟩) (by simp) _) (by omega) (by omega) (by omega) (by omega) (fun h => (hnil h).1) (fun h => ?_) ?_
  · have k : Own w1 (w0.heap.size + 2) 60 (l.flatMap Up.cells) := by simpa using (hown h).2
    have hin := k.inside
    exact ⟨by simpa using (hown h).1, by omega, by omega, (k.other (p := ⟨w0.heap.size + 1, 0, none⟩) (by simp) _)⟩
  · show Bm w.heap.size w _
    repeat (first | exact hbm | refine Bm.set ?_ (by omega) _ _ | refine Bm.more ?_ (Nat.le_refl _) _ | refine Bm.drew ?_)
theorem mkF5 (hZ : Z.length = n * 3) (hn : n ≤ 4398046511104) (HB : Below w.heap.size w w0) (hb1 : Bl w0 w1) (b1 : Below (w0.alloc (.cells #[.slice none 0 0] 116)).drew.heap.size (w0.alloc (.cells #[.slice none 0 0] 116)).drew w1) (hnil : l = [] → B1 = none ∧ w1 = (w0.alloc (.cells #[.slice none 0 0] 116)).drew) (hown : 0 < l.length → B1 = some ⟨(w0.alloc (.cells #[.slice none 0 0] 116)).drew.heap.size, 0, none⟩ ∧ Own w1 (w0.alloc (.cells #[.slice none 0 0] 116)).drew.heap.size 60 (l.flatMap Up.cells)) :
    Mk w ((w1.alloc (.cells Z.toArray 63)).setCell ⟨w0.heap.size, 0, none⟩ (.slice (some ⟨w1.heap.size, 0, none⟩) 0 n)) l B1 w0.heap.size w1.heap.size n := by
  have s1 := HB.size
  have s2 : w0.heap.size ≤ w1.heap.size := hb1.below.size
  have s3 := b1.size
  simp at s3
  have hbm : Bm w.heap.size w w1 := HB.trans (hb1.below.mono HB.size)
  refine mk_gen (G := (w0.heap.size + 1)) hZ hn ((((own_drew' (Own.made w0 _ [.slice none 0 0])).past b1 (by simp)).more _).set_ 0 _) ((Own.made w1 _ Z).other (p := ⟨w0.heap.size, 0, none⟩) (by simp; omega) _) (by omega) (by omega) (by omega) (by omega) (fun h => (hnil h).1) (fun h => ?_) ?_
  · have k : Own w1 (w0.heap.size + 1) 60 (l.flatMap Up.cells) := by simpa using (hown h).2
    have hin := k.inside
    exact ⟨by simpa using (hown h).1, by omega, by omega, ((k.more _).other (p := ⟨w0.heap.size, 0, none⟩) (by simp) _)⟩
  · show Bm w.heap.size w _
    repeat (first | exact hbm | refine Bm.set ?_ (by omega) _ _ | refine Bm.more ?_ (Nat.le_refl _) _ | refine Bm.drew ?_)
theorem mkF6 (hZ : Z.length = n * 3) (hn : n ≤ 4398046511104) (HB : Below w.heap.size w w0) (hb1 : Bl w0 w1) (b1 : Below ((w0.alloc (.cells #[.slice none 0 0] 116)).alloc (.cells Z.toArray 63)).drew.heap.size ((w0.alloc (.cells #[.slice none 0 0] 116)).alloc (.cells Z.toArray 63)).drew w1) (hnil : l = [] → B1 = none ∧ w1 = ((w0.alloc (.cells #[.slice none 0 0] 116)).alloc (.cells Z.toArray 63)).drew) (hown : 0 < l.length → B1 = some ⟨((w0.alloc (.cells #[.slice none 0 0] 116)).alloc (.cells Z.toArray 63)).drew.heap.size, 0, none⟩ ∧ Own w1 ((w0.alloc (.cells #[.slice none 0 0] 116)).alloc (.cells Z.toArray 63)).drew.heap.size 60 (l.flatMap Up.cells)) :
    Mk w (w1.setCell ⟨w0.heap.size, 0, none⟩ (.slice (some ⟨w0.heap.size + 1, 0, none⟩) 0 n)) l B1 w0.heap.size (w0.heap.size + 1) n := by
  have s1 := HB.size
  have s2 : w0.heap.size ≤ w1.heap.size := hb1.below.size
  have s3 := b1.size
  simp at s3
  have hbm : Bm w.heap.size w w1 := HB.trans (hb1.below.mono HB.size)
  refine mk_gen (G := (w0.heap.size + 2)) hZ hn (((own_drew' ((Own.made w0 _ [.slice none 0 0]).more _)).past b1 (by simp; omega)).set_ 0 _) (((own_drew' (own_next (w := w0.alloc (.cells #[.slice none 0 0] 116)) (l := Z) (t := 63) (N := w0.heap.size + 1) (by simp))).past b1 (by simp)).other (p := ⟨w0.heap.size, 0, none⟩) (by simp) _) (by omega) (by omega) (by omega) (by omega) (fun h => (hnil h).1) (fun h => ?_) ?_
  · have k : Own w1 (w0.heap.size + 2) 60 (l.flatMap Up.cells) := by simpa using (hown h).2
    have hin := k.inside
    exact ⟨by simpa using (hown h).1, by omega, by omega, (k.other (p := ⟨w0.heap.size, 0, none⟩) (by simp) _)⟩
  · show Bm w.heap.size w _
    repeat (first | exact hbm | refine Bm.set ?_ (by omega) _ _ | refine Bm.more ?_ (Nat.le_refl _) _ | refine Bm.drew ?_)
end
/-- a row lies in block g, among the cells xs -/
structure InBlock (xs : List Value) (g : Nat) (A : Option Addr) (r : List Vl) : Prop where
  at_ : 0 < r.length → ∃ i, A = some ⟨g, i * 3, none⟩ ∧ ∀ j v, r[j]? = some v → ∀ q u, v.cells[q]? = some u → xs[i * 3 + j * 3 + q]? = some u
  far : ∀ b o, A = some (⟨b, o, none⟩ : Addr) → b = g
theorem InBlock.more {xs : List Value} {g : Nat} {A : Option Addr} {r : List Vl} (h : InBlock xs g A r) (ys : List Value) : InBlock (xs ++ ys) g A r :=
  ⟨fun hp => by
    obtain ⟨i, e, hc⟩ := h.at_ hp
    exact ⟨i, e, fun j v hj q u hq => by
      have := hc j v hj q u hq
      rw [List.getElem?_append_left (List.getElem?_eq_some_iff.1 this).1]
      exact this⟩, h.far⟩
theorem inblock_new {xs : List Value} {n g : Nat} {A : Option Addr} {r : List Vl} (hx : xs.length = n * 3) (h1 : 0 < r.length → A = some ⟨g, n * 3, none⟩) (h2 : r = [] → A = none) : InBlock (xs ++ r.flatMap Vl.cells) g A r :=
  ⟨fun hp => ⟨n, h1 hp, fun j v hj q u hq => by
    rw [List.getElem?_append_right (by omega), hx, show n * 3 + j * 3 + q - n * 3 = j * 3 + q by omega]
    exact flat_of (size := 3) (cells := Vl.cells) (fun _ => rfl) r j q v u hj hq⟩, fun b o e => by
    by_cases hp : 0 < r.length
    · rw [h1 hp] at e
      simp only [Option.some.injEq, Addr.mk.injEq, and_true] at e
      exact e.1.symm
    · rw [h2 (List.eq_nil_of_length_eq_zero (by omega))] at e
      cases e⟩
theorem InBlock.vals {xs : List Value} {g n cap base : Nat} {A : Option Addr} {r : List Vl} {w : World} (h : InBlock xs g A r) (hr : w.ownsRow base 63 3 (.slice (some ⟨g, 0, none⟩) n cap) n xs) : Vals w w.heap.size A r := fun hp => by
  obtain ⟨i, rfl, hc⟩ := h.at_ hp
  have hin : g < w.heap.size := (hr.lt g rfl).2
  have hk : ∀ (j : Nat) (v : Vl) (q : Nat) (u : Value), r[j]? = some v → v.cells[q]? = some u → w.cell? ⟨g, i * 3 + j * 3 + q, none⟩ = some u := fun j v q u hj hq => by
    have h1 := hc j v hj q u hq
    have hlt : i * 3 + j * 3 + q < n * 3 := by have := (List.getElem?_eq_some_iff.1 h1).1; rw [hr.1] at this; exact this
    rw [hr.cellAt _ hlt]
    exact h1
  exact ⟨g, i * 3, rfl, hin, fun j v hj => ⟨hk j v 0 _ hj rfl, hk j v 1 _ hj rfl, hk j v 2 _ hj rfl⟩⟩
def rowsOf (l : List Up) : List Value := l.flatMap fun u => u.key.flatMap Vl.cells ++ u.row.flatMap Vl.cells
theorem rowsOf_snoc {l : List Up} {k : Nat} {u : Up} (h : l[k]? = some u) : rowsOf (l.take (k + 1)) = rowsOf (l.take k) ++ u.key.flatMap Vl.cells ++ u.row.flatMap Vl.cells := by
  unfold rowsOf
  rw [List.take_add_one, h, List.flatMap_append]
  simp
/-- so far -/
structure Cpd (w wr : World) (l : List Up) (P g n G k : Nat) (done : List Up) : Prop where
  len : done.length = k
  p_ : done.map Up.p = (l.take k).map Up.p
  own : Own wr G 60 ((done ++ l.drop k).flatMap Up.cells)
  rows : Rws wr P g (wide (l.take k)) n w.heap.size (rowsOf (l.take k))
  in_ : ∀ u ∈ done, InBlock (rowsOf (l.take k)) g u.kA u.key ∧ InBlock (rowsOf (l.take k)) g u.rA u.row
  below : Below w.heap.size w wr
theorem Rws.drew {w : World} {P g n cap base : Nat} {xs : List Value} (h : Rws w P g n cap base xs) : Rws w.drew P g n cap base xs := ⟨h.var, h.row, h.ne⟩
theorem Rws.past {w w' : World} {P g n cap base : Nat} {xs : List Value} (h : Rws w P g n cap base xs) (hb : Below w.heap.size w w') : Rws w' P g n cap base xs := ⟨h.var.past hb h.var.inside, own_below h.row hb, h.ne⟩
theorem Fr.own {w w' : World} {P g k : Nat} {t : TypeId} {l : List Value} (h : Fr w w' P g) (ho : Own w k t l) (hP : k ≠ P) (hg : k ≠ g) : Own w' k t l := (h.block k ho.inside hP hg).trans ho
theorem done_at {l done : List Up} {k : Nat} {u u' : Up} (hl : done.length = k) (h : l[k]? = some u) : (done ++ l.drop k)[k]? = some u ∧ (done ++ l.drop k).set k u' = done ++ [u'] ++ l.drop (k + 1) := by
  obtain ⟨hk, rfl⟩ := List.getElem?_eq_some_iff.1 h
  constructor
  · rw [List.getElem?_append_right (by omega), hl, Nat.sub_self, List.getElem?_drop, Nat.add_zero, List.getElem?_eq_getElem hk]
  · rw [List.set_append_right _ _ (by omega), hl, Nat.sub_self, List.drop_eq_getElem_cons hk, List.set_cons_zero]
    simp
theorem copy_p {l done : List Up} {k : Nat} {u : Up} {kA' rA' : Option Addr} {kc' rc' : Nat} (h : l[k]? = some u) (hd : done.map Up.p = (l.take k).map Up.p) : (done ++ [{ u with kA := kA', kc := kc', rA := rA', rc := rc' }]).map Up.p = (l.take (k + 1)).map Up.p := by
  rw [List.take_add_one, h, List.map_append, List.map_append, hd]
  rfl
theorem uok_p {x y : Up} (h : x.p = y.p) (hx : UOk x) : UOk y := by
  obtain ⟨a, b, _, d⟩ := up_p h
  exact ⟨a ▸ hx.kn, b ▸ hx.rn, a ▸ hx.ks, b ▸ hx.rs, d ▸ hx.dn⟩
set_option maxRecDepth 100000 in
set_option maxHeartbeats 12800000 in
theorem copyUps_any (A : Option Addr) (c : Nat) (l : List Up) (w : World) (hl : Ups w w.heap.size A l) (hok : UsOk l) (h8 : chkUs l = 0) (hn : l.length ≤ 274877906944) :
    Calls Tryz.prog 56 #[.slice A l.length c] w (CopyUps l w) := by
  have hwd := wide_le h8
  have HL := Lib.hid (And.intro hl (And.intro hok h8))
  clear hl hok h8
  go_enter Tryz.func56, Tryz.ntmps56
  go_wp2_with fail
  go_loopw [3, 12] (fun v3 v12 wr => ∃ k : Nat, v12 = .int .i64 (k : Int) ∧ v3 = .int .i64 ((wide (l.take k) : Nat) : Int) ∧ k ≤ l.length ∧ Below w.heap.size w wr) (fun _ v12 _ => l.length - (intOf v12).toNat)
  case atStart => exact ⟨0, rfl, rfl, by omega, Below.refl _ _⟩
  case round =>
    obtain ⟨k, rfl, rfl, hk, hb⟩ := hrel
    by_cases hlt : k < l.length
    · have hx : l[k]? = some l[k] := List.getElem?_eq_getElem hlt
      generalize l[k] = u at *
      obtain ⟨b, o, rfl, hB, hys⟩ := lies_up HL.out.1.head (by omega)
      obtain ⟨e0, e1, e2, e3, e4, e5⟩ := ((hys k u hx).past_ hb hB).six
      have hsn := wide_snoc hx
      have hle := wide_take l (k + 1)
      generalize wide (l.take k) = m at *
      have q0 : (0 : Int) ≤ (k : Int) := by omega
      have q1 : (k : Int) < (l.length : Int) := by omega
      have q2 : m + (u.key.length + u.row.length) ≤ 4398046511104 := by omega
      have HH := Lib.hid (And.intro hb hsn)
      clear hb hx hys hsn hle
      go_wp2_with fail
      go_roundw
      case rel => exact ⟨k + 1, by go_num, by rw [HH.out.2]; go_num, by omega, HH.out.1.alloc HH.out.1.size _⟩
      case measure => simp [intOf]; omega
    · have hk2 : k = l.length := by omega
      subst hk2
      rw [List.take_length]
      generalize hW : wide l = n at *
      have HB := Lib.hid hb
      have HW := Lib.hid hW
      obtain ⟨w0, hw0⟩ : ∃ w0, w0 = wr := ⟨_, rfl⟩
      subst hw0
      clear hb hW
      obtain ⟨Z, hZ, hmk⟩ := make_rows n (by omega)
      have y1 := fun W (h : Bl w0 W) => Lib.hid (listU_any A c l W (((HL.out.1.head.past HB.out (Nat.le_refl _)).wide HB.out.size).past h (Nat.le_refl _) |>.wide h.size) (by omega))
      have hself := Bl.refl w0
      go_wp2_with fail
      go_cut [6, 7] (fun s6 s7 wx => ∃ (B1 : Option Addr) (P g : Nat), s6 = .slice B1 l.length l.length ∧ s7 = .pointer (some ⟨P, 0, none⟩) ∧ Mk w wx l B1 P g n)
      case first =>
        go_region_with (go_at_call 77; refine (y1 _ (by repeat (first | with_reducible exact hself | with_reducible refine Bl.more ?_ _ | with_reducible refine Bl.drew ?_))).out.mono ?_; rintro _ w1 ⟨B1, rfl, hnil, hown, b1⟩; have hbl : Bl w0 w1 := Bl.call (by repeat (first | with_reducible exact hself | with_reducible refine Bl.more ?_ _ | with_reducible refine Bl.drew ?_)) b1; (first | have hv := var_s4 b1 | have hv := var_s3 b1 | have hv := var_s1 b1 | skip); (try have hv0 := hv.at_ 0); (try have hv1 := hv.open_ 0); (try simp only [List.getElem?_cons_zero] at hv0); (try have hv2 := fun o => (hv.more o).at_ 0); (try have hv3 := fun o => (hv.more o).open_ 0); (try simp only [List.getElem?_cons_zero] at hv2))
        all_goals
          go_wp2_with fail
          go_meet
        · exact ⟨_, _, _, rfl, rfl, mkF1 hZ (by omega) HB.out hbl b1 hnil hown⟩
        · exact ⟨_, _, _, rfl, rfl, mkF2 hZ (by omega) HB.out hbl b1 hnil hown⟩
        · exact ⟨_, _, _, rfl, rfl, mkF3 hZ (by omega) HB.out hbl b1 hnil hown⟩
        · exact ⟨_, _, _, rfl, rfl, mkF4 hZ (by omega) HB.out hbl b1 hnil hown⟩
        · exact ⟨_, _, _, rfl, rfl, mkF5 hZ (by omega) HB.out hbl b1 hnil hown⟩
        · exact ⟨_, _, _, rfl, rfl, mkF6 hZ (by omega) HB.out hbl b1 hnil hown⟩
      case rest =>
        obtain ⟨B1, P, g, rfl, rfl, hm⟩ := hcut
        by_cases h0 : l = []
        · subst h0
          have hB1 := hm.nil_ rfl
          subst hB1
          have HM := Lib.hid hm.below
          clear hm y1 hmk hself
          go_wp2_with fail
          go_loopw [32] (fun v32 wr => v32 = .int .i64 0 ∧ Below w.heap.size w wr) (fun v32 _ => 0)
          case atStart => exact ⟨rfl, HM.out⟩
          case round =>
            obtain ⟨rfl, hb⟩ := hrel
            have HX := Lib.hid hb
            clear hb
            go_wp2_with fail
            go_ret
            exact ⟨none, [], rfl, rfl, ⟨Lies.nil_, fun u hu => by cases hu⟩, fun u hu => (by cases hu), lo_nil _, HX.out, fun _ => rfl, fun h => absurd h (by simp)⟩
        · have hpos : 0 < l.length := List.length_pos_iff.2 h0
          obtain ⟨G, rfl, hGb, hGP, hGg, hG⟩ := hm.list hpos
          have hst : Cpd w wc l P g n G 0 [] := ⟨rfl, rfl, by simpa using hG, by simpa [wide, rowsOf] using hm.rows, fun u hu => (by cases hu), hm.below⟩
          have HM := Lib.hid (And.intro hm.p_ (And.intro hm.g_ (And.intro hGb (And.intro hGP (And.intro hGg (And.intro hst hpos))))))
          clear hm y1 hmk hself hG hGb hGP hGg hst h0
          go_wp2_with fail
          go_loopw [32] (fun v32 wr => ∃ (k : Nat) (done : List Up), v32 = .int .i64 (k : Int) ∧ k ≤ l.length ∧ Cpd w wr l P g n G k done) (fun v32 _ => l.length - (intOf v32).toNat)
          case atStart => exact ⟨0, [], rfl, by omega, HM.out.2.2.2.2.2.1⟩
          case round =>
            obtain ⟨k, done, rfl, hk, hc⟩ := hrel
            by_cases hlt : k < l.length
            · have hx : l[k]? = some l[k] := List.getElem?_eq_getElem hlt
              have hum := List.mem_of_getElem? hx
              generalize l[k] = u at *
              obtain ⟨hx1, _⟩ := done_at (u' := u) hc.len hx
              have hcl := fun r v (hr : u.cells[r]? = some v) => (show wr.cell? ⟨G, k * 6 + r, none⟩ = some v by rw [hc.own.at_]; exact flat_of (size := 6) (cells := Up.cells) (fun _ => rfl) _ k r u v hx1 hr)
              have c0 := hcl 0 _ rfl
              have c1 := hcl 1 _ rfl
              have c2 := hcl 2 _ rfl
              have c3 := hcl 3 _ rfl
              have c4 := hcl 4 _ rfl
              have c5 := hcl 5 _ rfl
              rw [Nat.add_zero] at c0
              obtain ⟨V, hV, hvb, hvs, hvo⟩ := upbox wr u
              have hbV := hc.below.trans (hvb.mono hc.below.size)
              have hoV := hc.own.past hvb hc.own.inside
              have hrV := hc.rows.past hvb
              have hsn := wide_snoc hx
              have hle := wide_take l (k + 1)
              have hrs := rowsOf_snoc hx
              have hPin := hc.rows.var.inside
              have hgin := (hc.rows.row.lt g rfl).2
              have hGin := hc.own.inside
              have hin := fun (W : World) (h : Below w.heap.size w W) => ((HL.out.1.each_ u hum).past h (Nat.le_refl _)).wide h.size
              rw [HW.out] at hle
              obtain ⟨m, hm⟩ : ∃ m, wide (l.take k) = m := ⟨_, rfl⟩
              obtain ⟨xs, hxs⟩ : ∃ xs, rowsOf (l.take k) = xs := ⟨_, rfl⟩
              rw [hm, hxs] at hrV
              rw [hm] at hsn
              rw [hxs] at hrs
              have hnn : n ≤ 140737488351232 := by omega
              have y1 := fun W (h1 : Rws W P g m n w.heap.size xs) (h2 : Below w.heap.size w W) => Lib.hid (rowcopy_any P g m n w.heap.size xs u.kA u.kc u.key W h1 (hin W h2).key (by omega) hnn)
              have y2 := fun W (h1 : Rws W P g (m + u.key.length) n w.heap.size (xs ++ u.key.flatMap Vl.cells)) (h2 : Below w.heap.size w W) => Lib.hid (rowcopy_any P g (m + u.key.length) n w.heap.size (xs ++ u.key.flatMap Vl.cells) u.rA u.rc u.row W h1 (hin W h2).row (by omega) hnn)
              have HC := Lib.hid (And.intro hc (And.intro hbV (And.intro hoV (And.intro hrV (And.intro hvo (And.intro hvs (And.intro hx1 (And.intro hx (And.intro hm (And.intro hxs (And.intro hsn hrs)))))))))))
              have HI := Lib.hid (And.intro hPin (And.intro hgin hGin))
              obtain ⟨d0, d1, d2, d3, d4, d5⟩ := own6 hvo
              have q0 : (0 : Int) ≤ (k : Int) := by omega
              have q1 : (k : Int) < (l.length : Int) := by omega
              clear hx hum hx1 hcl hc hvb hvs hvo hbV hoV hrV hsn hle hrs hPin hgin hGin hin hm hxs hnn
              go_upto_region 11 with fail
              rw [← hV]
              clear hV c0 c1 c2 c3 c4 c5
              have HP1 := Lib.hid (show wr.heap.size ≠ P ∧ wr.heap.size ≠ g ∧ wr.heap.size ≠ G from by have := HI.out; omega)
              have HBd := Lib.hid (show w.heap.size ≤ V.drew.heap.size from HC.out.2.1.size)
              go_region_held3 (fun w' => w'.cell? ⟨wr.heap.size, 0, none⟩ = some (.slice u.kA u.key.length u.kc) ∧ w'.cell? ⟨wr.heap.size, 1, none⟩ = some (.slice u.rA u.row.length u.rc))
                ((first | exact ⟨d0, d1⟩ | exact ⟨e10, e11⟩ | exact ⟨e20, e21⟩ | exact ⟨e30 _, e31 _⟩ | exact ⟨e40 _ _, e41 _ _⟩))
                (first | (go_at_call 93; have hq := hr1; refine (y2 _ hr1 hb1).out.mono ?_; rintro _ w2 ⟨A2, k2, rfl, hA2, hN2, hr2, f2⟩; have hb2 := hb1.trans (f2.below HM.out.1 HM.out.2.1 hb1.size); have ho2 := f2.own ho1 HM.out.2.2.2.1 HM.out.2.2.2.2.1; have hv2 := f2.own hv1 HP1.out.1 HP1.out.2.1; have e20 := hv2.at_ 0; have e21 := hv2.at_ 1; have e30 := fun x => (hv2.other (p := ⟨G, k * 6, none⟩) (Ne.symm HP1.out.2.2) x).at_ 0; have e31 := fun x => (hv2.other (p := ⟨G, k * 6, none⟩) (Ne.symm HP1.out.2.2) x).at_ 1; have e40 := fun x y => ((hv2.other (p := ⟨G, k * 6, none⟩) (Ne.symm HP1.out.2.2) x).other (p := ⟨G, k * 6 + 1, none⟩) (Ne.symm HP1.out.2.2) y).at_ 0; have e41 := fun x y => ((hv2.other (p := ⟨G, k * 6, none⟩) (Ne.symm HP1.out.2.2) x).other (p := ⟨G, k * 6 + 1, none⟩) (Ne.symm HP1.out.2.2) y).at_ 1; have g0 := (ho2.at_ (k * 6 + 0)).trans (flat_of (size := 6) (cells := Up.cells) (fun _ => rfl) _ k 0 u _ HC.out.2.2.2.2.2.2.1 rfl); have g1 := fun x => ((ho2.set_ (k * 6) x).at_ (k * 6 + 1)).trans ((List.getElem?_set_ne (by omega)).trans (flat_of (size := 6) (cells := Up.cells) (fun _ => rfl) _ k 1 u _ HC.out.2.2.2.2.2.2.1 rfl)); have z0 := ho2.open_ (k * 6); have z1 := fun x => (ho2.set_ (k * 6) x).open_ (k * 6 + 1); rw [Nat.add_zero] at g0) | (go_at_call 93; refine (y1 _ HC.out.2.2.2.1.drew (Below.drew HC.out.2.1)).out.mono ?_; rintro _ w1 ⟨A1, k1, rfl, hA1, hN1, hr1, f1⟩; have hb1 := (Below.drew HC.out.2.1).trans (f1.below HM.out.1 HM.out.2.1 HBd.out); have ho1 := f1.own (own_drew' HC.out.2.2.1) HM.out.2.2.2.1 HM.out.2.2.2.2.1; have hv1 := f1.own (own_drew' HC.out.2.2.2.2.1) HP1.out.1 HP1.out.2.1; have e10 := hv1.at_ 0; have e11 := hv1.at_ 1))
              have X2 := (ho2.set_ (k * 6 + 0) (.slice A1 u.key.length k1)).set_ (k * 6 + 1) (.slice A2 u.row.length k2)
              rw [set_rows HC.out.2.2.2.2.2.2.1 A1 A2 k1 k2, (done_at (u' := { u with kA := A1, kc := k1, rA := A2, rc := k2 }) HC.out.1.len HC.out.2.2.2.2.2.2.2.1).2, Nat.add_zero] at X2
              have hbf := (hb2.setCell (p := ⟨G, k * 6, none⟩) HM.out.2.2.1 (.slice A1 u.key.length k1)).setCell (p := ⟨G, k * 6 + 1, none⟩) HM.out.2.2.1 (.slice A2 u.row.length k2)
              have hvr := ((hr2.var.other (p := ⟨G, k * 6, none⟩) HM.out.2.2.2.1 (.slice A1 u.key.length k1)).other (p := ⟨G, k * 6 + 1, none⟩) HM.out.2.2.2.1 (.slice A2 u.row.length k2))
              have hrw := World.ownsRow.kept (row := some G) (w' := (w2.setCell ⟨G, k * 6, none⟩ (.slice A1 u.key.length k1)).setCell ⟨G, k * 6 + 1, none⟩ (.slice A2 u.row.length k2)) hr2.row ⟨rfl, rfl, rfl, by simp [World.setCell], fun i _ hne => (Below.heap_setCell _ ⟨G, k * 6 + 1, none⟩ _ i (by simpa using hne)).trans (Below.heap_setCell w2 ⟨G, k * 6, none⟩ _ i (by simpa using hne))⟩ (.inr fun h => HM.out.2.2.2.2.1 (by simpa [Value.ownBlock, eq_comm] using h))
              have HF := Lib.hid (And.intro X2 (And.intro hbf (And.intro hvr (And.intro hrw (And.intro hr2.ne (And.intro (And.intro hA1 hN1) (And.intro hA2 hN2)))))))
              have hR1 := Lib.hid hr1.row.1
              have hR0 := Lib.hid HC.out.2.2.2.1.row.1
              clear hq hA1 hN1 hA2 hN2 hr1 hr2 f1 f2 hb1 hb2 ho1 ho2 hv1 hv2 e10 e11 e20 e21 e30 e31 e40 e41 g0 g1 z0 z1 X2 hbf hvr hrw d0 d1 d2 d3 d4 d5 y1 y2
              go_wp2_with fail
              go_roundw
              case rel =>
                refine ⟨k + 1, done ++ [{ u with kA := A1, kc := k1, rA := A2, rc := k2 }], by go_num, by omega, ⟨by rw [List.length_append, HC.out.1.len]; rfl, copy_p HC.out.2.2.2.2.2.2.2.1 HC.out.1.p_, HF.out.1, ?_, fun x hx => ?_, HF.out.2.1⟩⟩
                · have h1 := HF.out.2.2.2.1
                  have h2 := HC.out.2.2.2.2.2.2.2.2.2.2.1
                  have h3 := HC.out.2.2.2.2.2.2.2.2.2.2.2
                  rw [h3, h2, ← Nat.add_assoc]
                  exact ⟨HF.out.2.2.1, h1, HF.out.2.2.2.2.1⟩
                · have h3 := HC.out.2.2.2.2.2.2.2.2.2.2.2
                  rw [h3]
                  rcases List.mem_append.1 hx with hx | hx
                  · have := HC.out.1.in_ x hx
                    rw [HC.out.2.2.2.2.2.2.2.2.2.1] at this
                    exact ⟨(this.1.more _).more _, (this.2.more _).more _⟩
                  · obtain rfl : x = { u with kA := A1, kc := k1, rA := A2, rc := k2 } := by simpa using hx
                    exact ⟨(inblock_new hR0.out HF.out.2.2.2.2.2.1.1 HF.out.2.2.2.2.2.1.2).more _, inblock_new hR1.out HF.out.2.2.2.2.2.2.1 HF.out.2.2.2.2.2.2.2⟩
              case measure => simp [intOf]; omega
            · have hk2 : k = l.length := by omega
              subst hk2
              have HC := Lib.hid hc
              clear hc
              go_wp2_with fail
              go_ret
              have hp := HC.out.p_
              have ho := HC.out.own
              rw [List.take_length] at hp
              rw [List.drop_length, List.append_nil] at ho
              refine ⟨some ⟨G, 0, none⟩, done, by rw [HC.out.len]; rfl, hp, ups_own ho fun x hx => ⟨(HC.out.in_ x hx).1.vals HC.out.rows.row, (HC.out.in_ x hx).2.vals HC.out.rows.row⟩, fun x hx => ?_, ⟨fun b o e => ?_, fun x hx b o e => ?_⟩, HC.out.below, fun h => absurd (show l.length = 0 from by rw [← HC.out.len, h]; rfl) (by omega), fun _ => ⟨G, rfl, ho, fun x hx b o e => ?_⟩⟩
              · obtain ⟨y, hy, e⟩ := mem_p hp hx
                exact uok_p e (HL.out.2.1.ok y hy)
              · simp only [Option.some.injEq, Addr.mk.injEq, and_true] at e
                have := HM.out.2.2.1
                omega
              · have h1 := HC.out.in_ x hx
                have h2 := HM.out.2.1
                rcases e with e | e
                · rw [h1.1.far b o e]; exact h2
                · rw [h1.2.far b o e]; exact h2
              · have h1 := HC.out.in_ x hx
                rcases e with e | e
                · rw [h1.1.far b o e]; exact Ne.symm HM.out.2.2.2.2.1
                · rw [h1.2.far b o e]; exact Ne.symm HM.out.2.2.2.2.1
end Go.Proofs.YtbccdmpnojdldaaGreat
