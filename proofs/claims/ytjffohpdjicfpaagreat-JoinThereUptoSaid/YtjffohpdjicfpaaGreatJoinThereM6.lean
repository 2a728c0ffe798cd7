/- Part 6 of the texts on which JoinThere rests: facts and contracts. -/
import Derived.Test.YtjffohpdjicfpaaGreatJoinThereM5
import Derived.Handy
import Derived.Deep.DeepAppendRoom
import Derived.ArgAppend
import Derived.BigQuiet
import Derived.Deep.QuietTactic
import Derived.Deep.RegionHeld3
import Derived.Deep.DeepCutAuto
import Derived.Deep.CutRange
import Derived.Deep.CutBlock
import Derived.Outline
import Derived.Test.YtjffohpdjicfpaaGreatSort
namespace Go.Proofs.YtjffohpdjicfpaaGreat
open Go Go.RowKit
structure EqS (f : List Tm) (X Y : List Up) : Prop where
  l : chkUs X = 0
  r : chkUs Y = 0
  s : ∀ k, sumOf Uk.cmp ((advL f X).map Up.p) k = sumOf Uk.cmp ((advL f Y).map Up.p) k
theorem chkUs_join {a b : List Up} (h : chkUs a = 0) (k : chkUs b = 0) : chkUs (a ++ b) = 0 :=
  chkUs_all.2 fun u hu => by
    rcases List.mem_append.1 hu with hu | hu
    · exact chkUs_all.1 h u hu
    · exact chkUs_all.1 k u hu
theorem chkUs_parts {a b : List Up} (h : chkUs (a ++ b) = 0) : chkUs a = 0 ∧ chkUs b = 0 :=
  ⟨chkUs_all.2 fun u hu => chkUs_all.1 h u (List.mem_append_left _ hu), chkUs_all.2 fun u hu => chkUs_all.1 h u (List.mem_append_right _ hu)⟩
section
variable {f g : List Tm} {X Y Z W : List Up}
theorem EqS.refl (h : chkUs X = 0) : EqS f X X := ⟨h, h, fun _ => rfl⟩
theorem EqS.symm (h : EqS f X Y) : EqS f Y X := ⟨h.r, h.l, fun k => (h.s k).symm⟩
theorem EqS.trans (h : EqS f X Y) (k : EqS f Y Z) : EqS f X Z := ⟨h.l, k.r, fun x => (h.s x).trans (k.s x)⟩
theorem EqS.app (h : EqS f X Y) (k : EqS f Z W) : EqS f (X ++ Z) (Y ++ W) := ⟨chkUs_join h.l k.l, chkUs_join h.r k.r, fun x => by
  simp only [advL, List.map_append, sumOf_append]
  exact congr (congrArg HAdd.hAdd (h.s x)) (k.s x)⟩
theorem EqS.perm (h : chkUs X = 0) (k : X.Perm Y) : EqS f X Y := ⟨h, chkUs_all.2 fun u hu => chkUs_all.1 h u (k.symm.subset hu), fun x => sumOf_perm ((k.map _).map _) x⟩
theorem EqS.of_p (h : chkUs X = 0) (k : X.map Up.p = Y.map Up.p) : EqS f X Y := ⟨h, by rw [← chkUs_p k]; exact h, fun x => by rw [advL_p f k]⟩
theorem EqS.nz_ (h : EqS f X Y) (hf : ∀ x ∈ f, x.right = true) : nz Uk.cmp ((advL f X).map Up.p) = nz Uk.cmp ((advL f Y).map Up.p) := nz_ext uk_lin (adv_keys hf h.l) (adv_keys hf h.r) h.s
theorem EqS.cons (h : EqS f X Y) (hf : ∀ x ∈ f, x.right = true) : consL [advL f X] = consL [advL f Y] ∧ consE [advL f X] = consE [advL f Y] := by
  have h1 : chkLs [advL f X] = 0 := chkLs_all.2 fun m hm => by obtain rfl : m = advL f X := (by simpa using hm); exact (chkUs_adv hf X).trans h.l
  have h2 : chkLs [advL f Y] = 0 := chkLs_all.2 fun m hm => by obtain rfl : m = advL f Y := (by simpa using hm); exact (chkUs_adv hf Y).trans h.r
  unfold consL consE
  rw [if_pos h1, if_pos h1, if_pos h2, if_pos h2]
  simp only [List.flatten_cons, List.flatten_nil, List.append_nil]
  exact resL_ext uk_lin (adv_keys hf h.l) (adv_keys hf h.r) h.s
theorem EqS.psum_ (h : EqS f X Y) (hf : ∀ x ∈ f, x.right = true) (p : Uk → Bool) : psum p ((advL f X).map Up.p) = psum p ((advL f Y).map Up.p) := by
  rw [← psum_nz uk_lin p (adv_keys hf h.l), ← psum_nz uk_lin p (adv_keys hf h.r), h.nz_ hf]
theorem sum_adv (g : List Tm) (k : Uk) : ∀ l : List Up, sumOf Uk.cmp ((advL g l).map Up.p) k = psum (fun x : Uk => decide (Uk.cmp ⟨x.key, x.row, adv x.t g⟩ k = 0)) (l.map Up.p)
  | [] => rfl
  | u :: l => by
    have ih := sum_adv g k l
    unfold advL at ih ⊢
    simp only [List.map_cons, sumOf, psum]
    rw [ih]
    have e : Uk.cmp (Up.p (Up.advd g u)).1 k = Uk.cmp ⟨(Up.p u).1.key, (Up.p u).1.row, adv (Up.p u).1.t g⟩ k := rfl
    rw [e]
    by_cases h : Uk.cmp ⟨(Up.p u).1.key, (Up.p u).1.row, adv (Up.p u).1.t g⟩ k = 0
    · rw [if_pos h, if_pos (by simpa using h)]; rfl
    · rw [if_neg h, if_neg (by simpa using h)]
theorem adv_far (h : LaterF g f) (l : List Up) : advL g (advL f l) = advL g l := by
  unfold advL
  rw [List.map_map]
  refine List.map_congr_left fun u _ => ?_
  show Up.advd g (Up.advd f u) = Up.advd g u
  unfold Up.advd
  rcases h with rfl | ⟨h1, h2⟩
  · rfl
  · dsimp only
    rw [adv_later u.t f g h1 h2]
theorem EqS.later (h : EqS f X Y) (hf : ∀ x ∈ f, x.right = true) (k : LaterF g f) : EqS g X Y := ⟨h.l, h.r, fun x => by
  rw [← adv_far k X, ← adv_far k Y, sum_adv, sum_adv]
  exact h.psum_ hf _⟩
theorem eqs_cons {e : List Up} (hf : ∀ x ∈ f, x.right = true) (h : consE [advL f X] = 0) (he : e.map Up.p = consL [advL f X]) : EqS f e X := by
  obtain ⟨h1, h2, h3⟩ := cons_chk h
  have hl : chkUs (advL f X) = 0 := chkLs_all.1 h1 _ (by simp)
  simp only [List.flatten_cons, List.flatten_nil, List.append_nil] at h2 h3
  have hX : chkUs X = 0 := (chkUs_adv hf X).symm.trans hl
  have hev := cons_even h he
  have hid : advL f e = e := advL_id (batch_advd h he)
  refine ⟨hev.2.2, hX, fun k => ?_⟩
  rw [hid, he, h3, (resE_zero h2).1, nz_sum uk_lin]
end
theorem even_nz {l : List Up} (h : EvenP l) (ok : ∀ u ∈ l, UOk u) : nz Uk.cmp (l.map Up.p) = l.map Up.p ∧ resE Uk.cmp (l.map Up.p) = 0 := by
  have hR := keys_right (chkUs_all.1 h.2.2)
  have e : nz Uk.cmp (l.map Up.p) = l.map Up.p := srt_ext uk_lin _ _ (nz_srt uk_lin _) h.2.1 fun y => by
    rw [nz_mem uk_lin hR]
    constructor
    · rintro ⟨h1, h2, h3⟩
      obtain ⟨x, hx, hc⟩ := sumOf_some (h2 ▸ h3)
      have e : x.1 = y.1 := (uk_lin.eq _ _ (hR x hx) h1).1 hc
      have := srt_sum uk_lin h.2.1 hx
      rw [e, ← h2] at this
      have exy : x = y := Prod.ext e this.symm
      rw [← exy]
      exact hx
    · intro hy
      refine ⟨hR y hy, (srt_sum uk_lin h.2.1 hy).symm, ?_⟩
      obtain ⟨u, hu, rfl⟩ := List.mem_map.1 hy
      exact h.1 u hu
  refine ⟨e, ?_⟩
  unfold resE
  rw [if_pos]
  rw [fit_all, e, List.all_eq_true]
  intro x hx
  obtain ⟨u, hu, rfl⟩ := List.mem_map.1 hx
  exact (fits_iff _).2 (ok u hu).dn
def There (l : List (List Vl × Int)) (e : Int) (w : World) (x : Ending) (w' : World) : Prop :=
  ∃ A c, ∃ outL : List Ct, x = .returned (.tuple #[.slice A outL.length c, .int .i64 e]) ∧ outL.map Ct.p = l ∧ Cts w' w'.heap.size A outL ∧ (∀ u ∈ outL, COk u) ∧ outL.length ≤ 1099511627776 ∧ Below w.heap.size w w'
def ThereNew (l : List (List Vl × Int)) (e : Int) (w : World) (x : Ending) (w' : World) : Prop :=
  ∃ A c, ∃ outL : List Ct, x = .returned (.tuple #[.slice A outL.length c, .int .i64 e]) ∧ outL.map Ct.p = l ∧ Cts w' w'.heap.size A outL ∧ (∀ u ∈ outL, COk u) ∧ outL.length ≤ 1099511627776 ∧ Below w.heap.size w w' ∧ LoC w.heap.size A outL
theorem same_yes (A A' : Option Addr) (c c' : Nat) (l m : List Ct) (w : World) (hl : Cts w w.heap.size A l) (hm : Cts w w.heap.size A' m) (hol : ∀ u ∈ l, COk u) (hom : ∀ u ∈ m, COk u) (hn : l.length ≤ 1099511627776) (hn' : m.length ≤ 1099511627776) (h : l.map Ct.p = m.map Ct.p) :
    Calls Tryz.prog 18 #[.slice A l.length c, .slice A' m.length c'] w fun x w' => x = .returned (.bool true) ∧ Below w.heap.size w w' :=
  (sameC_any A A' c c' l m w hl hm hol hom hn hn').mono fun x w' ⟨b, h1, h2, h3⟩ => ⟨by rw [h1, h2.2 h], h3⟩
def Evened (l : List (Uk × Int)) (e : Int) (w : World) (x : Ending) (w' : World) : Prop :=
  ∃ A c, ∃ outL : List Up, x = .returned (.tuple #[.slice A outL.length c, .int .i64 e]) ∧ outL.map Up.p = l ∧ Ups w' w'.heap.size A outL ∧ (∀ u ∈ outL, UOk u) ∧ outL.length ≤ 1099511627776 ∧ Below w.heap.size w w'
theorem infoTm : (Tryz.prog.info? 26).map (fun i => (i.zero, i.size, i.bytes)) = some (some (Tm.mk 0 0 0).val, 3, 24) := by kernel_rfl
theorem flat_at : ∀ (l : List Tm) (i : Nat) (t : Tm), l[i]? = some t → (l.flatMap Tm.cells)[i * 3]? = some (.int .u64 (t.e : Int)) ∧ (l.flatMap Tm.cells)[i * 3 + 1]? = some (.int .u64 (t.a : Int)) ∧ (l.flatMap Tm.cells)[i * 3 + 2]? = some (.int .u64 (t.b : Int))
  | [], i, t, h => by simp at h
  | x :: l, 0, t, h => by
    obtain rfl : x = t := by simpa using h
    simp [Tm.cells]
  | x :: l, i + 1, t, h => by
    have ih := flat_at l i t (by simpa using h)
    simp only [List.flatMap_cons, Tm.cells, show (i + 1) * 3 = i * 3 + 3 by omega, show i * 3 + 3 + 1 = i * 3 + 1 + 3 by omega, show i * 3 + 3 + 2 = i * 3 + 2 + 3 by omega]
    simpa using ih
theorem flat_len (l : List Tm) : (l.flatMap Tm.cells).length = l.length * 3 := by
  induction l with
  | nil => rfl
  | cons x l ih => rw [List.flatMap_cons, List.length_append, ih, List.length_cons]; simp [Tm.cells]; omega
theorem flatT_snoc (l : List Tm) (t : Tm) : l.flatMap Tm.cells ++ #[Value.int .u64 (t.e : Int), .int .u64 (t.a : Int), .int .u64 (t.b : Int)].toList = (l ++ [t]).flatMap Tm.cells := by
  simp [Tm.cells]
theorem times_of_own {w : World} {base : Nat} {v : Value} {l : List Tm} {n : Nat} (hn : n = l.length) (h : w.ownsRow base 26 3 v n (l.flatMap Tm.cells)) :
    ∃ A c, v = .slice A l.length c ∧ l.length ≤ c ∧ c ≤ maxLen ∧ Times w w.heap.size A l := by
  subst hn
  rcases h.2 with ⟨rfl, h0⟩ | ⟨g, cap, cur, rfl, hb, hg, h1, h2, h3, h4⟩
  · exact ⟨none, 0, by rw [h0], by omega, by omega, fun h => by omega⟩
  · refine ⟨_, cap, rfl, h1, h2, fun _ => ⟨g, 0, rfl, (Array.getElem?_eq_some_iff.1 hg).1, fun i t hi => ?_⟩⟩
    have hil : i < l.length := (List.getElem?_eq_some_iff.1 hi).1
    obtain ⟨a0, a1, a2⟩ := flat_at l i t hi
    have hc : ∀ j, j < l.length * 3 → w.cell? ⟨g, 0 + j, none⟩ = (l.flatMap Tm.cells)[j]? := fun j hj => by rw [Nat.zero_add]; exact h.cellAt j hj
    exact ⟨(hc _ (by omega)).trans a0, by rw [Nat.add_assoc]; exact (hc _ (by omega)).trans a1, by rw [Nat.add_assoc]; exact (hc _ (by omega)).trans a2⟩
theorem tcells_one (t : Tm) : ∀ v ∈ t.cells, v.oneCell' = true := by
  intro v hv
  simp only [Tm.cells, List.mem_cons, List.not_mem_nil, or_false] at hv
  rcases hv with rfl | rfl | rfl <;> rfl
theorem lies_times {w : World} {B : Nat} {A : Option Addr} {l : List Tm} (h : Times w B A l) : Lies 3 Tm.cells w B A l := fun hp => by
  obtain ⟨b, o, e, hb, hc⟩ := h hp
  refine ⟨b, o, e, hb, fun i t hi j u hj => ?_⟩
  obtain ⟨a0, a1, a2⟩ := hc i t hi
  match j, hj with
  | 0, hj => rw [← hj]; exact a0
  | 1, hj => rw [← hj]; exact a1
  | 2, hj => rw [← hj]; exact a2
theorem times_lies {w : World} {B : Nat} {A : Option Addr} {l : List Tm} (h : Lies 3 Tm.cells w B A l) : Times w B A l := fun hp => by
  obtain ⟨b, o, e, hb, hc⟩ := h hp
  exact ⟨b, o, e, hb, fun i t hi => ⟨hc i t hi 0 _ rfl, hc i t hi 1 _ rfl, hc i t hi 2 _ rfl⟩⟩
theorem lies_owned {α : Type} {size : Nat} {cells : α → List Value} {w : World} {g : Nat} {t : TypeId} {l : List α} (hcl : ∀ x, (cells x).length = size) (h : Own w g t (l.flatMap cells)) : Lies size cells w w.heap.size (some ⟨g, 0, none⟩) l := fun _ =>
  ⟨g, 0, rfl, h.inside, fun i x hi j u hj => by rw [Nat.zero_add, h.at_]; exact flat_of hcl l i j x u hi hj⟩

set_option maxRecDepth 100000 in
set_option maxHeartbeats 3200000 in
theorem listU_any (A : Option Addr) (c : Nat) (l : List Up) (w : World) (hl : Lies 6 Up.cells w w.heap.size A l) (hn : l.length * 80 ≤ 140737488355328) :
    Calls Tryz.prog 143 #[.slice A l.length c] w fun x w' => ∃ A', x = .returned (.slice A' l.length l.length) ∧ (l = [] → A' = none ∧ w' = w) ∧ (0 < l.length → A' = some ⟨w.heap.size, 0, none⟩ ∧ Own w' w.heap.size 49 (l.flatMap Up.cells)) ∧ Below w.heap.size w w' := by
  obtain ⟨i0, hi, hz0, hz1, hz2⟩ := info_parts infoUp
  have hU := Tryz.underlying22
  have hsz1 : (Tryz.prog.info? 49).map (·.size) = some 6 := by rw [hi]; simp [hz1]
  cases l with
  | nil =>
    clear hl hn hi hz0 hz1 hz2 hU hsz1
    go_enter Tryz.func143, Tryz.ntmps143
    go_wp2_with fail
    go_ret
    exact ⟨none, rfl, fun _ => ⟨rfl, rfl⟩, fun h => absurd h (by simp), Below.refl _ _⟩
  | cons t l =>
    obtain ⟨b, o, rfl, hB, hc⟩ := hl (by simp)
    obtain ⟨m, hm⟩ : ∃ m, m = t :: l := ⟨_, rfl⟩
    have hpos : 0 < m.length := by rw [hm]; simp
    have hne : m ≠ [] := by rw [hm]; simp
    rw [← hm] at hc hn ⊢
    have t1 : ((m.length : Int) == 0) = false := beq_eq_false_iff_ne.2 (by omega)
    have HC := Lib.hid hc
    have HNE := Lib.hid hne
    clear hc hm hl hne
    go_enter Tryz.func143, Tryz.ntmps143
    go_wp2_with (refine wpList_make_full _ rfl (.tmp 8) (.tmp 8) 22 rfl w.heap.size 49 i0 _ 6 hU hi hz0 hz1 .i64 .i64 _ _ m.length rfl rfl rfl rfl ?c1 ?c2 ?c3 ?_)
    case c1 => rw [hz2]; omega
    case c2 => unfold maxLen; omega
    case c3 => exact Nat.le_refl _
    intro w1 ho1 hg1
    obtain ⟨cur, ho1⟩ : ∃ cur, w1.ownsRow w.heap.size 49 6 (.slice (some ⟨w.heap.size, 0, none⟩) m.length m.length) m.length cur := ⟨_, ho1⟩
    have hm1 := own_made ho1
    have hb1 : Below w.heap.size w w1 := (Below.refl _ _).grown hg1 (Nat.le_refl _) (fun k h => by cases h)
    have hlen1 : cur.length = m.length * 6 := ho1.1
    have hcl : (m.flatMap Up.cells).length = m.length * 6 := flat_size (size := 6) (cells := Up.cells) (fun _ => rfl) m
    have hsrc : ∀ j v, (m.flatMap Up.cells)[j]? = some v → w1.cell? ((⟨b, o, none⟩ : Addr).add j) = some v := fun j v hv => by
      obtain ⟨i, r, x, rfl, hx, hr⟩ := flat_back (size := 6) (cells := Up.cells) (by decide) (fun _ => rfl) m j v hv
      have ea : (⟨b, o, none⟩ : Addr).add (i * 6 + r) = ⟨b, o + i * 6 + r, none⟩ := by unfold Addr.add; split <;> simp_all <;> omega
      rw [ea, hb1.cell (p := ⟨b, o + i * 6 + r, none⟩) hB]
      exact HC.out i x hx r v hr
    have hrun := fun ty => run_copy_all (P := Tryz.prog) w1 22 22 ty 49 w.heap.size m.length m.length c 6 ⟨b, o, none⟩ cur (m.flatMap Up.cells) 49 hU hsz1 hm1 hcl hsrc (by rw [hcl, hlen1]) (fun v hv => by
      obtain ⟨x, _, hx⟩ := List.mem_flatMap.1 hv
      exact ucells_one x v hx)
    have ho2 : Own (w1.setRow w.heap.size (m.flatMap Up.cells).toArray) w.heap.size 49 (m.flatMap Up.cells) := own_setRow hm1
    have hb2 : Below w.heap.size w (w1.setRow w.heap.size (m.flatMap Up.cells).toArray) := below_setRow hb1 (Nat.le_refl _) _
    have HR := Lib.hid hrun
    obtain ⟨w2, hw2⟩ : ∃ w2, w2 = w1.setRow w.heap.size (m.flatMap Up.cells).toArray := ⟨_, rfl⟩
    rw [← hw2] at HR ho2 hb2
    have H2 := Lib.hid (And.intro ho2 hb2)
    clear hw2 hrun ho2 hb2 hsrc hcl hm1 hb1 hlen1 ho1 hg1 hU hsz1 hi hz0 hz1 hz2
    go_wp2_with (refine Lib.wpList_copy_run _ rfl _ _ 22 22 rfl _ _ rfl rfl (HR.out _) ?_)
    go_wp2_with fail
    go_ret
    exact ⟨_, rfl, fun h => absurd h HNE.out, fun _ => ⟨rfl, H2.out.1⟩, H2.out.2⟩

set_option maxRecDepth 100000 in
set_option maxHeartbeats 3200000 in
theorem listT_any (A : Option Addr) (c : Nat) (l : List Tm) (w : World) (hl : Lies 3 Tm.cells w w.heap.size A l) (hn : l.length * 24 ≤ 140737488355328) :
    Calls Tryz.prog 39 #[.slice A l.length c] w fun x w' => ∃ A', x = .returned (.slice A' l.length l.length) ∧ (l = [] → A' = none ∧ w' = w) ∧ (0 < l.length → A' = some ⟨w.heap.size, 0, none⟩ ∧ Own w' w.heap.size 26 (l.flatMap Tm.cells)) ∧ Below w.heap.size w w' := by
  obtain ⟨i0, hi, hz0, hz1, hz2⟩ := info_parts infoTm
  have hU := Tryz.underlying33
  have hsz1 : (Tryz.prog.info? 26).map (·.size) = some 3 := by rw [hi]; simp [hz1]
  cases l with
  | nil =>
    clear hl hn hi hz0 hz1 hz2 hU hsz1
    go_enter Tryz.func39, Tryz.ntmps39
    go_wp2_with fail
    go_ret
    exact ⟨none, rfl, fun _ => ⟨rfl, rfl⟩, fun h => absurd h (by simp), Below.refl _ _⟩
  | cons t l =>
    obtain ⟨b, o, rfl, hB, hc⟩ := hl (by simp)
    obtain ⟨m, hm⟩ : ∃ m, m = t :: l := ⟨_, rfl⟩
    have hpos : 0 < m.length := by rw [hm]; simp
    have hne : m ≠ [] := by rw [hm]; simp
    rw [← hm] at hc hn ⊢
    have t1 : ((m.length : Int) == 0) = false := beq_eq_false_iff_ne.2 (by omega)
    have HC := Lib.hid hc
    have HNE := Lib.hid hne
    clear hc hm hl hne
    go_enter Tryz.func39, Tryz.ntmps39
    go_wp2_with (refine wpList_make_full _ rfl (.tmp 8) (.tmp 8) 33 rfl w.heap.size 26 i0 _ 3 hU hi hz0 hz1 .i64 .i64 _ _ m.length rfl rfl rfl rfl ?c1 ?c2 ?c3 ?_)
    case c1 => rw [hz2]; omega
    case c2 => unfold maxLen; omega
    case c3 => exact Nat.le_refl _
    intro w1 ho1 hg1
    obtain ⟨cur, ho1⟩ : ∃ cur, w1.ownsRow w.heap.size 26 3 (.slice (some ⟨w.heap.size, 0, none⟩) m.length m.length) m.length cur := ⟨_, ho1⟩
    have hm1 := own_made ho1
    have hb1 : Below w.heap.size w w1 := (Below.refl _ _).grown hg1 (Nat.le_refl _) (fun k h => by cases h)
    have hlen1 : cur.length = m.length * 3 := ho1.1
    have hcl : (m.flatMap Tm.cells).length = m.length * 3 := flat_size (size := 3) (cells := Tm.cells) (fun _ => rfl) m
    have hsrc : ∀ j v, (m.flatMap Tm.cells)[j]? = some v → w1.cell? ((⟨b, o, none⟩ : Addr).add j) = some v := fun j v hv => by
      obtain ⟨i, r, x, rfl, hx, hr⟩ := flat_back (size := 3) (cells := Tm.cells) (by decide) (fun _ => rfl) m j v hv
      have ea : (⟨b, o, none⟩ : Addr).add (i * 3 + r) = ⟨b, o + i * 3 + r, none⟩ := by unfold Addr.add; split <;> simp_all <;> omega
      rw [ea, hb1.cell (p := ⟨b, o + i * 3 + r, none⟩) hB]
      exact HC.out i x hx r v hr
    have hrun := fun ty => run_copy_all (P := Tryz.prog) w1 33 33 ty 26 w.heap.size m.length m.length c 3 ⟨b, o, none⟩ cur (m.flatMap Tm.cells) 26 hU hsz1 hm1 hcl hsrc (by rw [hcl, hlen1]) (fun v hv => by
      obtain ⟨x, _, hx⟩ := List.mem_flatMap.1 hv
      exact tcells_one x v hx)
    have ho2 : Own (w1.setRow w.heap.size (m.flatMap Tm.cells).toArray) w.heap.size 26 (m.flatMap Tm.cells) := own_setRow hm1
    have hb2 : Below w.heap.size w (w1.setRow w.heap.size (m.flatMap Tm.cells).toArray) := below_setRow hb1 (Nat.le_refl _) _
    have HR := Lib.hid hrun
    obtain ⟨w2, hw2⟩ : ∃ w2, w2 = w1.setRow w.heap.size (m.flatMap Tm.cells).toArray := ⟨_, rfl⟩
    rw [← hw2] at HR ho2 hb2
    have H2 := Lib.hid (And.intro ho2 hb2)
    clear hw2 hrun ho2 hb2 hsrc hcl hm1 hb1 hlen1 ho1 hg1 hU hsz1 hi hz0 hz1 hz2
    go_wp2_with (refine Lib.wpList_copy_run _ rfl _ _ 33 33 rfl _ _ rfl rfl (HR.out _) ?_)
    go_wp2_with fail
    go_ret
    exact ⟨_, rfl, fun h => absurd h HNE.out, fun _ => ⟨rfl, H2.out.1⟩, H2.out.2⟩
theorem listT_times (A : Option Addr) (c : Nat) (l : List Tm) (w : World) (hl : Times w w.heap.size A l) (hn : l.length * 24 ≤ 140737488355328) :
    Calls Tryz.prog 39 #[.slice A l.length c] w fun x w' => ∃ A', x = .returned (.slice A' l.length l.length) ∧ Times w' w'.heap.size A' l ∧ (∀ b o, A' = some ⟨b, o, none⟩ → w.heap.size ≤ b ∧ b < w'.heap.size) ∧ Below w.heap.size w w' :=
  (listT_any A c l w (lies_times hl) hn).mono fun x w' ⟨A', h1, h2, h3, h4⟩ => by
    refine ⟨A', h1, ?_, ?_, h4⟩
    · intro hp
      obtain ⟨rfl, ho⟩ := h3 hp
      exact times_lies (lies_owned (fun _ => rfl) ho) hp
    · intro b o e
      by_cases hp : 0 < l.length
      · obtain ⟨rfl, ho⟩ := h3 hp
        simp only [Option.some.injEq, Addr.mk.injEq, and_true] at e
        have := ho.inside
        omega
      · obtain ⟨rfl, _⟩ := h2 (List.eq_nil_of_length_eq_zero (by omega))
        cases e
theorem lies_cells {α : Type} {size : Nat} {cells : α → List Value} {w : World} {B b o : Nat} {l : List α} (hpos : 0 < size) (hcl : ∀ x, (cells x).length = size) (h : Lies size cells w B (some ⟨b, o, none⟩) l) : ∀ j u, (l.flatMap cells)[j]? = some u → w.cell? ((⟨b, o, none⟩ : Addr).add j) = some u := fun j u hu => by
  obtain ⟨i, r, y, rfl, hi, hr⟩ := flat_back hpos hcl l j u hu
  obtain ⟨b', o', e, _, hc⟩ := h (by have := (List.getElem?_eq_some_iff.1 hi).1; omega)
  simp only [Option.some.injEq, Addr.mk.injEq, and_true] at e
  obtain ⟨rfl, rfl⟩ := e
  have ea : (⟨b, o, none⟩ : Addr).add (i * size + r) = ⟨b, o + i * size + r, none⟩ := by unfold Addr.add; split <;> simp_all <;> omega
  rw [ea]
  exact hc i y hi r u hr
theorem append_types {P : Program} (w : World) {t tx ty e e' : TypeId} {i : TypeInfo} (ht : P.underlying t = some (.slice e)) (htx : P.underlying tx = some (.slice e')) (hi : P.info? e = some i) (ad : Option Addr) (n cap : Nat) (x : Value) : (Builtin.append_ #[t, tx] ty #[.slice ad n cap, x]).run P w = (Builtin.append_ #[t, t] ty #[.slice ad n cap, x]).run P w := by
  simp [Builtin.append_, run_underlying ht, run_underlying htx, sizeOf, typeInfo, hi]
theorem wpList_append_room {P : Program} (w : World) {ops : Array Oper} {rest : List Oper} {o : Oper} {a : Act} {Q : Exit → Act → World → Prop} (hgd : o.guard = none) (s x : Operand) (t tx e e' : TypeId)
    (ho : o.op = .call { callee := .builtin .append, args := #[s, x], argTypes := #[t, tx] }) (i0 : TypeInfo) (size : Nat) (ht : P.underlying t = some (.slice e)) (htx : P.underlying tx = some (.slice e')) (hi : P.info? e = some i0) (hsz : i0.size = size)
    (base g n cap m c b off : Nat) (xs cs : List Value) (hown : w.ownsRow base e size (.slice (some ⟨g, 0, none⟩) n cap) n xs) (hs : a.eval s = .slice (some ⟨g, 0, none⟩) n cap) (hx : a.eval x = .slice (some ⟨b, off, none⟩) m c) (hcs : cs.length = m * size) (hroom : n + m ≤ cap)
    (hsrc : ∀ j v, cs[j]? = some v → w.cell? ((⟨b, off, none⟩ : Addr).add j) = some v) (h1 : ∀ v ∈ cs, v.oneCell' = true)
    (h : ∀ w', w'.ownsRow base e size (.slice (some ⟨g, 0, none⟩) (n + m) cap) (n + m) (xs ++ cs) → w.grownBy w' (some g) → wpList P ops Q rest (a.put o.dst (.slice (some ⟨g, 0, none⟩) (n + m) cap)) w') :
    wpList P ops Q (o :: rest) a w := by
  obtain ⟨X, hrun, hB, hG⟩ := run_append_own_spare (P := P) w base t o.type e i0 size ht hi hsz g n cap xs hown ⟨b, off, none⟩ m c cs hcs hsrc h1 hroom
  refine wpList_plain hgd fun K hK => ?_
  unfold Oper.wp execOp
  simp only [ho, resolve, invoke, builtin, Sem.run_bind, Sem.run_pure, Result.andThen_ok, List.map_toArray, List.map_cons, List.map_nil, hs, hx, append_types w ht htx hi, hrun]
  exact hK _ _ (h X hB hG)
structure Bt where
  sA : Option Addr
  sc : Nat
  f : List Tm
  uA : Option Addr
  uc : Nat
  l : List Up
namespace Bt
def cells (b : Bt) : List Value := [.slice b.sA b.f.length b.sc, .slice b.uA b.l.length b.uc]
def val (b : Bt) : Value := .agg #[.slice b.sA b.f.length b.sc, .slice b.uA b.l.length b.uc]
end Bt
structure BtIn (w : World) (B : Nat) (b : Bt) : Prop where
  since : Times w B b.sA b.f
  ups : Ups w B b.uA b.l
theorem BtIn.past {w w' : World} {B B' : Nat} {b : Bt} (h : BtIn w B b) (hb : Below B' w w') (hB : B ≤ B') : BtIn w' B b := ⟨h.since.past hb hB, h.ups.past hb hB⟩
theorem BtIn.wide {w : World} {B B' : Nat} {b : Bt} (h : BtIn w B b) (hB : B ≤ B') : BtIn w B' b := ⟨h.since.wide hB, h.ups.wide hB⟩
theorem BtIn.keep {w w' : World} {b : Bt} (h : BtIn w w.heap.size b) (hb : Below w.heap.size w w') : BtIn w' w'.heap.size b := (h.past hb (Nat.le_refl _)).wide hb.size
def big : Nat := 1099511627776
structure TsOk (f : List Tm) (c : Nat) : Prop where
  n : f.length ≤ 1099511627776
  le : f.length ≤ c
  c_ : c ≤ maxLen
structure UsOk (l : List Up) : Prop where
  n : l.length ≤ 1099511627776
  ok : ∀ u ∈ l, UOk u
structure BtOk (b : Bt) : Prop where
  f : TsOk b.f b.sc
  l : UsOk b.l
def Bt.nil : Bt := ⟨none, 0, [], none, 0, []⟩
theorem bt_nil_in (w : World) (B : Nat) : BtIn w B Bt.nil := ⟨Times.nil_, ⟨Lies.nil_, fun u hu => by cases hu⟩⟩
theorem ts_nil : TsOk [] 0 := ⟨Nat.zero_le _, Nat.le_refl _, Nat.zero_le _⟩
theorem us_nil : UsOk [] := ⟨Nat.zero_le _, fun u hu => by cases hu⟩
theorem bt_nil_ok : BtOk Bt.nil := ⟨ts_nil, us_nil⟩
def LoT (B : Nat) (A : Option Addr) : Prop := ∀ b o, A = some (⟨b, o, none⟩ : Addr) → B ≤ b
structure BtLo (B : Nat) (b : Bt) : Prop where
  f : LoT B b.sA
  l : Lo B b.uA b.l
theorem lot_nil (B : Nat) : LoT B none := fun _ _ h => by cases h
theorem bt_nil_lo (B : Nat) : BtLo B Bt.nil := ⟨lot_nil B, lo_nil B⟩
theorem Lo.mono {B B' : Nat} {A : Option Addr} {l : List Up} (h : Lo B A l) (hB : B' ≤ B) : Lo B' A l := ⟨fun b o e => Nat.le_trans hB (h.1 b o e), fun u hu b o e => Nat.le_trans hB (h.2 u hu b o e)⟩
theorem LoT.mono {B B' : Nat} {A : Option Addr} (h : LoT B A) (hB : B' ≤ B) : LoT B' A := fun b o e => Nat.le_trans hB (h b o e)
theorem BtLo.mono {B B' : Nat} {b : Bt} (h : BtLo B b) (hB : B' ≤ B) : BtLo B' b := ⟨h.f.mono hB, h.l.mono hB⟩
structure Mg where
  aA : Option Addr
  ac : Nat
  a : List Up
  bA : Option Addr
  bc : Nat
  b : List Up
  i : Int
  j : Int
  sA : Option Addr
  sc : Nat
  f : List Tm
  oA : Option Addr
  oc : Nat
  o : List Up
namespace Mg
def cells (m : Mg) : List Value := [.slice m.aA m.a.length m.ac, .slice m.bA m.b.length m.bc, .int .i64 m.i, .int .i64 m.j, .slice m.sA m.f.length m.sc, .slice m.oA m.o.length m.oc]
def val (m : Mg) : Value := .agg #[.slice m.aA m.a.length m.ac, .slice m.bA m.b.length m.bc, .int .i64 m.i, .int .i64 m.j, .slice m.sA m.f.length m.sc, .slice m.oA m.o.length m.oc]
def nil : Mg := ⟨none, 0, [], none, 0, [], 0, 0, none, 0, [], none, 0, []⟩
end Mg
structure MgIn (w : World) (B : Nat) (m : Mg) : Prop where
  a : Ups w B m.aA m.a
  b : Ups w B m.bA m.b
  f : Times w B m.sA m.f
  o : Ups w B m.oA m.o
theorem MgIn.past {w w' : World} {B B' : Nat} {m : Mg} (h : MgIn w B m) (hb : Below B' w w') (hB : B ≤ B') : MgIn w' B m := ⟨h.a.past hb hB, h.b.past hb hB, h.f.past hb hB, h.o.past hb hB⟩
theorem MgIn.wide {w : World} {B B' : Nat} {m : Mg} (h : MgIn w B m) (hB : B ≤ B') : MgIn w B' m := ⟨h.a.wide hB, h.b.wide hB, h.f.wide hB, h.o.wide hB⟩
theorem MgIn.keep {w w' : World} {m : Mg} (h : MgIn w w.heap.size m) (hb : Below w.heap.size w w') : MgIn w' w'.heap.size m := (h.past hb (Nat.le_refl _)).wide hb.size
structure MgOk (m : Mg) : Prop where
  a : UsOk m.a
  b : UsOk m.b
  f : TsOk m.f m.sc
  o : UsOk m.o
  i : -9223372036854775808 ≤ m.i ∧ m.i ≤ 9223372036854775807
  j : -9223372036854775808 ≤ m.j ∧ m.j ≤ 9223372036854775807
structure MgLo (B : Nat) (m : Mg) : Prop where
  a : Lo B m.aA m.a
  b : Lo B m.bA m.b
  f : LoT B m.sA
  o : Lo B m.oA m.o
theorem MgLo.mono {B B' : Nat} {m : Mg} (h : MgLo B m) (hB : B' ≤ B) : MgLo B' m := ⟨h.a.mono hB, h.b.mono hB, h.f.mono hB, h.o.mono hB⟩
theorem mg_nil_in (w : World) (B : Nat) : MgIn w B Mg.nil := ⟨⟨Lies.nil_, fun u hu => by cases hu⟩, ⟨Lies.nil_, fun u hu => by cases hu⟩, Times.nil_, ⟨Lies.nil_, fun u hu => by cases hu⟩⟩
theorem mg_nil_ok : MgOk Mg.nil := ⟨us_nil, us_nil, ts_nil, us_nil, by decide, by decide⟩
theorem mg_nil_lo (B : Nat) : MgLo B Mg.nil := ⟨lo_nil B, lo_nil B, lot_nil B, lo_nil B⟩
theorem btbox (w : World) (b : Bt) : ∃ W, W = w.alloc (.cells #[.slice b.sA b.f.length b.sc, .slice b.uA b.l.length b.uc] 125) ∧ Below w.heap.size w W ∧ W.heap.size = w.heap.size + 1 ∧ Own W w.heap.size 125 b.cells :=
  ⟨_, rfl, (Below.refl _ _).alloc (Nat.le_refl _) _, by simp, Own.made w 125 b.cells⟩
theorem mgbox (w : World) (m : Mg) : ∃ W, W = w.alloc (.cells #[.slice m.aA m.a.length m.ac, .slice m.bA m.b.length m.bc, .int .i64 m.i, .int .i64 m.j, .slice m.sA m.f.length m.sc, .slice m.oA m.o.length m.oc] 127) ∧ Below w.heap.size w W ∧ W.heap.size = w.heap.size + 1 ∧ Own W w.heap.size 127 m.cells :=
  ⟨_, rfl, (Below.refl _ _).alloc (Nat.le_refl _) _, by simp, Own.made w 127 m.cells⟩
theorem times_other {w X : World} {P : Nat} {A : Option Addr} {l : List Tm} (h : Times w w.heap.size A l) (hA : LoT (P + 1) A) (hs : X.heap.size = w.heap.size) (hX : ∀ b, b ≠ P → X.heap[b]? = w.heap[b]?) : Times X X.heap.size A l := fun hp => by
  obtain ⟨b, o, e, hb, hc⟩ := h hp
  have hne : b ≠ P := by have := hA b o e; omega
  have hk : ∀ j, X.cell? ⟨b, j, none⟩ = w.cell? ⟨b, j, none⟩ := fun j => by unfold World.cell?; rw [hX b hne]
  refine ⟨b, o, e, by omega, fun i v hi => ?_⟩
  obtain ⟨a0, a1, a2⟩ := hc i v hi
  exact ⟨(hk _).trans a0, (hk _).trans a1, (hk _).trans a2⟩
theorem ups_other {w X : World} {P : Nat} {A : Option Addr} {l : List Up} (h : Ups w w.heap.size A l) (hlo : Lo (P + 1) A l) (hs : X.heap.size = w.heap.size) (hX : ∀ b, b ≠ P → X.heap[b]? = w.heap[b]?) : Ups X X.heap.size A l := by
  refine ⟨fun hp => ?_, fun u hu => ⟨vals_other (h.each_ u hu).key (fun b o e => hlo.2 u hu b o (.inl e)) hs hX, vals_other (h.each_ u hu).row (fun b o e => hlo.2 u hu b o (.inr e)) hs hX⟩⟩
  obtain ⟨b, o, e, hb, hc⟩ := h.head hp
  have hne : b ≠ P := by have := hlo.1 b o e; omega
  exact ⟨b, o, e, by omega, fun i x hi j u hj => by
    rw [← hc i x hi j u hj]
    unfold World.cell?
    rw [hX b hne]⟩
theorem set2_other (w : World) (P : Nat) (x y : Value) : ((w.setCell ⟨P, 0, none⟩ x).setCell ⟨P, 1, none⟩ y).heap.size = w.heap.size ∧ ∀ b, b ≠ P → ((w.setCell ⟨P, 0, none⟩ x).setCell ⟨P, 1, none⟩ y).heap[b]? = w.heap[b]? :=
  ⟨by simp [World.setCell], fun b hb => (Below.heap_setCell _ ⟨P, 1, none⟩ y b hb).trans (Below.heap_setCell w ⟨P, 0, none⟩ x b hb)⟩
end Go.Proofs.YtjffohpdjicfpaaGreat
namespace Go.Proofs.YtjffohpdjicfpaaGreat
open Go Go.RowKit
structure Fr (w w' : World) (P g : Nat) : Prop where
  os : w'.os = w.os
  tape : w'.tape = w.tape
  output : w'.output = w.output
  size : w.heap.size ≤ w'.heap.size
  block : ∀ k, k < w.heap.size → k ≠ P → k ≠ g → w'.heap[k]? = w.heap[k]?
theorem Fr.refl (w : World) (P g : Nat) : Fr w w P g := ⟨rfl, rfl, rfl, Nat.le_refl _, fun _ _ _ _ => rfl⟩
theorem Fr.below {w w' : World} {P g B : Nat} (h : Fr w w' P g) (hP : B ≤ P) (hg : B ≤ g) (hB : B ≤ w.heap.size) : Below B w w' := ⟨h.os, h.tape, h.output, h.size, fun k hk => h.block k (by omega) (by omega) (by omega)⟩
structure Rws (w : World) (P g n cap base : Nat) (xs : List Value) : Prop where
  var : Own w P 210 [.slice (some ⟨g, 0, none⟩) n cap]
  row : w.ownsRow base 122 3 (.slice (some ⟨g, 0, none⟩) n cap) n xs
  ne : g ≠ P
theorem ret_sub {A : Option Addr} {m n c : Nat} (h : m = n) : Ending.returned (.slice A m c) = .returned (.slice A n c) := by rw [h]
def Rowed (r : List Vl) (P g n cap base : Nat) (xs : List Value) (w : World) (x : Ending) (w' : World) : Prop :=
  ∃ A c, x = .returned (.slice A r.length c) ∧ (0 < r.length → A = some ⟨g, n * 3, none⟩) ∧ (r = [] → A = none) ∧ Rws w' P g (n + r.length) cap base (xs ++ r.flatMap Vl.cells) ∧ Fr w w' P g
set_option maxRecDepth 100000 in
set_option maxHeartbeats 3200000 in
theorem rowcopy_any (P g n cap base : Nat) (xs : List Value) (A : Option Addr) (c : Nat) (r : List Vl) (w : World) (hr : Rws w P g n cap base xs) (hl : Vals w w.heap.size A r) (hn : n + r.length ≤ cap) (hc : cap ≤ 140737488351232) :
    Calls Tryz.prog 144 #[.pointer (some ⟨P, 0, none⟩), .slice A r.length c] w (Rowed r P g n cap base xs w) := by
  obtain ⟨i0, hi, hz0, hz1, hz2⟩ := info_parts infoVl
  have HI := Lib.hid (And.intro Tryz.underlying210 (And.intro hi hz1))
  by_cases h0 : r = []
  · subst h0
    have HR := Lib.hid hr
    clear hr hl hn hi hz0 hz1 hz2
    go_enter Tryz.func144, Tryz.ntmps144
    go_wp2_with fail
    go_ret
    exact ⟨none, 0, rfl, fun h => absurd h (by simp), fun _ => rfl, by simpa using HR.out, Fr.refl _ _ _⟩
  have hp : 0 < r.length := List.length_pos_iff.2 h0
  obtain ⟨b, o, rfl, hB, hv⟩ := hl hp
  have t0 : ((r.length : Int) == 0) = false := beq_eq_false_iff_ne.2 (by omega)
  have c0 := hr.var.at_ 0
  have f0 := hr.var.open_ 0
  simp only [List.getElem?_cons_zero] at c0
  have hsrc := Lib.hid (lies_cells (size := 3) (cells := Vl.cells) (by decide) (fun _ => rfl) (lies_of_vals hl))
  have HR := Lib.hid (And.intro hr h0)
  clear hr hl hv hi hz0 hz1 hz2 h0
  go_enter Tryz.func144, Tryz.ntmps144
  go_wp2_with (at_builtin; refine wpList_append_room _ rfl (.tmp 16) (.tmp 17) 210 47 122 122 rfl i0 3 HI.out.1 Tryz.underlying47 HI.out.2.1 HI.out.2.2 base g n cap r.length c b o xs (r.flatMap Vl.cells) HR.out.1.row rfl rfl ?m1 hn hsrc.out ?m2 ?m3)
  case m1 => exact flat_size (size := 3) (cells := Vl.cells) (fun _ => rfl) r
  case m2 => exact fun v hv => (by obtain ⟨x, _, hx⟩ := List.mem_flatMap.1 hv; exact vl_one x v hx)
  intro w1 ho1 hg1
  have hvar : Own w1 P 210 [.slice (some ⟨g, 0, none⟩) n cap] := (hg1.block P HR.out.1.var.inside (by simp; exact fun h => HR.out.1.ne h.symm)).trans HR.out.1.var
  have c1 := hvar.at_ 0
  have f1 := hvar.open_ 0
  simp only [List.getElem?_cons_zero] at c1
  have hg1' := hg1
  have H1 := Lib.hid (And.intro ho1 (And.intro hg1 hvar))
  clear ho1 hg1 hvar c0 f0
  have hvs := H1.out.2.2.set_ 0 (.slice (some ⟨g, 0, none⟩) (n + r.length) cap)
  have hfrm : Fr w (w1.setCell ⟨P, 0, none⟩ (.slice (some ⟨g, 0, none⟩) (n + r.length) cap)) P g := ⟨hg1'.os, hg1'.tape, hg1'.output, by simpa [World.setCell] using hg1'.size, fun k h0 h1 h2 => (Below.heap_setCell w1 ⟨P, 0, none⟩ _ k h1).trans (hg1'.block k h0 (by simp; exact h2))⟩
  obtain ⟨V, hV⟩ : ∃ V, V = w1.setCell ⟨P, 0, none⟩ (.slice (some ⟨g, 0, none⟩) (n + r.length) cap) := ⟨_, rfl⟩
  rw [← hV] at hvs hfrm
  have c2 := hvs.at_ 0
  simp only [List.set_cons_zero, List.getElem?_cons_zero] at c2
  have hrow : V.ownsRow base 122 3 (.slice (some ⟨g, 0, none⟩) (n + r.length) cap) (n + r.length) (xs ++ r.flatMap Vl.cells) := by
    rw [hV]
    refine World.ownsRow.kept (row := some P) H1.out.1 ⟨rfl, rfl, rfl, by simp [World.setCell], fun k _ hne => Below.heap_setCell w1 ⟨P, 0, none⟩ _ k (by simpa using hne)⟩ (.inr ?_)
    exact fun h => HR.out.1.ne (by simpa [Value.ownBlock] using h)
  have HV := Lib.hid (And.intro hvs (And.intro hfrm hrow))
  have q0 : (0 : Int) ≤ (n : Int) := by omega
  have q1 : (n : Int) ≤ ((n + r.length : Nat) : Int) := by omega
  have q2 : ((n + r.length : Nat) : Int) ≤ (cap : Int) := by omega
  clear hvs hfrm hg1' hrow
  go_upto_region 5 with fail
  rw [← hV]
  clear hV c1 f1
  go_quiet (fail)
  go_wp2_with fail
  go_ret
  exact ⟨_, _, ret_sub (Nat.add_sub_cancel_left n r.length), fun _ => rfl, fun h => absurd h HR.out.2, ⟨HV.out.1, HV.out.2.2, HR.out.1.ne⟩, ⟨HV.out.2.1.os, HV.out.2.1.tape, HV.out.2.1.output, HV.out.2.1.size, HV.out.2.1.block⟩⟩
theorem flat_part {α : Type} {cells : α → List Value} {X : List α} {k : Nat} {u : α} (h : X[k]? = some u) : X.flatMap cells = (X.take k).flatMap cells ++ (cells u ++ (X.drop (k + 1)).flatMap cells) := by
  obtain ⟨hk, rfl⟩ := List.getElem?_eq_some_iff.1 h
  have e : X = X.take k ++ X[k] :: X.drop (k + 1) := by rw [← List.drop_eq_getElem_cons hk, List.take_append_drop]
  have e := congrArg (fun Y : List α => Y.flatMap cells) e
  simp only [List.flatMap_append, List.flatMap_cons] at e
  exact e
theorem flat_change {α : Type} {cells : α → List Value} {X : List α} {k : Nat} {u u' : α} (h : X[k]? = some u) : (X.set k u').flatMap cells = (X.take k).flatMap cells ++ (cells u' ++ (X.drop (k + 1)).flatMap cells) := by
  obtain ⟨hk, rfl⟩ := List.getElem?_eq_some_iff.1 h
  rw [List.set_eq_take_append_cons_drop, if_pos hk]
  simp
theorem flat_sets {α : Type} {size : Nat} {cells : α → List Value} (hcl : ∀ x, (cells x).length = size) {X : List α} {k : Nat} {u : α} (h : X[k]? = some u) (c : List Value) (hc : c.length = size) (r : Nat) (v : Value) (hr : r < size) :
    ((X.take k).flatMap cells ++ (c ++ (X.drop (k + 1)).flatMap cells)).set (k * size + r) v = (X.take k).flatMap cells ++ (c.set r v ++ (X.drop (k + 1)).flatMap cells) := by
  have hk := (List.getElem?_eq_some_iff.1 h).1
  have hl : ((X.take k).flatMap cells).length = k * size := by rw [flat_size hcl, List.length_take, Nat.min_eq_left (by omega)]
  rw [List.set_append_right _ _ (by rw [hl]; omega), hl, Nat.add_sub_cancel_left, List.set_append_left _ _ (by rw [hc]; exact hr)]
theorem set_time {X : List Up} {k : Nat} {u : Up} (h : X[k]? = some u) (t : Tm) :
    (((X.flatMap Up.cells).set (k * 6 + 2) (.int .u64 (t.e : Int))).set (k * 6 + 3) (.int .u64 (t.a : Int))).set (k * 6 + 4) (.int .u64 (t.b : Int)) = (X.set k { u with t := t }).flatMap Up.cells := by
  rw [flat_change h, flat_part h, flat_sets (size := 6) (fun _ => rfl) h _ rfl 2 _ (by decide), flat_sets (size := 6) (fun _ => rfl) h _ rfl 3 _ (by decide), flat_sets (size := 6) (fun _ => rfl) h _ rfl 4 _ (by decide)]
  rfl
theorem set_rows {X : List Up} {k : Nat} {u : Up} (h : X[k]? = some u) (kA rA : Option Addr) (kc rc : Nat) :
    ((X.flatMap Up.cells).set (k * 6 + 0) (.slice kA u.key.length kc)).set (k * 6 + 1) (.slice rA u.row.length rc) = (X.set k { u with kA := kA, kc := kc, rA := rA, rc := rc }).flatMap Up.cells := by
  rw [flat_change h, flat_part h, flat_sets (size := 6) (fun _ => rfl) h _ rfl 0 _ (by decide), flat_sets (size := 6) (fun _ => rfl) h _ rfl 1 _ (by decide)]
  rfl
theorem part_next {α : Type} {g : α → α} {l : List α} {k : Nat} {u : α} (h : l[k]? = some u) : ((l.take k).map g ++ l.drop k)[k]? = some u ∧ ((l.take k).map g ++ l.drop k).set k (g u) = (l.take (k + 1)).map g ++ l.drop (k + 1) := by
  obtain ⟨hk, rfl⟩ := List.getElem?_eq_some_iff.1 h
  have hl : ((l.take k).map g).length = k := by rw [List.length_map, List.length_take, Nat.min_eq_left (by omega)]
  constructor
  · rw [List.getElem?_append_right (by omega), hl, Nat.sub_self, List.getElem?_drop, Nat.add_zero, List.getElem?_eq_getElem hk]
  · rw [List.set_append_right _ _ (by omega), hl, Nat.sub_self, List.drop_eq_getElem_cons hk, List.set_cons_zero, List.take_add_one, List.getElem?_eq_getElem hk, List.map_append, List.append_assoc]
    rfl
def wide : List Up → Nat
  | [] => 0
  | u :: l => (u.key.length + u.row.length) + wide l
theorem wide_snoc {l : List Up} {k : Nat} {u : Up} (h : l[k]? = some u) : wide (l.take (k + 1)) = wide (l.take k) + (u.key.length + u.row.length) := by
  induction l generalizing k with
  | nil => simp at h
  | cons x l ih =>
    cases k with
    | zero =>
      obtain rfl : x = u := by simpa using h
      simp [wide]
    | succ k =>
      rw [List.take_succ_cons, List.take_succ_cons]
      unfold wide
      rw [ih (by simpa using h)]
      omega
theorem wide_le : ∀ {l : List Up}, chkUs l = 0 → wide l ≤ l.length * 16
  | [], _ => Nat.zero_le _
  | u :: l, h => by
    have h1 := chkUs_all.1 h u (by simp)
    have h2 := wide_le (l := l) (chkUs_all.2 fun x hx => chkUs_all.1 h x (by simp [hx]))
    obtain ⟨a, b, _⟩ := chkK_zero h1
    have k1 := (chkRow_zero a).2
    have k2 := (chkRow_zero b).2
    have k1 : u.key.length ≤ 8 := k1
    have k2 : u.row.length ≤ 8 := k2
    unfold wide
    rw [List.length_cons]
    omega
theorem wide_take (l : List Up) (k : Nat) : wide (l.take k) ≤ wide l := by
  induction l generalizing k with
  | nil => simp
  | cons x l ih =>
    cases k with
    | zero => simp [wide]
    | succ k => rw [List.take_succ_cons]; unfold wide; have := ih k; omega
def RowOwn (w : World) (A : Option Addr) (l : List Up) : Prop := (l = [] → A = none) ∧ (0 < l.length → ∃ G, A = some ⟨G, 0, none⟩ ∧ Own w G 49 (l.flatMap Up.cells) ∧ ∀ u ∈ l, ∀ b o, (u.kA = some (⟨b, o, none⟩ : Addr) ∨ u.rA = some (⟨b, o, none⟩ : Addr)) → b ≠ G)
def CopyUps (l : List Up) (w : World) (x : Ending) (w' : World) : Prop :=
  ∃ A, ∃ outL : List Up, x = .returned (.slice A outL.length outL.length) ∧ outL.map Up.p = l.map Up.p ∧ Ups w' w'.heap.size A outL ∧ (∀ u ∈ outL, UOk u) ∧ Lo w.heap.size A outL ∧ Below w.heap.size w w' ∧ RowOwn w' A outL
set_option maxRecDepth 100000 in
set_option maxHeartbeats 12800000 in
theorem var_s1 {w0 w1 : World} (b1 : Below (w0.drew.alloc (.cells #[.slice none 0 0] 210)).heap.size (w0.drew.alloc (.cells #[.slice none 0 0] 210)) w1) : Own w1 w0.heap.size 210 [.slice none 0 0] := (Own.made w0.drew 210 [.slice none 0 0]).past b1 (by simp)
theorem var_s3 {w0 w1 : World} {o : Obj} (b1 : Below ((w0.drew.alloc (.cells #[.slice none 0 0] 210)).alloc o).heap.size ((w0.drew.alloc (.cells #[.slice none 0 0] 210)).alloc o) w1) : Own w1 w0.heap.size 210 [.slice none 0 0] := ((Own.made w0.drew 210 [.slice none 0 0]).more o).past b1 (by simp; omega)
theorem own_next {w : World} {N : Nat} {t : TypeId} {l : List Value} (hN : w.heap.size = N) : Own (w.alloc (.cells l.toArray t)) N t l := by subst hN; exact Own.made w t l
theorem var_s4 {w0 w1 : World} {o : Obj} (b1 : Below ((w0.drew.alloc o).alloc (.cells #[.slice none 0 0] 210)).heap.size ((w0.drew.alloc o).alloc (.cells #[.slice none 0 0] 210)) w1) : Own w1 (w0.heap.size + 1) 210 [.slice none 0 0] := (own_next (w := w0.drew.alloc o) (l := [.slice none 0 0]) (t := 210) (by simp)).past b1 (by simp)
theorem make_rows (n : Nat) (hn : n ≤ 4398046511104) : ∃ z : List Value, z.length = n * 3 ∧ ∀ W : World, (Instr.makeSlice 210 (.int .i64 0) (.int .i64 (n : Int))).run Tryz.prog W = .ok (.slice (some ⟨W.heap.size, 0, none⟩) 0 n) (W.alloc (.cells z.toArray 122)) := by
  obtain ⟨i0, hi, hz0, hz1, hz2⟩ := info_parts infoVl
  have hU := Tryz.underlying210
  refine ⟨(madeCells (Value.agg #[.bool false, .int .i64 0, .string ⟨#[]⟩]).cells (n * i0.size)).toList, ?_, fun W => by
    have hr := run_make (P := Tryz.prog) W _ _ i0 _ hU hi hz0 .i64 .i64 0 n (Int.le_refl _) (by omega) (by rw [hz2]; omega) (by omega)
    simp only [Int.toNat_zero, Int.toNat_natCast] at hr
    rw [Array.toArray_toList]
    exact hr⟩
  rw [Array.length_toList, size_madeCells, hz1]
structure Mk (w X : World) (l : List Up) (B1 : Option Addr) (P g n : Nat) : Prop where
  rows : Rws X P g 0 n w.heap.size []
  nil_ : l = [] → B1 = none
  list : 0 < l.length → ∃ G, B1 = some ⟨G, 0, none⟩ ∧ w.heap.size ≤ G ∧ G ≠ P ∧ G ≠ g ∧ Own X G 49 (l.flatMap Up.cells)
  p_ : w.heap.size ≤ P
  g_ : w.heap.size ≤ g
  below : Below w.heap.size w X
theorem mk_gen {w X : World} {l : List Up} {B1 : Option Addr} {P g G n : Nat} {Z : List Value} (hZ : Z.length = n * 3) (hn : n ≤ 4398046511104) (hP : Own X P 210 [.slice (some ⟨g, 0, none⟩) 0 n]) (hg : Own X g 122 Z) (hne : g ≠ P) (hPb : w.heap.size ≤ P) (hgb : w.heap.size ≤ g) (hGb : w.heap.size ≤ G) (hnil : l = [] → B1 = none)
    (hl : 0 < l.length → B1 = some ⟨G, 0, none⟩ ∧ G ≠ P ∧ G ≠ g ∧ Own X G 49 (l.flatMap Up.cells)) (hb : Below w.heap.size w X) : Mk w X l B1 P g n :=
  ⟨⟨hP, ⟨by simp, .inr ⟨g, n, Z.toArray, rfl, hgb, hg, Nat.zero_le _, by unfold maxLen; omega, by simpa using hZ, by simp⟩⟩, hne⟩, hnil, fun h => ⟨G, (hl h).1, hGb, (hl h).2⟩, hPb, hgb, hb⟩
section
variable {w w0 w1 : World} {l : List Up} {B1 : Option Addr} {n : Nat} {Z : List Value}
theorem mkF1 (hZ : Z.length = n * 3) (hn : n ≤ 4398046511104) (HB : Below w.heap.size w w0) (hb1 : Bl w0 w1) (b1 : Below w0.drew.heap.size w0.drew w1) (hnil : l = [] → B1 = none ∧ w1 = w0.drew) (hown : 0 < l.length → B1 = some ⟨w0.drew.heap.size, 0, none⟩ ∧ Own w1 w0.drew.heap.size 49 (l.flatMap Up.cells)) :
    Mk w ((w1.alloc (.cells Z.toArray 122)).alloc (.cells #[.slice (some ⟨w1.heap.size, 0, none⟩) 0 n] 210)) l B1 (w1.heap.size + 1) w1.heap.size n := by
  have s1 := HB.size
  have s2 : w0.heap.size ≤ w1.heap.size := hb1.below.size
  have s3 := b1.size
  simp at s3
  have hbm : Bm w.heap.size w w1 := HB.trans (hb1.below.mono HB.size)
  refine mk_gen (G := w0.heap.size) hZ hn (own_next (w := w1.alloc (.cells Z.toArray 122)) (l := [.slice (some ⟨w1.heap.size, 0, none⟩) 0 n]) (by simp)) ((Own.made w1 _ Z).more _) (by omega) (by omega) (by omega) (by omega) (fun h => (hnil h).1) (fun h => ?_) ?_
  · have k : Own w1 w0.heap.size 49 (l.flatMap Up.cells) := by simpa using (hown h).2
    have hin := k.inside
    exact ⟨by simpa using (hown h).1, by omega, by omega, ((k.more _).more _)⟩
  · show Bm w.heap.size w _
    repeat (first | exact hbm | refine Bm.set ?_ (by omega) _ _ | refine Bm.more ?_ (Nat.le_refl _) _ | refine Bm.drew ?_)
theorem mkF2 (hZ : Z.length = n * 3) (hn : n ≤ 4398046511104) (HB : Below w.heap.size w w0) (hb1 : Bl w0 w1) (b1 : Below w0.drew.heap.size w0.drew w1) (hnil : l = [] → B1 = none ∧ w1 = w0.drew) (hown : 0 < l.length → B1 = some ⟨w0.drew.heap.size, 0, none⟩ ∧ Own w1 w0.drew.heap.size 49 (l.flatMap Up.cells)) :
    Mk w ((w1.alloc (.cells #[.slice (some ⟨w1.heap.size + 1, 0, none⟩) 0 n] 210)).alloc (.cells Z.toArray 122)) l B1 w1.heap.size (w1.heap.size + 1) n := by
  have s1 := HB.size
  have s2 : w0.heap.size ≤ w1.heap.size := hb1.below.size
  have s3 := b1.size
  simp at s3
  have hbm : Bm w.heap.size w w1 := HB.trans (hb1.below.mono HB.size)
  refine mk_gen (G := w0.heap.size) hZ hn ((Own.made w1 _ [.slice (some ⟨w1.heap.size + 1, 0, none⟩) 0 n]).more _) (own_next (w := w1.alloc (.cells #[.slice (some ⟨w1.heap.size + 1, 0, none⟩) 0 n] 210)) (l := Z) (by simp)) (by omega) (by omega) (by omega) (by omega) (fun h => (hnil h).1) (fun h => ?_) ?_
  · have k : Own w1 w0.heap.size 49 (l.flatMap Up.cells) := by simpa using (hown h).2
    have hin := k.inside
    exact ⟨by simpa using (hown h).1, by omega, by omega, ((k.more _).more _)⟩
  · show Bm w.heap.size w _
    repeat (first | exact hbm | refine Bm.set ?_ (by omega) _ _ | refine Bm.more ?_ (Nat.le_refl _) _ | refine Bm.drew ?_)
theorem mkF3 (hZ : Z.length = n * 3) (hn : n ≤ 4398046511104) (HB : Below w.heap.size w w0) (hb1 : Bl w0 w1) (b1 : Below (w0.alloc (.cells Z.toArray 122)).drew.heap.size (w0.alloc (.cells Z.toArray 122)).drew w1) (hnil : l = [] → B1 = none ∧ w1 = (w0.alloc (.cells Z.toArray 122)).drew) (hown : 0 < l.length → B1 = some ⟨(w0.alloc (.cells Z.toArray 122)).drew.heap.size, 0, none⟩ ∧ Own w1 (w0.alloc (.cells Z.toArray 122)).drew.heap.size 49 (l.flatMap Up.cells)) :
    Mk w (w1.alloc (.cells #[.slice (some ⟨w0.heap.size, 0, none⟩) 0 n] 210)) l B1 w1.heap.size w0.heap.size n := by
  have s1 := HB.size
  have s2 : w0.heap.size ≤ w1.heap.size := hb1.below.size
  have s3 := b1.size
  simp at s3
  have hbm : Bm w.heap.size w w1 := HB.trans (hb1.below.mono HB.size)
  refine mk_gen (G := (w0.heap.size + 1)) hZ hn (Own.made w1 _ [.slice (some ⟨w0.heap.size, 0, none⟩) 0 n]) (((own_drew' (Own.made w0 _ Z)).past b1 (by simp)).more _) (by omega) (by omega) (by omega) (by omega) (fun h => (hnil h).1) (fun h => ?_) ?_
  · have k : Own w1 (w0.heap.size + 1) 49 (l.flatMap Up.cells) := by simpa using (hown h).2
    have hin := k.inside
    exact ⟨by simpa using (hown h).1, by omega, by omega, (k.more _)⟩
  · show Bm w.heap.size w _
    repeat (first | exact hbm | refine Bm.set ?_ (by omega) _ _ | refine Bm.more ?_ (Nat.le_refl _) _ | refine Bm.drew ?_)
theorem mkF4 (hZ : Z.length = n * 3) (hn : n ≤ 4398046511104) (HB : Below w.heap.size w w0) (hb1 : Bl w0 w1) (b1 : Below ((w0.alloc (.cells Z.toArray 122)).alloc (.cells #[.slice none 0 0] 210)).drew.heap.size ((w0.alloc (.cells Z.toArray 122)).alloc (.cells #[.slice none 0 0] 210)).drew w1) (hnil : l = [] → B1 = none ∧ w1 = ((w0.alloc (.cells Z.toArray 122)).alloc (.cells #[.slice none 0 0] 210)).drew) (hown : 0 < l.length → B1 = some ⟨((w0.alloc (.cells Z.toArray 122)).alloc (.cells #[.slice none 0 0] 210)).drew.heap.size, 0, none⟩ ∧ Own w1 ((w0.alloc (.cells Z.toArray 122)).alloc (.cells #[.slice none 0 0] 210)).drew.heap.size 49 (l.flatMap Up.cells)) :
    Mk w (w1.setCell ⟨w0.heap.size + 1, 0, none⟩ (.slice (some ⟨w0.heap.size, 0, none⟩) 0 n)) l B1 (w0.heap.size + 1) w0.heap.size n := by
  have s1 := HB.size
  have s2 : w0.heap.size ≤ w1.heap.size := hb1.below.size
  have s3 := b1.size
  simp at s3
  have hbm : Bm w.heap.size w w1 := HB.trans (hb1.below.mono HB.size)
  refine mk_gen (G := (w0.heap.size + 2)) hZ hn (((own_drew' (own_next (w := w0.alloc (.cells Z.toArray 122)) (l := [.slice none 0 0]) (t := 210) (N := w0.heap.size + 1) (by simp))).past b1 (by simp)).set_ 0 _) (((own_drew' ((Own.made w0 _ Z).more _)).past b1 (by simp; omega)).other (p := ⟨w0.heap.size + 1, 0, none⟩) (by simp) _) (by omega) (by omega) (by omega) (by omega) (fun h => (hnil h).1) (fun h => ?_) ?_
  · have k : Own w1 (w0.heap.size + 2) 49 (l.flatMap Up.cells) := by simpa using (hown h).2
    have hin := k.inside
    exact ⟨by simpa using (hown h).1, by omega, by omega, (k.other (p := ⟨w0.heap.size + 1, 0, none⟩) (by simp) _)⟩
  · show Bm w.heap.size w _
    repeat (first | exact hbm | refine Bm.set ?_ (by omega) _ _ | refine Bm.more ?_ (Nat.le_refl _) _ | refine Bm.drew ?_)
theorem mkF5 (hZ : Z.length = n * 3) (hn : n ≤ 4398046511104) (HB : Below w.heap.size w w0) (hb1 : Bl w0 w1) (b1 : Below (w0.alloc (.cells #[.slice none 0 0] 210)).drew.heap.size (w0.alloc (.cells #[.slice none 0 0] 210)).drew w1) (hnil : l = [] → B1 = none ∧ w1 = (w0.alloc (.cells #[.slice none 0 0] 210)).drew) (hown : 0 < l.length → B1 = some ⟨(w0.alloc (.cells #[.slice none 0 0] 210)).drew.heap.size, 0, none⟩ ∧ Own w1 (w0.alloc (.cells #[.slice none 0 0] 210)).drew.heap.size 49 (l.flatMap Up.cells)) :
    Mk w ((w1.alloc (.cells Z.toArray 122)).setCell ⟨w0.heap.size, 0, none⟩ (.slice (some ⟨w1.heap.size, 0, none⟩) 0 n)) l B1 w0.heap.size w1.heap.size n := by
  have s1 := HB.size
  have s2 : w0.heap.size ≤ w1.heap.size := hb1.below.size
  have s3 := b1.size
  simp at s3
  have hbm : Bm w.heap.size w w1 := HB.trans (hb1.below.mono HB.size)
  refine mk_gen (G := (w0.heap.size + 1)) hZ hn ((((own_drew' (Own.made w0 _ [.slice none 0 0])).past b1 (by simp)).more _).set_ 0 _) ((Own.made w1 _ Z).other (p := ⟨w0.heap.size, 0, none⟩) (by simp; omega) _) (by omega) (by omega) (by omega) (by omega) (fun h => (hnil h).1) (fun h => ?_) ?_
  · have k : Own w1 (w0.heap.size + 1) 49 (l.flatMap Up.cells) := by simpa using (hown h).2
    have hin := k.inside
    exact ⟨by simpa using (hown h).1, by omega, by omega, ((k.more _).other (p := ⟨w0.heap.size, 0, none⟩) (by simp) _)⟩
  · show Bm w.heap.size w _
    repeat (first | exact hbm | refine Bm.set ?_ (by omega) _ _ | refine Bm.more ?_ (Nat.le_refl _) _ | refine Bm.drew ?_)
theorem mkF6 (hZ : Z.length = n * 3) (hn : n ≤ 4398046511104) (HB : Below w.heap.size w w0) (hb1 : Bl w0 w1) (b1 : Below ((w0.alloc (.cells #[.slice none 0 0] 210)).alloc (.cells Z.toArray 122)).drew.heap.size ((w0.alloc (.cells #[.slice none 0 0] 210)).alloc (.cells Z.toArray 122)).drew w1) (hnil : l = [] → B1 = none ∧ w1 = ((w0.alloc (.cells #[.slice none 0 0] 210)).alloc (.cells Z.toArray 122)).drew) (hown : 0 < l.length → B1 = some ⟨((w0.alloc (.cells #[.slice none 0 0] 210)).alloc (.cells Z.toArray 122)).drew.heap.size, 0, none⟩ ∧ Own w1 ((w0.alloc (.cells #[.slice none 0 0] 210)).alloc (.cells Z.toArray 122)).drew.heap.size 49 (l.flatMap Up.cells)) :
    Mk w (w1.setCell ⟨w0.heap.size, 0, none⟩ (.slice (some ⟨w0.heap.size + 1, 0, none⟩) 0 n)) l B1 w0.heap.size (w0.heap.size + 1) n := by
  have s1 := HB.size
  have s2 : w0.heap.size ≤ w1.heap.size := hb1.below.size
  have s3 := b1.size
  simp at s3
  have hbm : Bm w.heap.size w w1 := HB.trans (hb1.below.mono HB.size)
  refine mk_gen (G := (w0.heap.size + 2)) hZ hn (((own_drew' ((Own.made w0 _ [.slice none 0 0]).more _)).past b1 (by simp; omega)).set_ 0 _) (((own_drew' (own_next (w := w0.alloc (.cells #[.slice none 0 0] 210)) (l := Z) (t := 122) (N := w0.heap.size + 1) (by simp))).past b1 (by simp)).other (p := ⟨w0.heap.size, 0, none⟩) (by simp) _) (by omega) (by omega) (by omega) (by omega) (fun h => (hnil h).1) (fun h => ?_) ?_
  · have k : Own w1 (w0.heap.size + 2) 49 (l.flatMap Up.cells) := by simpa using (hown h).2
    have hin := k.inside
    exact ⟨by simpa using (hown h).1, by omega, by omega, (k.other (p := ⟨w0.heap.size, 0, none⟩) (by simp) _)⟩
  · show Bm w.heap.size w _
    repeat (first | exact hbm | refine Bm.set ?_ (by omega) _ _ | refine Bm.more ?_ (Nat.le_refl _) _ | refine Bm.drew ?_)
end
structure InBlock (xs : List Value) (g : Nat) (A : Option Addr) (r : List Vl) : Prop where
  at_ : 0 < r.length → ∃ i, A = some ⟨g, i * 3, none⟩ ∧ ∀ j v, r[j]? = some v → ∀ q u, v.cells[q]? = some u → xs[i * 3 + j * 3 + q]? = some u
  far : ∀ b o, A = some (⟨b, o, none⟩ : Addr) → b = g
theorem InBlock.more {xs : List Value} {g : Nat} {A : Option Addr} {r : List Vl} (h : InBlock xs g A r) (ys : List Value) : InBlock (xs ++ ys) g A r :=
  ⟨fun hp => by
    obtain ⟨i, e, hc⟩ := h.at_ hp
    exact ⟨i, e, fun j v hj q u hq => by
      have := hc j v hj q u hq
      rw [List.getElem?_append_left (List.getElem?_eq_some_iff.1 this).1]
      exact this⟩, h.far⟩
theorem inblock_new {xs : List Value} {n g : Nat} {A : Option Addr} {r : List Vl} (hx : xs.length = n * 3) (h1 : 0 < r.length → A = some ⟨g, n * 3, none⟩) (h2 : r = [] → A = none) : InBlock (xs ++ r.flatMap Vl.cells) g A r :=
  ⟨fun hp => ⟨n, h1 hp, fun j v hj q u hq => by
    rw [List.getElem?_append_right (by omega), hx, show n * 3 + j * 3 + q - n * 3 = j * 3 + q by omega]
    exact flat_of (size := 3) (cells := Vl.cells) (fun _ => rfl) r j q v u hj hq⟩, fun b o e => by
    by_cases hp : 0 < r.length
    · rw [h1 hp] at e
      simp only [Option.some.injEq, Addr.mk.injEq, and_true] at e
      exact e.1.symm
    · rw [h2 (List.eq_nil_of_length_eq_zero (by omega))] at e
      cases e⟩
theorem InBlock.vals {xs : List Value} {g n cap base : Nat} {A : Option Addr} {r : List Vl} {w : World} (h : InBlock xs g A r) (hr : w.ownsRow base 122 3 (.slice (some ⟨g, 0, none⟩) n cap) n xs) : Vals w w.heap.size A r := fun hp => by
  obtain ⟨i, rfl, hc⟩ := h.at_ hp
  have hin : g < w.heap.size := (hr.lt g rfl).2
  have hk : ∀ (j : Nat) (v : Vl) (q : Nat) (u : Value), r[j]? = some v → v.cells[q]? = some u → w.cell? ⟨g, i * 3 + j * 3 + q, none⟩ = some u := fun j v q u hj hq => by
    have h1 := hc j v hj q u hq
    have hlt : i * 3 + j * 3 + q < n * 3 := by have := (List.getElem?_eq_some_iff.1 h1).1; rw [hr.1] at this; exact this
    rw [hr.cellAt _ hlt]
    exact h1
  exact ⟨g, i * 3, rfl, hin, fun j v hj => ⟨hk j v 0 _ hj rfl, hk j v 1 _ hj rfl, hk j v 2 _ hj rfl⟩⟩
def rowsOf (l : List Up) : List Value := l.flatMap fun u => u.key.flatMap Vl.cells ++ u.row.flatMap Vl.cells
theorem rowsOf_snoc {l : List Up} {k : Nat} {u : Up} (h : l[k]? = some u) : rowsOf (l.take (k + 1)) = rowsOf (l.take k) ++ u.key.flatMap Vl.cells ++ u.row.flatMap Vl.cells := by
  unfold rowsOf
  rw [List.take_add_one, h, List.flatMap_append]
  simp
structure Cpd (w wr : World) (l : List Up) (P g n G k : Nat) (done : List Up) : Prop where
  len : done.length = k
  p_ : done.map Up.p = (l.take k).map Up.p
  own : Own wr G 49 ((done ++ l.drop k).flatMap Up.cells)
  rows : Rws wr P g (wide (l.take k)) n w.heap.size (rowsOf (l.take k))
  in_ : ∀ u ∈ done, InBlock (rowsOf (l.take k)) g u.kA u.key ∧ InBlock (rowsOf (l.take k)) g u.rA u.row
  below : Below w.heap.size w wr
theorem Rws.drew {w : World} {P g n cap base : Nat} {xs : List Value} (h : Rws w P g n cap base xs) : Rws w.drew P g n cap base xs := ⟨h.var, h.row, h.ne⟩
theorem Rws.past {w w' : World} {P g n cap base : Nat} {xs : List Value} (h : Rws w P g n cap base xs) (hb : Below w.heap.size w w') : Rws w' P g n cap base xs := ⟨h.var.past hb h.var.inside, own_below h.row hb, h.ne⟩
theorem Fr.own {w w' : World} {P g k : Nat} {t : TypeId} {l : List Value} (h : Fr w w' P g) (ho : Own w k t l) (hP : k ≠ P) (hg : k ≠ g) : Own w' k t l := (h.block k ho.inside hP hg).trans ho
theorem done_at {l done : List Up} {k : Nat} {u u' : Up} (hl : done.length = k) (h : l[k]? = some u) : (done ++ l.drop k)[k]? = some u ∧ (done ++ l.drop k).set k u' = done ++ [u'] ++ l.drop (k + 1) := by
  obtain ⟨hk, rfl⟩ := List.getElem?_eq_some_iff.1 h
  constructor
  · rw [List.getElem?_append_right (by omega), hl, Nat.sub_self, List.getElem?_drop, Nat.add_zero, List.getElem?_eq_getElem hk]
  · rw [List.set_append_right _ _ (by omega), hl, Nat.sub_self, List.drop_eq_getElem_cons hk, List.set_cons_zero]
    simp
theorem copy_p {l done : List Up} {k : Nat} {u : Up} {kA' rA' : Option Addr} {kc' rc' : Nat} (h : l[k]? = some u) (hd : done.map Up.p = (l.take k).map Up.p) : (done ++ [{ u with kA := kA', kc := kc', rA := rA', rc := rc' }]).map Up.p = (l.take (k + 1)).map Up.p := by
  rw [List.take_add_one, h, List.map_append, List.map_append, hd]
  rfl
theorem uok_p {x y : Up} (h : x.p = y.p) (hx : UOk x) : UOk y := by
  obtain ⟨a, b, _, d⟩ := up_p h
  exact ⟨a ▸ hx.kn, b ▸ hx.rn, a ▸ hx.ks, b ▸ hx.rs, d ▸ hx.dn⟩
set_option maxRecDepth 100000 in
set_option maxHeartbeats 12800000 in
theorem copyUps_any (A : Option Addr) (c : Nat) (l : List Up) (w : World) (hl : Ups w w.heap.size A l) (hok : UsOk l) (h8 : chkUs l = 0) (hn : l.length ≤ 274877906944) :
    Calls Tryz.prog 97 #[.slice A l.length c] w (CopyUps l w) := by
  have hwd := wide_le h8
  have HL := Lib.hid (And.intro hl (And.intro hok h8))
  clear hl hok h8
  go_enter Tryz.func97, Tryz.ntmps97
  go_wp2_with fail
  go_loopw [3, 12] (fun v3 v12 wr => ∃ k : Nat, v12 = .int .i64 (k : Int) ∧ v3 = .int .i64 ((wide (l.take k) : Nat) : Int) ∧ k ≤ l.length ∧ Below w.heap.size w wr) (fun _ v12 _ => l.length - (intOf v12).toNat)
  case atStart => exact ⟨0, rfl, rfl, by omega, Below.refl _ _⟩
  case round =>
    obtain ⟨k, rfl, rfl, hk, hb⟩ := hrel
    by_cases hlt : k < l.length
    · have hx : l[k]? = some l[k] := List.getElem?_eq_getElem hlt
      generalize l[k] = u at *
      obtain ⟨b, o, rfl, hB, hys⟩ := lies_up HL.out.1.head (by omega)
      obtain ⟨e0, e1, e2, e3, e4, e5⟩ := ((hys k u hx).past_ hb hB).six
      have hsn := wide_snoc hx
      have hle := wide_take l (k + 1)
      generalize wide (l.take k) = m at *
      have q0 : (0 : Int) ≤ (k : Int) := by omega
      have q1 : (k : Int) < (l.length : Int) := by omega
      have q2 : m + (u.key.length + u.row.length) ≤ 4398046511104 := by omega
      have HH := Lib.hid (And.intro hb hsn)
      clear hb hx hys hsn hle
      go_wp2_with fail
      go_roundw
      case rel => exact ⟨k + 1, by go_num, by rw [HH.out.2]; go_num, by omega, HH.out.1.alloc HH.out.1.size _⟩
      case measure => simp [intOf]; omega
    · have hk2 : k = l.length := by omega
      subst hk2
      rw [List.take_length]
      generalize hW : wide l = n at *
      have HB := Lib.hid hb
      have HW := Lib.hid hW
      obtain ⟨w0, hw0⟩ : ∃ w0, w0 = wr := ⟨_, rfl⟩
      subst hw0
      clear hb hW
      obtain ⟨Z, hZ, hmk⟩ := make_rows n (by omega)
      have y1 := fun W (h : Bl w0 W) => Lib.hid (listU_any A c l W (((HL.out.1.head.past HB.out (Nat.le_refl _)).wide HB.out.size).past h (Nat.le_refl _) |>.wide h.size) (by omega))
      have hself := Bl.refl w0
      go_wp2_with fail
      go_cut [6, 7] (fun s6 s7 wx => ∃ (B1 : Option Addr) (P g : Nat), s6 = .slice B1 l.length l.length ∧ s7 = .pointer (some ⟨P, 0, none⟩) ∧ Mk w wx l B1 P g n)
      case first =>
        go_region_with (go_at_call 143; refine (y1 _ (by repeat (first | with_reducible exact hself | with_reducible refine Bl.more ?_ _ | with_reducible refine Bl.drew ?_))).out.mono ?_; rintro _ w1 ⟨B1, rfl, hnil, hown, b1⟩; have hbl : Bl w0 w1 := Bl.call (by repeat (first | with_reducible exact hself | with_reducible refine Bl.more ?_ _ | with_reducible refine Bl.drew ?_)) b1; (first | have hv := var_s4 b1 | have hv := var_s3 b1 | have hv := var_s1 b1 | skip); (try have hv0 := hv.at_ 0); (try have hv1 := hv.open_ 0); (try simp only [List.getElem?_cons_zero] at hv0); (try have hv2 := fun o => (hv.more o).at_ 0); (try have hv3 := fun o => (hv.more o).open_ 0); (try simp only [List.getElem?_cons_zero] at hv2))
        all_goals
          go_wp2_with fail
          go_meet
        · exact ⟨_, _, _, rfl, rfl, mkF1 hZ (by omega) HB.out hbl b1 hnil hown⟩
        · exact ⟨_, _, _, rfl, rfl, mkF2 hZ (by omega) HB.out hbl b1 hnil hown⟩
        · exact ⟨_, _, _, rfl, rfl, mkF3 hZ (by omega) HB.out hbl b1 hnil hown⟩
        · exact ⟨_, _, _, rfl, rfl, mkF4 hZ (by omega) HB.out hbl b1 hnil hown⟩
        · exact ⟨_, _, _, rfl, rfl, mkF5 hZ (by omega) HB.out hbl b1 hnil hown⟩
        · exact ⟨_, _, _, rfl, rfl, mkF6 hZ (by omega) HB.out hbl b1 hnil hown⟩
      case rest =>
        obtain ⟨B1, P, g, rfl, rfl, hm⟩ := hcut
        by_cases h0 : l = []
        · subst h0
          have hB1 := hm.nil_ rfl
          subst hB1
          have HM := Lib.hid hm.below
          clear hm y1 hmk hself
          go_wp2_with fail
          go_loopw [32] (fun v32 wr => v32 = .int .i64 0 ∧ Below w.heap.size w wr) (fun v32 _ => 0)
          case atStart => exact ⟨rfl, HM.out⟩
          case round =>
            obtain ⟨rfl, hb⟩ := hrel
            have HX := Lib.hid hb
            clear hb
            go_wp2_with fail
            go_ret
            exact ⟨none, [], rfl, rfl, ⟨Lies.nil_, fun u hu => by cases hu⟩, fun u hu => (by cases hu), lo_nil _, HX.out, fun _ => rfl, fun h => absurd h (by simp)⟩
        · have hpos : 0 < l.length := List.length_pos_iff.2 h0
          obtain ⟨G, rfl, hGb, hGP, hGg, hG⟩ := hm.list hpos
          have hst : Cpd w wc l P g n G 0 [] := ⟨rfl, rfl, by simpa using hG, by simpa [wide, rowsOf] using hm.rows, fun u hu => (by cases hu), hm.below⟩
          have HM := Lib.hid (And.intro hm.p_ (And.intro hm.g_ (And.intro hGb (And.intro hGP (And.intro hGg (And.intro hst hpos))))))
          clear hm y1 hmk hself hG hGb hGP hGg hst h0
          go_wp2_with fail
          go_loopw [32] (fun v32 wr => ∃ (k : Nat) (done : List Up), v32 = .int .i64 (k : Int) ∧ k ≤ l.length ∧ Cpd w wr l P g n G k done) (fun v32 _ => l.length - (intOf v32).toNat)
          case atStart => exact ⟨0, [], rfl, by omega, HM.out.2.2.2.2.2.1⟩
          case round =>
            obtain ⟨k, done, rfl, hk, hc⟩ := hrel
            by_cases hlt : k < l.length
            · have hx : l[k]? = some l[k] := List.getElem?_eq_getElem hlt
              have hum := List.mem_of_getElem? hx
              generalize l[k] = u at *
              obtain ⟨hx1, _⟩ := done_at (u' := u) hc.len hx
              have hcl := fun r v (hr : u.cells[r]? = some v) => (show wr.cell? ⟨G, k * 6 + r, none⟩ = some v by rw [hc.own.at_]; exact flat_of (size := 6) (cells := Up.cells) (fun _ => rfl) _ k r u v hx1 hr)
              have c0 := hcl 0 _ rfl
              have c1 := hcl 1 _ rfl
              have c2 := hcl 2 _ rfl
              have c3 := hcl 3 _ rfl
              have c4 := hcl 4 _ rfl
              have c5 := hcl 5 _ rfl
              rw [Nat.add_zero] at c0
              obtain ⟨V, hV, hvb, hvs, hvo⟩ := upbox wr u
              have hbV := hc.below.trans (hvb.mono hc.below.size)
              have hoV := hc.own.past hvb hc.own.inside
              have hrV := hc.rows.past hvb
              have hsn := wide_snoc hx
              have hle := wide_take l (k + 1)
              have hrs := rowsOf_snoc hx
              have hPin := hc.rows.var.inside
              have hgin := (hc.rows.row.lt g rfl).2
              have hGin := hc.own.inside
              have hin := fun (W : World) (h : Below w.heap.size w W) => ((HL.out.1.each_ u hum).past h (Nat.le_refl _)).wide h.size
              rw [HW.out] at hle
              obtain ⟨m, hm⟩ : ∃ m, wide (l.take k) = m := ⟨_, rfl⟩
              obtain ⟨xs, hxs⟩ : ∃ xs, rowsOf (l.take k) = xs := ⟨_, rfl⟩
              rw [hm, hxs] at hrV
              rw [hm] at hsn
              rw [hxs] at hrs
              have hnn : n ≤ 140737488351232 := by omega
              have y1 := fun W (h1 : Rws W P g m n w.heap.size xs) (h2 : Below w.heap.size w W) => Lib.hid (rowcopy_any P g m n w.heap.size xs u.kA u.kc u.key W h1 (hin W h2).key (by omega) hnn)
              have y2 := fun W (h1 : Rws W P g (m + u.key.length) n w.heap.size (xs ++ u.key.flatMap Vl.cells)) (h2 : Below w.heap.size w W) => Lib.hid (rowcopy_any P g (m + u.key.length) n w.heap.size (xs ++ u.key.flatMap Vl.cells) u.rA u.rc u.row W h1 (hin W h2).row (by omega) hnn)
              have HC := Lib.hid (And.intro hc (And.intro hbV (And.intro hoV (And.intro hrV (And.intro hvo (And.intro hvs (And.intro hx1 (And.intro hx (And.intro hm (And.intro hxs (And.intro hsn hrs)))))))))))
              have HI := Lib.hid (And.intro hPin (And.intro hgin hGin))
              obtain ⟨d0, d1, d2, d3, d4, d5⟩ := own6 hvo
              have q0 : (0 : Int) ≤ (k : Int) := by omega
              have q1 : (k : Int) < (l.length : Int) := by omega
              clear hx hum hx1 hcl hc hvb hvs hvo hbV hoV hrV hsn hle hrs hPin hgin hGin hin hm hxs hnn
              go_upto_region 11 with fail
              rw [← hV]
              clear hV c0 c1 c2 c3 c4 c5
              have HP1 := Lib.hid (show wr.heap.size ≠ P ∧ wr.heap.size ≠ g ∧ wr.heap.size ≠ G from by have := HI.out; omega)
              have HBd := Lib.hid (show w.heap.size ≤ V.drew.heap.size from HC.out.2.1.size)
              go_region_held3 (fun w' => w'.cell? ⟨wr.heap.size, 0, none⟩ = some (.slice u.kA u.key.length u.kc) ∧ w'.cell? ⟨wr.heap.size, 1, none⟩ = some (.slice u.rA u.row.length u.rc))
                ((first | exact ⟨d0, d1⟩ | exact ⟨e10, e11⟩ | exact ⟨e20, e21⟩ | exact ⟨e30 _, e31 _⟩ | exact ⟨e40 _ _, e41 _ _⟩))
                (first | (go_at_call 144; have hq := hr1; refine (y2 _ hr1 hb1).out.mono ?_; rintro _ w2 ⟨A2, k2, rfl, hA2, hN2, hr2, f2⟩; have hb2 := hb1.trans (f2.below HM.out.1 HM.out.2.1 hb1.size); have ho2 := f2.own ho1 HM.out.2.2.2.1 HM.out.2.2.2.2.1; have hv2 := f2.own hv1 HP1.out.1 HP1.out.2.1; have e20 := hv2.at_ 0; have e21 := hv2.at_ 1; have e30 := fun x => (hv2.other (p := ⟨G, k * 6, none⟩) (Ne.symm HP1.out.2.2) x).at_ 0; have e31 := fun x => (hv2.other (p := ⟨G, k * 6, none⟩) (Ne.symm HP1.out.2.2) x).at_ 1; have e40 := fun x y => ((hv2.other (p := ⟨G, k * 6, none⟩) (Ne.symm HP1.out.2.2) x).other (p := ⟨G, k * 6 + 1, none⟩) (Ne.symm HP1.out.2.2) y).at_ 0; have e41 := fun x y => ((hv2.other (p := ⟨G, k * 6, none⟩) (Ne.symm HP1.out.2.2) x).other (p := ⟨G, k * 6 + 1, none⟩) (Ne.symm HP1.out.2.2) y).at_ 1; have g0 := (ho2.at_ (k * 6 + 0)).trans (flat_of (size := 6) (cells := Up.cells) (fun _ => rfl) _ k 0 u _ HC.out.2.2.2.2.2.2.1 rfl); have g1 := fun x => ((ho2.set_ (k * 6) x).at_ (k * 6 + 1)).trans ((List.getElem?_set_ne (by omega)).trans (flat_of (size := 6) (cells := Up.cells) (fun _ => rfl) _ k 1 u _ HC.out.2.2.2.2.2.2.1 rfl)); have z0 := ho2.open_ (k * 6); have z1 := fun x => (ho2.set_ (k * 6) x).open_ (k * 6 + 1); rw [Nat.add_zero] at g0) | (go_at_call 144; refine (y1 _ HC.out.2.2.2.1.drew (Below.drew HC.out.2.1)).out.mono ?_; rintro _ w1 ⟨A1, k1, rfl, hA1, hN1, hr1, f1⟩; have hb1 := (Below.drew HC.out.2.1).trans (f1.below HM.out.1 HM.out.2.1 HBd.out); have ho1 := f1.own (own_drew' HC.out.2.2.1) HM.out.2.2.2.1 HM.out.2.2.2.2.1; have hv1 := f1.own (own_drew' HC.out.2.2.2.2.1) HP1.out.1 HP1.out.2.1; have e10 := hv1.at_ 0; have e11 := hv1.at_ 1))
              have X2 := (ho2.set_ (k * 6 + 0) (.slice A1 u.key.length k1)).set_ (k * 6 + 1) (.slice A2 u.row.length k2)
              rw [set_rows HC.out.2.2.2.2.2.2.1 A1 A2 k1 k2, (done_at (u' := { u with kA := A1, kc := k1, rA := A2, rc := k2 }) HC.out.1.len HC.out.2.2.2.2.2.2.2.1).2, Nat.add_zero] at X2
              have hbf := (hb2.setCell (p := ⟨G, k * 6, none⟩) HM.out.2.2.1 (.slice A1 u.key.length k1)).setCell (p := ⟨G, k * 6 + 1, none⟩) HM.out.2.2.1 (.slice A2 u.row.length k2)
              have hvr := ((hr2.var.other (p := ⟨G, k * 6, none⟩) HM.out.2.2.2.1 (.slice A1 u.key.length k1)).other (p := ⟨G, k * 6 + 1, none⟩) HM.out.2.2.2.1 (.slice A2 u.row.length k2))
              have hrw := World.ownsRow.kept (row := some G) (w' := (w2.setCell ⟨G, k * 6, none⟩ (.slice A1 u.key.length k1)).setCell ⟨G, k * 6 + 1, none⟩ (.slice A2 u.row.length k2)) hr2.row ⟨rfl, rfl, rfl, by simp [World.setCell], fun i _ hne => (Below.heap_setCell _ ⟨G, k * 6 + 1, none⟩ _ i (by simpa using hne)).trans (Below.heap_setCell w2 ⟨G, k * 6, none⟩ _ i (by simpa using hne))⟩ (.inr fun h => HM.out.2.2.2.2.1 (by simpa [Value.ownBlock, eq_comm] using h))
              have HF := Lib.hid (And.intro X2 (And.intro hbf (And.intro hvr (And.intro hrw (And.intro hr2.ne (And.intro (And.intro hA1 hN1) (And.intro hA2 hN2)))))))
              have hR1 := Lib.hid hr1.row.1
              have hR0 := Lib.hid HC.out.2.2.2.1.row.1
              clear hq hA1 hN1 hA2 hN2 hr1 hr2 f1 f2 hb1 hb2 ho1 ho2 hv1 hv2 e10 e11 e20 e21 e30 e31 e40 e41 g0 g1 z0 z1 X2 hbf hvr hrw d0 d1 d2 d3 d4 d5 y1 y2
              go_wp2_with fail
              go_roundw
              case rel =>
                refine ⟨k + 1, done ++ [{ u with kA := A1, kc := k1, rA := A2, rc := k2 }], by go_num, by omega, ⟨by rw [List.length_append, HC.out.1.len]; rfl, copy_p HC.out.2.2.2.2.2.2.2.1 HC.out.1.p_, HF.out.1, ?_, fun x hx => ?_, HF.out.2.1⟩⟩
                · have h1 := HF.out.2.2.2.1
                  have h2 := HC.out.2.2.2.2.2.2.2.2.2.2.1
                  have h3 := HC.out.2.2.2.2.2.2.2.2.2.2.2
                  rw [h3, h2, ← Nat.add_assoc]
                  exact ⟨HF.out.2.2.1, h1, HF.out.2.2.2.2.1⟩
                · have h3 := HC.out.2.2.2.2.2.2.2.2.2.2.2
                  rw [h3]
                  rcases List.mem_append.1 hx with hx | hx
                  · have := HC.out.1.in_ x hx
                    rw [HC.out.2.2.2.2.2.2.2.2.2.1] at this
                    exact ⟨(this.1.more _).more _, (this.2.more _).more _⟩
                  · obtain rfl : x = { u with kA := A1, kc := k1, rA := A2, rc := k2 } := by simpa using hx
                    exact ⟨(inblock_new hR0.out HF.out.2.2.2.2.2.1.1 HF.out.2.2.2.2.2.1.2).more _, inblock_new hR1.out HF.out.2.2.2.2.2.2.1 HF.out.2.2.2.2.2.2.2⟩
              case measure => simp [intOf]; omega
            · have hk2 : k = l.length := by omega
              subst hk2
              have HC := Lib.hid hc
              clear hc
              go_wp2_with fail
              go_ret
              have hp := HC.out.p_
              have ho := HC.out.own
              rw [List.take_length] at hp
              rw [List.drop_length, List.append_nil] at ho
              refine ⟨some ⟨G, 0, none⟩, done, by rw [HC.out.len]; rfl, hp, ups_own ho fun x hx => ⟨(HC.out.in_ x hx).1.vals HC.out.rows.row, (HC.out.in_ x hx).2.vals HC.out.rows.row⟩, fun x hx => ?_, ⟨fun b o e => ?_, fun x hx b o e => ?_⟩, HC.out.below, fun h => absurd (show l.length = 0 from by rw [← HC.out.len, h]; rfl) (by omega), fun _ => ⟨G, rfl, ho, fun x hx b o e => ?_⟩⟩
              · obtain ⟨y, hy, e⟩ := mem_p hp hx
                exact uok_p e (HL.out.2.1.ok y hy)
              · simp only [Option.some.injEq, Addr.mk.injEq, and_true] at e
                have := HM.out.2.2.1
                omega
              · have h1 := HC.out.in_ x hx
                have h2 := HM.out.2.1
                rcases e with e | e
                · rw [h1.1.far b o e]; exact h2
                · rw [h1.2.far b o e]; exact h2
              · have h1 := HC.out.in_ x hx
                rcases e with e | e
                · rw [h1.1.far b o e]; exact Ne.symm HM.out.2.2.2.2.1
                · rw [h1.2.far b o e]; exact Ne.symm HM.out.2.2.2.2.1
set_option maxRecDepth 100000 in
set_option maxHeartbeats 3200000 in
theorem badvanced_any (A : Option Addr) (c : Nat) (l : List Up) (A' : Option Addr) (c' : Nat) (f : List Tm) (w : World) (hl : Ups w w.heap.size A l) (hn : l.length ≤ 1099511627776) (hf : Times w w.heap.size A' f) (hfo : TsOk f c') :
    Calls Tryz.prog 124 #[.slice A l.length c, .slice A' f.length c'] w (Tells (∀ u ∈ l, adv u.t f = u.t) w) := by
  have HL := Lib.hid (And.intro hl (And.intro hf hfo))
  clear hl hf hfo
  go_enter Tryz.func124, Tryz.ntmps124
  go_wp2_with fail
  go_loopw [9] (fun v9 wr => ∃ j : Nat, v9 = .int .i64 (j : Int) ∧ j ≤ l.length ∧ Below w.heap.size w wr ∧ (∀ u ∈ l.take j, adv u.t f = u.t)) (fun v9 _ => l.length - (intOf v9).toNat)
  case atStart => exact ⟨0, rfl, by omega, Below.refl _ _, fun u hu => (by cases hu)⟩
  case round =>
    obtain ⟨j, rfl, hj, hbj, hall⟩ := hrel
    obtain ⟨wi, hwi⟩ : ∃ wi, wi = wr := ⟨_, rfl⟩
    subst hwi
    by_cases hjt : j < l.length
    · have hy : l[j]? = some l[j] := List.getElem?_eq_getElem hjt
      have hym := List.mem_of_getElem? hy
      generalize l[j] = u at *
      obtain ⟨b, o, rfl, hB, hys⟩ := lies_up HL.out.1.head (by omega)
      obtain ⟨e0, e1, e2, e3, e4, e5⟩ := ((hys j u hy).past_ hbj hB).six
      obtain ⟨V, hV, hvb, hvs, hvo⟩ := upbox wi u
      have hbV := hbj.trans (hvb.mono hbj.size)
      have hX := fun p : Past V => own6 (hvo.past p.h hvo.inside)
      have hfV := fun p : Past V => ((HL.out.2.1.past (hbV.trans (p.h.mono hbV.size)) (Nat.le_refl _)).wide (Nat.le_trans hbV.size p.h.size))
      have u1 := fun p : Past V => calls_past (advance_any u.t A' c' f p.w (hfV p) HL.out.2.2.le HL.out.2.2.c_)
      have hne := neq_time (adv u.t f) u.t
      obtain ⟨s, hs⟩ : ∃ s, adv u.t f = s := ⟨_, rfl⟩
      have hall2 : s = u.t → ∀ x ∈ l.take (j + 1), adv x.t f = x.t := fun h x hx => by
        rw [List.take_add_one, hy] at hx
        rcases List.mem_append.1 hx with hx | hx
        · exact hall x hx
        · obtain rfl : x = u := by simpa using hx
          exact hs.trans h
      have hbad : s ≠ u.t → ¬ ∀ x ∈ l, adv x.t f = x.t := fun h k => h (hs.symm.trans (k u hym))
      rw [hs] at u1 hne
      have hgd := fun (x1 y1 : Operand) (xs ys : Array Value) (w : World) => grd_time .neq x1 y1 xs ys w
      unfold Tm.val at u1 hne
      have HJ := Lib.hid (And.intro hbV (And.intro hall2 hbad))
      have q0 : (0 : Int) ≤ (j : Int) := by omega
      have q1 : (j : Int) < (l.length : Int) := by omega
      have q2 : decide ((j : Int) < (l.length : Int)) = true := decide_eq_true q1
      clear hy hym hbj hall hvb hvs hbV hvo hall2 hbad hs hys hfV
      by_cases hst : s = u.t
      · have hv : (!eqT s u.t) = false := by rw [eqT_iff.2 hst]; rfl
        simp only [hv] at hne
        have HS := Lib.hid hst
        clear hst hv
        go_upto_region 4 with fail
        rw [← hV]
        clear hV e0 e1 e2 e3 e4 e5
        refine wp_region_past V (by kernel_rfl) (by kernel_rfl) (Below.refl _ _) ?_
        repeat (first | go_big_quiet_step (fail) | quiet_step (fail))
        quiet_step ((go_at_call 151; exact u1 _))
        repeat (first | go_big_quiet_step (fail) | quiet_step (fail))
        refine wpQuiet_nil ?_
        intro wz hw'
        obtain ⟨⟨wy, hbz⟩, hw''⟩ := hw'
        dsimp only at hw''
        subst hw''
        have HZ := Lib.hid (HJ.out.1.trans (hbz.mono HJ.out.1.size))
        clear hbz
        go_wp2_with fail
        go_roundw
        case rel => exact ⟨j + 1, by go_num, by omega, HZ.out, HJ.out.2.1 HS.out⟩
        case measure => simp [intOf]; omega
      · have hv : (!eqT s u.t) = true := by rw [Bool.not_eq_true', ← Bool.not_eq_true, eqT_iff]; exact hst
        simp only [hv] at hne
        have HS := Lib.hid hst
        clear hst hv
        go_upto_region 4 with fail
        rw [← hV]
        clear hV e0 e1 e2 e3 e4 e5
        refine wp_region_past V (by kernel_rfl) (by kernel_rfl) (Below.refl _ _) ?_
        repeat (first | go_big_quiet_step (fail) | quiet_step (fail))
        quiet_step ((go_at_call 151; exact u1 _))
        repeat (first | go_big_quiet_step (fail) | quiet_step (fail))
        refine wpQuiet_nil ?_
        intro wz hw'
        obtain ⟨⟨wy, hbz⟩, hw''⟩ := hw'
        dsimp only at hw''
        subst hw''
        have HZ := Lib.hid (HJ.out.1.trans (hbz.mono HJ.out.1.size))
        clear hbz
        go_wp2_with fail
        go_ret
        exact ⟨false, rfl, by simp only [Bool.false_eq_true, false_iff]; exact HJ.out.2.2 HS.out, HZ.out⟩
    · have hj2 : j = l.length := by omega
      have q2 : decide ((j : Int) < (l.length : Int)) = false := decide_eq_false (by omega)
      rw [hj2, List.take_length] at hall
      have HJ := Lib.hid (And.intro hbj hall)
      clear hbj hall
      go_wp2_with fail
      go_ret
      exact ⟨true, rfl, ⟨fun _ => HJ.out.2, fun _ => rfl⟩, HJ.out.1⟩
def Advd (f : List Tm) (l : List Up) (w : World) (x : Ending) (w' : World) : Prop :=
  ∃ A', x = .returned (.slice A' l.length l.length) ∧ Ups w' w'.heap.size A' (advL f l) ∧ LoT w.heap.size A' ∧ Below w.heap.size w w'
theorem advL_len (f : List Tm) (l : List Up) : (advL f l).length = l.length := List.length_map ..
theorem advL_ok {f : List Tm} {l : List Up} (h : ∀ u ∈ l, UOk u) : ∀ u ∈ advL f l, UOk u := fun u hu => by
  obtain ⟨x, hx, rfl⟩ := List.mem_map.1 hu
  exact ⟨(h x hx).kn, (h x hx).rn, (h x hx).ks, (h x hx).rs, (h x hx).dn⟩
theorem advL_in {w : World} {B : Nat} {f : List Tm} {l : List Up} (h : ∀ u ∈ l, UIn w B u) : ∀ u ∈ advL f l, UIn w B u := fun u hu => by
  obtain ⟨x, hx, rfl⟩ := List.mem_map.1 hu
  exact ⟨(h x hx).key, (h x hx).row⟩
set_option maxRecDepth 100000 in
set_option maxHeartbeats 3200000 in
theorem badvance_any (A : Option Addr) (c : Nat) (l : List Up) (A' : Option Addr) (c' : Nat) (f : List Tm) (w : World) (hl : Ups w w.heap.size A l) (hn : l.length ≤ 1099511627776) (hf : Times w w.heap.size A' f) (hfo : TsOk f c') :
    Calls Tryz.prog 106 #[.slice A l.length c, .slice A' f.length c'] w (Advd f l w) := by
  have HL := Lib.hid (And.intro hl (And.intro hf hfo))
  have HC := Lib.hid (listU_any A c l w hl.head (by omega))
  clear hl hf hfo
  go_enter Tryz.func106, Tryz.ntmps106
  go_wp2_with fail
  refine HC.out.mono ?_
  rintro _ w1 ⟨B1, rfl, hnil, hown, b1⟩
  by_cases h0 : l = []
  · subst h0
    obtain ⟨rfl, rfl⟩ := hnil rfl
    clear hnil hown b1 HC
    go_wp2_with fail
    go_loopw [12] (fun v12 wr => v12 = .int .i64 0 ∧ wr = w1) (fun v12 _ => 0)
    case atStart => exact ⟨rfl, rfl⟩
    case round =>
      obtain ⟨rfl, rfl⟩ := hrel
      go_wp2_with fail
      go_ret
      exact ⟨none, rfl, ⟨Lies.nil_, fun u hu => by cases hu⟩, lot_nil _, Below.refl _ _⟩
  · have hpos : 0 < l.length := List.length_pos_iff.2 h0
    obtain ⟨rfl, ho⟩ := hown hpos
    have hG1 : w.heap.size < w1.heap.size := ho.inside
    obtain ⟨G, hG⟩ : ∃ G, G = w.heap.size := ⟨_, rfl⟩
    rw [← hG] at ho
    have H1 := Lib.hid (And.intro b1 (And.intro ho (And.intro hG hG1)))
    rw [← hG]
    clear hnil hown b1 ho h0 HC hG hG1
    go_wp2_with fail
    go_loopw [12] (fun v12 wr => ∃ k : Nat, v12 = .int .i64 (k : Int) ∧ k ≤ l.length ∧ Below w.heap.size w wr ∧ Own wr G 49 (((l.take k).map (Up.advd f) ++ l.drop k).flatMap Up.cells)) (fun v12 _ => l.length - (intOf v12).toNat)
    case atStart => exact ⟨0, rfl, by omega, H1.out.1, by simpa using H1.out.2.1⟩
    case round =>
      obtain ⟨k, rfl, hk, hb, ho⟩ := hrel
      by_cases hlt : k < l.length
      · have hx : l[k]? = some l[k] := List.getElem?_eq_getElem hlt
        generalize l[k] = u at *
        obtain ⟨hx1, hx2⟩ := part_next (g := Up.advd f) hx
        generalize hX : (l.take k).map (Up.advd f) ++ l.drop k = X at *
        have hc := fun r v (hr : u.cells[r]? = some v) => (show wr.cell? ⟨G, k * 6 + r, none⟩ = some v by rw [ho.at_]; exact flat_of (size := 6) (cells := Up.cells) (fun _ => rfl) X k r u v hx1 hr)
        have c0 := hc 0 _ rfl
        have c1 := hc 1 _ rfl
        have c2 := hc 2 _ rfl
        have c3 := hc 3 _ rfl
        have c4 := hc 4 _ rfl
        have c5 := hc 5 _ rfl
        rw [Nat.add_zero] at c0
        obtain ⟨V, hV, hvb, hvs, hvo⟩ := upbox wr u
        have hbV := hb.trans (hvb.mono hb.size)
        have hoV := ho.past hvb ho.inside
        obtain ⟨d0, d1, d2, d3, d4, d5⟩ := own6 hvo
        have hfV : Times V V.heap.size A' f := (HL.out.2.1.past hbV (Nat.le_refl _)).wide hbV.size
        have u1 := Lib.hid (advance_any u.t A' c' f V hfV HL.out.2.2.le HL.out.2.2.c_)
        have hst := fun t : Tm => set_time hx1 t
        have HV := Lib.hid (And.intro hbV (And.intro hoV (And.intro hst (And.intro hx2 (And.intro hx1 hX)))))
        have q0 : (0 : Int) ≤ (k : Int) := by omega
        have q1 : (k : Int) < (l.length : Int) := by omega
        clear hx hx1 hx2 hX hc hb ho hvb hvs hvo hbV hoV hfV hst
        go_upto_region 5 with fail
        rw [← hV]
        clear hV c0 c1 c2 c3 c4 c5
        go_wp2_with fail
        refine u1.out.mono ?_
        rintro _ w2 ⟨rfl, b2⟩
        obtain ⟨s, hs⟩ : ∃ s, adv u.t f = s := ⟨_, rfl⟩
        rw [hs]
        have ho2 := HV.out.2.1.past b2 HV.out.2.1.inside
        have hc := fun r v (hr : u.cells[r]? = some v) => (show w2.cell? ⟨G, k * 6 + r, none⟩ = some v by rw [ho2.at_]; exact flat_of (size := 6) (cells := Up.cells) (fun _ => rfl) X k r u v HV.out.2.2.2.2.1 hr)
        have c2 := hc 2 _ rfl
        have c3 := hc 3 _ rfl
        have c4 := hc 4 _ rfl
        have f2 := ho2.open_ (k * 6 + 2)
        have f3 := ho2.open_ (k * 6 + 3)
        have f4 := ho2.open_ (k * 6 + 4)
        have H2 := Lib.hid (And.intro (HV.out.1.trans (b2.mono HV.out.1.size)) (And.intro ho2 hs))
        unfold Tm.val
        clear b2 ho2 hc hs d0 d1 d2 d3 d4 d5 u1
        go_wp2_with fail
        go_roundw
        case rel =>
          refine ⟨k + 1, by go_num, by omega, ((H2.out.1.setCell (p := ⟨G, k * 6 + 2, none⟩) (by have := H1.out.2.2.1; show w.heap.size ≤ G; omega) _).setCell (p := ⟨G, k * 6 + 3, none⟩) (by have := H1.out.2.2.1; show w.heap.size ≤ G; omega) _).setCell (p := ⟨G, k * 6 + 4, none⟩) (by have := H1.out.2.2.1; show w.heap.size ≤ G; omega) _, ?_⟩
          rw [← HV.out.2.2.2.1, show u.advd f = { u with t := s } from by unfold Up.advd; rw [H2.out.2.2], ← HV.out.2.2.1]
          exact ((H2.out.2.1.set_ (k * 6 + 2) _).set_ (k * 6 + 3) _).set_ (k * 6 + 4) _
        case measure => simp [intOf]; omega
      · have hk2 : k = l.length := by omega
        subst hk2
        rw [List.take_length, List.drop_length, List.append_nil] at ho
        have H2 := Lib.hid (And.intro hb ho)
        clear hb ho
        go_wp2_with fail
        go_ret
        refine ⟨_, rfl, ups_own H2.out.2 (advL_in fun u hu => (HL.out.1.each_ u hu).past H2.out.1 (Nat.le_refl _) |>.wide H2.out.1.size), fun b o e => ?_, H2.out.1⟩
        simp only [Option.some.injEq, Addr.mk.injEq, and_true] at e
        have := H1.out.2.2.1
        omega
theorem take_sameE {l m : List Tm} {s t : Tm} {k : Nat} (h : l[k]? = some s) (h' : m[k]? = some t) (he : l.take k = m.take k) (hst : s = t) : l.take (k + 1) = m.take (k + 1) := by
  rw [List.take_add_one, List.take_add_one, h, h', he, hst]

set_option maxRecDepth 100000 in
set_option maxHeartbeats 1600000 in
theorem equalTs_any (A A' : Option Addr) (c c' : Nat) (l m : List Tm) (w : World) (hl : Times w w.heap.size A l) (hm : Times w w.heap.size A' m) (hn : l.length ≤ maxLen) (hn' : m.length ≤ maxLen) :
    Calls Tryz.prog 149 #[.slice A l.length c, .slice A' m.length c'] w fun e w' => e = .returned (.bool (decide (l = m))) ∧ Below w.heap.size w w' := by
  unfold maxLen at hn hn'
  by_cases hlen : l.length = m.length
  · have hlb : ((l.length : Int) != (m.length : Int)) = false := by simp [hlen]
    have hn2 : (l.length : Int) = (m.length : Int) → True := fun _ => trivial
    have Hl := Lib.hid (And.intro hlen (And.intro hl hm))
    clear hl hm hlen hn2
    go_enter Tryz.func149, Tryz.ntmps149
    go_wp2_with fail
    go_loopw [13] (fun i wr => ∃ k : Nat, i = .int .i64 (k : Int) ∧ k ≤ l.length ∧ Below w.heap.size w wr ∧ l.take k = m.take k)
      (fun i _ => l.length - (intOf i).toNat)
    case atStart => exact ⟨0, rfl, by omega, Below.refl _ _, rfl⟩
    case round =>
      obtain ⟨k, rfl, hk, hb, he⟩ := hrel
      by_cases hlt : k < l.length
      · obtain ⟨hlen, hl, hm⟩ := Hl.out
        have hltm : k < m.length := by omega
        have hx : l[k]? = some l[k] := List.getElem?_eq_getElem hlt
        have hy : m[k]? = some m[k] := List.getElem?_eq_getElem hltm
        obtain ⟨b, o, rfl, hB, hl⟩ := hl (by omega)
        obtain ⟨b', o', rfl, hB', hm⟩ := hm (by omega)
        obtain ⟨c0, c1, c2⟩ := (hl k _ hx).past hb hB
        obtain ⟨d0, d1, d2⟩ := (hm k _ hy).past hb hB'
        generalize l[k] = s at *
        generalize m[k] = t at *
        have hne := neq_time s t
        have hgd := fun (x1 y1 : Operand) (xs ys : Array Value) (w : World) => grd_time .neq x1 y1 xs ys w
        unfold Tm.val at hne
        have HH := Lib.hid (And.intro hb (And.intro he (And.intro hx hy)))
        have q0 : (0 : Int) ≤ (k : Int) := by omega
        have q1 : (k : Int) < (l.length : Int) := by omega
        have q2 : (k : Int) < (m.length : Int) := by omega
        clear hb he hx hy hl hm hlen
        by_cases hst : s = t
        · have hv : (!eqT s t) = false := by rw [eqT_iff.2 hst]; rfl
          simp only [hv] at hne
          have HS := Lib.hid hst
          clear hst hv
          go_wp2_with fail
          go_quiet (fail)
          go_wp2_with fail
          obtain ⟨hb, he, hx, hy⟩ := HH.out
          go_roundw
          case rel => exact ⟨k + 1, by go_num, by omega, below_draws hb _, take_sameE hx hy he HS.out⟩
          case measure => simp [intOf]; omega
        · have hv : (!eqT s t) = true := by rw [Bool.not_eq_true', ← Bool.not_eq_true, eqT_iff]; exact hst
          simp only [hv] at hne
          have HS := Lib.hid hst
          clear hst hv
          go_wp2_with fail
          go_quiet (fail)
          go_wp2_with fail
          go_ret
          obtain ⟨hb, he, hx, hy⟩ := HH.out
          refine ⟨ret_bool (Eq.symm ?_), below_draws hb _⟩
          simp only [decide_eq_false_iff_not]
          intro h
          rw [h, hy] at hx
          exact HS.out (by injection hx with hx; exact hx.symm)
      · have hk2 : k = l.length := by omega
        have HH := Lib.hid (And.intro hb (And.intro he hk2))
        clear hb he hk2
        go_wp2_with fail
        go_ret
        obtain ⟨hb, he, rfl⟩ := HH.out
        refine ⟨ret_bool (Eq.symm ?_), hb⟩
        simp only [decide_eq_true_eq]
        have := Hl.out.1
        rw [List.take_length, this, List.take_length] at he
        exact he
  · have hd : decide (l = m) = false := by simp; intro h; exact hlen (by rw [h])
    rw [hd]
    have hlb : ((l.length : Int) != (m.length : Int)) = true := by simp; omega
    clear hlen hd hl hm
    go_enter Tryz.func149, Tryz.ntmps149
    go_wp2_with fail
    go_ret
    exact ⟨rfl, Below.refl _ _⟩
end Go.Proofs.YtjffohpdjicfpaaGreat
namespace Go.Proofs.YtjffohpdjicfpaaGreat
open Go Go.RowKit Go.Sort Go.Lib
theorem flat_inv : ∀ (l : List Tm) (j : Nat) (u : Value), (l.flatMap Tm.cells)[j]? = some u → ∃ i t, l[i]? = some t ∧ ((j = i * 3 ∧ u = .int .u64 (t.e : Int)) ∨ (j = i * 3 + 1 ∧ u = .int .u64 (t.a : Int)) ∨ (j = i * 3 + 2 ∧ u = .int .u64 (t.b : Int)))
  | [], j, u, h => by simp at h
  | x :: l, 0, u, h => ⟨0, x, rfl, .inl ⟨rfl, by simpa [Tm.cells] using h.symm⟩⟩
  | x :: l, 1, u, h => ⟨0, x, rfl, .inr (.inl ⟨rfl, by simpa [Tm.cells] using h.symm⟩)⟩
  | x :: l, 2, u, h => ⟨0, x, rfl, .inr (.inr ⟨rfl, by simpa [Tm.cells] using h.symm⟩)⟩
  | x :: l, j + 3, u, h => by
    obtain ⟨i, t, hi, hc⟩ := flat_inv l j u (by simpa [Tm.cells] using h)
    refine ⟨i + 1, t, by simpa using hi, ?_⟩
    rcases hc with ⟨h1, h2⟩ | ⟨h1, h2⟩ | ⟨h1, h2⟩
    · exact .inl ⟨by omega, h2⟩
    · exact .inr (.inl ⟨by omega, h2⟩)
    · exact .inr (.inr ⟨by omega, h2⟩)
theorem flat_one (l : List Tm) : ∀ u ∈ l.flatMap Tm.cells, u.oneCell' = true := by
  intro u hu
  obtain ⟨t, _, ht⟩ := List.mem_flatMap.1 hu
  simp [Tm.cells] at ht
  rcases ht with rfl | rfl | rfl <;> rfl
theorem times_news {w : World} {B : Nat} {ad : Addr} {l : List Tm} (h : Times w B (some ad) l) : ∀ j u, (l.flatMap Tm.cells)[j]? = some u → w.cell? (ad.add j) = some u := by
  intro j u hu
  obtain ⟨i, t, hi, hc⟩ := flat_inv l j u hu
  have hpos : 0 < l.length := by have := (List.getElem?_eq_some_iff.1 hi).1; omega
  obtain ⟨b, o, e, _, ht⟩ := h hpos
  obtain rfl : ad = ⟨b, o, none⟩ := by injection e
  obtain ⟨a0, a1, a2⟩ := ht i t hi
  have ea : (⟨b, o, none⟩ : Addr).add j = ⟨b, o + j, none⟩ := by unfold Addr.add; split <;> simp_all
  rw [ea]
  rcases hc with ⟨rfl, rfl⟩ | ⟨rfl, rfl⟩ | ⟨rfl, rfl⟩
  · exact a0
  · rw [← Nat.add_assoc]; exact a1
  · rw [← Nat.add_assoc]; exact a2

set_option maxRecDepth 100000 in
set_option maxHeartbeats 800000 in
theorem clone_any (A : Option Addr) (c : Nat) (l : List Tm) (w : World) (hl : Times w w.heap.size A l) (hn : l.length * 24 ≤ 140737488351232) :
    Calls Tryz.prog 186 #[.slice A l.length c] w fun e w' => ∃ v, e = .returned v ∧ w'.ownsRow w.heap.size 26 3 v l.length (l.flatMap Tm.cells) ∧ Below w.heap.size w w' := by
  have q26 := fun (w : World) (a : Option Addr) (n c n' c' : Nat) => Lib.run_eql_slice_nil (P := Tryz.prog) w _ _ a n c n' c' Tryz.underlying33
  have hU := Tryz.underlying33
  obtain ⟨i0, hi, hz0, hz1, hz2⟩ := info_parts infoTm
  cases A with
  | none =>
    have h0 : l = [] := by
      cases l with
      | nil => rfl
      | cons x l => obtain ⟨_, _, e, _⟩ := hl (by simp); cases e
    subst h0
    clear hl
    go_enter Tryz.func186, Tryz.ntmps186
    go_wp2_with fail
    go_ret
    exact ⟨_, rfl, World.ownsRow_nil _ _ _ _, Below.refl _ _⟩
  | some ad =>
    have hnews := times_news hl
    have HN := Lib.hid hnews
    clear hnews hl
    go_enter Tryz.func186, Tryz.ntmps186
    go_wp2_with (at_builtin; refine wpList_append_own_at _ rfl _ _ 33 rfl w.heap.size 26 i0 _ 3 24 hU hi hz0 hz1 hz2 rfl (by decide) _ _ _ rfl (World.ownsRow_made w #[] 0 (Nat.le_refl _) (Nat.zero_le _) rfl) ad l.length c (l.flatMap Tm.cells) rfl ?c1 ?c2 ?c3 ?c4 ?c5 ?c6 ?_)
    case c1 => rw [flat_len]
    case c2 => exact fun j u hu => (World.cell?_alloc_some _ _ _ (by rw [HN.out j u hu]; rfl)).trans (HN.out j u hu)
    case c3 => exact flat_one l
    case c4 => unfold maxLen; omega
    case c5 => omega
    case c6 => simp
    intro v' w' ho' hg' _ _
    have hb : Below w.heap.size w w' := ((Below.refl _ _).alloc (Nat.le_refl _) _).grown hg' (by simp) (by simp [Value.ownBlock])
    go_wp2
    go_ret
    exact ⟨_, rfl, ho', hb⟩

theorem getElem!_some {l : List Tm} {i : Nat} {t : Tm} (h : l[i]? = some t) : l.toArray[i]! = t := by
  obtain ⟨hi, h⟩ := List.getElem?_eq_some_iff.1 h
  rw [getElem!_pos _ i (by simpa using hi)]
  simpa using h
theorem sort_any (g c : Nat) (l : List Tm) (w : World) (base : Nat) (h : w.ownsRow base 26 3 (.slice (some ⟨g, 0, none⟩) l.length c) l.length (l.flatMap Tm.cells)) (hn : l.length * 24 ≤ 140737488351232) :
    Calls Tryz.prog 187 #[.slice (some ⟨g, 0, none⟩) l.length c, .func (.func 74) #[] #[]] w fun e w' => e = .returned (.tuple #[]) ∧ Times w' w'.heap.size (some ⟨g, 0, none⟩) (sortT l) ∧ Below g w w' := by
  have eg : ∀ args w, (callFunc 74 args).run Tryz.prog w = .ok (.enter 74 args) w := enters_of Tryz.func74 (by kernel_rfl) rfl
  have hg : g < w.heap.size := by
    rcases h.2 with ⟨h, _⟩ | ⟨g', _, _, e, _, hg, _⟩
    · simp at h
    · injection e with e _ _
      injection e with e
      injection e with e
      subst e
      exact (Array.getElem?_eq_some_iff.1 hg).1
  have hcell : ∀ i c, i < l.length → c < 3 → w.cell? ⟨g, 0 + (i * 3 + c), none⟩ = some (Tm.cells l.toArray[i]!)[c]! ∧ w.frozen? ⟨g, 0 + (i * 3 + c), none⟩ = false := by
    intro i c hi hc
    refine ⟨?_, h.frozenAt _⟩
    rw [Nat.zero_add, h.cellAt _ (by omega)]
    have hx : l[i]? = some l[i] := List.getElem?_eq_getElem hi
    obtain ⟨a0, a1, a2⟩ := flat_at l i _ hx
    rw [getElem!_some hx]
    rcases (by omega : c = 0 ∨ c = 1 ∨ c = 2) with rfl | rfl | rfl
    · simpa [Tm.cells] using a0
    · simpa [Tm.cells] using a1
    · simpa [Tm.cells] using a2
  have hH : HoldsK Tm.cells 3 w g 0 l.toArray := by
    intro j hj
    rw [size_flatK] at hj
    rw [get_flatK _ _ _ _ hj]
    have hs : l.toArray.size = l.length := by simp
    have := hcell (j / 3) (j % 3) (by omega) (by omega)
    rwa [Nat.div_add_mod' j 3] at this
  have hcon := AnyQ.slices_SortFunc_total Tryz.sortTm 3 Tryz.isAgg26 Tryz.sizeOf26 Tm.cells (fun _ => rfl) (fun x v hv => by simp [Tm.cells] at hv; rcases hv with rfl | rfl | rfl <;> rfl) Tm.cmp swoT 74 #[] g 0 c l.toArray w eg
    (fun m os dk _ x y => compare_grows x y _) hH hg (by simp; omega) totT
  change Calls Tryz.prog 187 _ _ _ at hcon
  simp only [List.size_toArray] at hcon
  refine hcon.mono ?_
  rintro e w' ⟨rfl, n, os, rfl⟩
  have hlen : (sortT l).toArray.size = l.toArray.size := by simp [sortT_len]
  have hH' := holdsK_sortWorldK_c Tm.cells 3 w g 0 l.toArray (sortT l).toArray n os hH hg hlen
  refine ⟨rfl, fun _ => ⟨g, 0, rfl, Nat.lt_of_lt_of_le hg (size_sortWorldK_c Tm.cells 3 w g 0 n _ os), fun i t hi => ?_⟩, ?_⟩
  · have hil := (List.getElem?_eq_some_iff.1 hi).1
    have hq := fun c hc => (HoldsK.cell hH' (i := i) (c := c) (by simpa using hil) hc).1
    rw [getElem!_some hi] at hq
    exact ⟨hq 0 (by omega), hq 1 (by omega), hq 2 (by omega)⟩
  · unfold sortWorldK putRowK putRow mapBlock
    refine ⟨rfl, rfl, rfl, by simp [grow, ahead], fun k hk => ?_⟩
    show (_ ++ os)[k]? = _
    rw [Array.getElem?_append_left (by simp [ahead]; omega), Array.getElem?_modify, if_neg (by omega)]
    rfl
end Go.Proofs.YtjffohpdjicfpaaGreat
