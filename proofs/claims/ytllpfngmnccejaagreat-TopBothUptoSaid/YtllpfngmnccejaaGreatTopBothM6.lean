/- Part 6 of the texts on which TopBoth rests: facts and contracts. -/
import Derived.Test.YtllpfngmnccejaaGreatTopBothM5
import Derived.Lib.SliceRun
import Derived.Test.YtllpfngmnccejaaGreatSortP
import Derived.BigQuiet
namespace Go.Proofs.YtllpfngmnccejaaGreat
open Go Go.RowKit

/-- t is beyond f, or f is no frontier at all -/
def Past_ (f : List Tm) (t : Tm) : Prop := f = [] ∨ beyond f t = true
/-- beyond f, the same is there -/
def SameAt (f : List Tm) (X Y : List Up) : Prop := ∀ t, Past_ f t → ∀ r, sumOf cmpRows (atP X t) r = sumOf cmpRows (atP Y t) r
section
variable {f g : List Tm} {X Y Z W : List Up}
theorem SameAt.refl : SameAt f X X := fun _ _ _ => rfl
theorem SameAt.symm (h : SameAt f X Y) : SameAt f Y X := fun t ht r => (h t ht r).symm
theorem SameAt.trans (h : SameAt f X Y) (k : SameAt f Y Z) : SameAt f X Z := fun t ht r => (h t ht r).trans (k t ht r)
theorem SameAt.append (h : SameAt f X Y) (k : SameAt f Z W) : SameAt f (X ++ Z) (Y ++ W) := fun t ht r => by
  rw [at_append, at_append, sumOf_append, sumOf_append, h t ht r, k t ht r]
theorem SameAt.perm (h : X.Perm Y) : SameAt f X Y := fun t _ r => by
  refine sumOf_perm ?_ r
  unfold atP
  exact (h.filter _).map _
/-- g is later than f -/
def LaterF (g f : List Tm) : Prop := f = [] ∨ (g ≠ [] ∧ ∀ x ∈ g, beyond f x = true)
theorem past_later (h : LaterF g f) {t : Tm} (ht : Past_ g t) : Past_ f t := by
  rcases h with h | ⟨h1, h2⟩
  · exact .inl h
  · rcases ht with ht | ht
    · exact absurd ht h1
    · obtain ⟨x, hx, hxt⟩ := beyond_iff.1 ht
      obtain ⟨y, hy, hyx⟩ := beyond_iff.1 (h2 x hx)
      exact .inr (beyond_iff.2 ⟨y, hy, le_trans' hyx hxt⟩)
theorem later_refl (f : List Tm) : LaterF f f := by
  by_cases h : f = []
  · exact .inl h
  · exact .inr ⟨h, fun x hx => beyond_iff.2 ⟨x, hx, le_refl' x⟩⟩
theorem later_trans {e : List Tm} (h : LaterF g f) (k : LaterF f e) : LaterF g e := by
  rcases k with k | ⟨k1, k2⟩
  · exact .inl k
  · rcases h with h | ⟨h1, h2⟩
    · exact absurd h k1
    · refine .inr ⟨h1, fun x hx => ?_⟩
      obtain ⟨y, hy, hyx⟩ := beyond_iff.1 (h2 x hx)
      obtain ⟨z, hz, hzy⟩ := beyond_iff.1 (k2 y hy)
      exact beyond_iff.2 ⟨z, hz, le_trans' hzy hyx⟩
theorem SameAt.later (h : SameAt f X Y) (k : LaterF g f) : SameAt g X Y := fun t ht r => h t (past_later k ht) r
theorem same_adv : SameAt f (advL f X) X := fun t ht r => by rw [atP_adv ht]
/-- evened out -/
theorem same_cons {e : List Up} (h : consE [X] = 0) (he : e.map Up.p = consL [X]) : SameAt f e X := fun t _ r => by
  obtain ⟨h1, h2, h3⟩ := cons_chk h
  have hl : chkUs X = 0 := chkLs_all.1 h1 X (by simp)
  simp only [List.flatten_cons, List.flatten_nil, List.append_nil] at h2 h3
  rw [at_sum, at_sum, he, h3, (resE_zero h2).1, psum_nz uk_lin _ (keys_right (chkUs_all.1 hl))]
/-- a batch of them -/
theorem same_batch {e : List Up} (h : consE [advL f X] = 0) (he : e.map Up.p = consL [advL f X]) : SameAt f e X := (same_cons h he).trans same_adv
/-- what is there is told by the sums -/
theorem at_of_same (h : SameAt f X Y) {t : Tm} (ht : Past_ f t) (hX : chkUs X = 0) (hY : chkUs Y = 0) : atL X t = atL Y t ∧ atE X t = atE Y t := by
  by_cases hc : chk [t] = 0
  · rw [(at_of hX hc).1, (at_of hX hc).2, (at_of hY hc).1, (at_of hY hc).2]
    exact resL_ext row_lin (at_right hX) (at_right hY) fun r => h t ht r
  · have c1 : chkAt X t = chk [t] := by unfold chkAt orI; rw [if_pos hX]
    have c2 : chkAt Y t = chk [t] := by unfold chkAt orI; rw [if_pos hY]
    unfold atL atE
    rw [c1, c2, if_neg hc, if_neg hc, if_neg hc, if_neg hc]
    exact ⟨rfl, rfl⟩
/-- the parts of a merger: what it has of both lists, and what it has made, are still there -/
theorem same_merger {a b o : List Up} {s : MS} (h : s.Fine f a b) (hf : ∀ x ∈ f, x.right = true) (hc : chkUs (a ++ b) = 0) (ho : o.map Up.p = s.out) : SameAt f (o ++ (s.ra ++ s.rb)) (a ++ b) := by
  have hct : chkUs (s.ta ++ s.tb) = 0 := chkUs_all.2 fun u hu => chkUs_all.1 hc u (by
    rw [← h.a_, ← h.b_]
    simp only [List.mem_append] at hu ⊢
    rcases hu with hu | hu
    · exact .inl (.inl hu)
    · exact .inr (.inl hu))
  have h1 : SameAt f o (s.ta ++ s.tb) := by
    refine SameAt.trans (Y := advL f (s.ta ++ s.tb)) (fun t _ r => ?_) same_adv
    rw [at_sum, at_sum, ho, h.inv.out_, psum_nz uk_lin _ (adv_keys hf hct)]
  refine (h1.append SameAt.refl).trans ?_
  rw [← h.a_, ← h.b_]
  refine SameAt.perm ?_
  rw [List.append_assoc, List.append_assoc]
  refine List.Perm.append_left _ ?_
  rw [← List.append_assoc, ← List.append_assoc]
  exact List.Perm.append_right _ List.perm_append_comm
end
end Go.Proofs.YtllpfngmnccejaaGreat
namespace Go.Proofs.YtllpfngmnccejaaGreat
open Go Go.RowKit

section
variable {K : Type} {cmp : K → K → Int} {R : K → Prop}
theorem sum_filter (L : Lin cmp R) (p : K → Bool) {k : K} (hk : R k) : ∀ {l : List (K × Int)}, (∀ x ∈ l, R x.1) → sumOf cmp (l.filter fun x => p x.1) k = if p k = true then sumOf cmp l k else 0
  | [], _ => by simp [sumOf]
  | x :: l, hl => by
    have ih := sum_filter L p hk (l := l) fun y hy => hl y (List.mem_cons_of_mem _ hy)
    rw [List.filter_cons]
    by_cases h0 : cmp x.1 k = 0
    · obtain rfl : x.1 = k := (L.eq _ _ (hl x List.mem_cons_self) hk).1 h0
      by_cases hp : p x.1 = true
      · rw [if_pos hp] at ih ⊢
        rw [if_pos hp]
        simp only [sumOf, ih]
      · rw [if_neg hp] at ih ⊢
        rw [if_neg hp]
        exact ih
    · have hs : sumOf cmp (x :: l) k = sumOf cmp l k := by simp only [sumOf, if_neg h0]; omega
      rw [hs, ← ih]
      split
      · simp only [sumOf, if_neg h0]; omega
      · rfl
theorem nz_filter (L : Lin cmp R) (p : K → Bool) {l : List (K × Int)} (hl : ∀ x ∈ l, R x.1) : nz cmp (l.filter fun x => p x.1) = (nz cmp l).filter fun x => p x.1 := by
  refine srt_ext L _ _ (nz_srt L _) ((nz_srt L l).filter _) fun y => ?_
  rw [nz_mem L (fun x hx => hl x (List.mem_filter.1 hx).1), List.mem_filter, nz_mem L hl]
  constructor
  · rintro ⟨h1, h2, h3⟩
    rw [sum_filter L p h1 hl] at h2
    split at h2
    · rename_i hp; exact ⟨⟨h1, h2, h3⟩, hp⟩
    · exact absurd h2 h3
  · rintro ⟨⟨h1, h2, h3⟩, hp⟩
    exact ⟨h1, by rw [sum_filter L p h1 hl, if_pos hp]; exact h2, h3⟩
theorem res_filter (L : Lin cmp R) (p : K → Bool) {l : List (K × Int)} (hl : ∀ x ∈ l, R x.1) (h : resE cmp l = 0) : resE cmp (l.filter fun x => p x.1) = 0 ∧ resL cmp (l.filter fun x => p x.1) = (resL cmp l).filter fun x => p x.1 := by
  have hz := resE_zero h
  have ha : (asm cmp (l.filter fun x => p x.1)).all (fun x => fits x.2) = true := by
    have h2 := hz.2
    rw [fit_all] at h2 ⊢
    rw [nz_filter L p hl, List.all_eq_true]
    exact fun x hx => List.all_eq_true.1 h2 x (List.mem_filter.1 hx).1
  have h0 : resE cmp (l.filter fun x => p x.1) = 0 := by unfold resE; rw [if_pos ha]
  exact ⟨h0, by rw [(resE_zero h0).1, hz.1, nz_filter L p hl]⟩
end
/-- the updates of a key -/
def ofKey (k : List Vl) (l : List Up) : List Up := l.filter fun u => decide (cmpRows u.key k = 0)
theorem ofKey_append (k : List Vl) (a b : List Up) : ofKey k (a ++ b) = ofKey k a ++ ofKey k b := List.filter_append ..
theorem ofKey_p (k : List Vl) (l : List Up) : (ofKey k l).map Up.p = (l.map Up.p).filter fun x => decide (cmpRows x.1.key k = 0) := by
  unfold ofKey
  rw [List.filter_map]
  rfl
theorem ofKey_adv (f : List Tm) (k : List Vl) (l : List Up) : advL f (ofKey k l) = ofKey k (advL f l) := by
  unfold ofKey advL
  rw [List.filter_map]
  rfl
/-- a key's updates, evened out alone, are those of all, evened out -/
theorem group_all {f : List Tm} {X e : List Up} (k : List Vl) (h : consE [advL f X] = 0) (he : e.map Up.p = consL [advL f X]) : consE [advL f (ofKey k X)] = 0 ∧ consL [advL f (ofKey k X)] = (ofKey k e).map Up.p := by
  obtain ⟨h1, h2, h3⟩ := cons_chk h
  have hl : chkUs (advL f X) = 0 := chkLs_all.1 h1 _ (by simp)
  simp only [List.flatten_cons, List.flatten_nil, List.append_nil] at h2 h3
  have hR := keys_right (chkUs_all.1 hl)
  have hc : chkLs [advL f (ofKey k X)] = 0 := chkLs_all.2 fun m hm => by
    obtain rfl : m = advL f (ofKey k X) := (by simpa using hm)
    rw [ofKey_adv]
    exact chkUs_all.2 fun u hu => chkUs_all.1 hl u (List.mem_filter.1 hu).1
  obtain ⟨r1, r2⟩ := res_filter uk_lin (fun x : Uk => decide (cmpRows x.key k = 0)) hR h2
  unfold consE consL
  rw [if_pos hc, if_pos hc]
  simp only [List.flatten_cons, List.flatten_nil, List.append_nil]
  rw [ofKey_adv, ofKey_p, ofKey_p, r1, r2, he, h3]
  exact ⟨rfl, rfl⟩
end Go.Proofs.YtllpfngmnccejaaGreat
namespace Go.Proofs.YtllpfngmnccejaaGreat
open Go Go.RowKit

section
variable {K : Type} {cmp : K → K → Int} {R : K → Prop}
def wsum (F : K → Int) : List (K × Int) → Int
  | [] => 0
  | x :: l => F x.1 * x.2 + wsum F l
theorem wsum_append (F : K → Int) : ∀ a b : List (K × Int), wsum F (a ++ b) = wsum F a + wsum F b
  | [], b => by simp [wsum]
  | x :: a, b => by simp only [List.cons_append, wsum, wsum_append F a b]; omega
theorem wsum_ins (L : Lin cmp R) (F : K → Int) (x : K × Int) (hx : R x.1) : ∀ l : List (K × Int), (∀ y ∈ l, R y.1) → wsum F (ins cmp x l) = wsum F l + F x.1 * x.2
  | [], _ => by simp [ins, wsum]
  | y :: t, h => by
    have ih := wsum_ins L F x hx t fun z hz => h z (by simp [hz])
    unfold ins
    by_cases h0 : cmp y.1 x.1 = 0
    · have e : y.1 = x.1 := (L.eq y.1 x.1 (h y (by simp)) hx).1 h0
      rw [if_pos h0]
      simp only [wsum, e, Int.mul_add]
      omega
    · rw [if_neg h0]
      split
      · simp only [wsum, ih]; omega
      · simp only [wsum]; omega
theorem wsum_asmF (L : Lin cmp R) (F : K → Int) : ∀ l a : List (K × Int), (∀ y ∈ l, R y.1) → (∀ y ∈ a, R y.1) → wsum F (asmF cmp a l) = wsum F a + wsum F l
  | [], a, _, _ => by simp [asmF, wsum]
  | x :: l, a, h, ha => by
    have hx := h x (by simp)
    have ih := wsum_asmF L F l (ins cmp x a) (fun y hy => h y (by simp [hy])) (ins_right hx ha)
    show wsum F (asmF cmp (ins cmp x a) l) = _
    rw [ih, wsum_ins L F x hx a ha]
    simp only [wsum]
    omega
theorem wsum_nz0 (F : K → Int) : ∀ l : List (K × Int), wsum F (l.filter fun x => x.2 != 0) = wsum F l
  | [] => rfl
  | x :: l => by
    have ih := wsum_nz0 F l
    rw [List.filter_cons]
    split
    · simp only [wsum, ih]
    · rename_i h
      have h0 : x.2 = 0 := by simpa using h
      simp only [wsum, ih, h0, Int.mul_zero]
      omega
theorem wsum_nz (L : Lin cmp R) (F : K → Int) {l : List (K × Int)} (h : ∀ y ∈ l, R y.1) : wsum F (nz cmp l) = wsum F l := by
  unfold nz asm
  rw [wsum_nz0, wsum_asmF L F l [] h fun y hy => (by cases hy)]
  simp [wsum]
theorem wsum_neg (F : K → Int) : ∀ l : List (K × Int), wsum F (l.map fun x => (x.1, -x.2)) = - wsum F l
  | [] => rfl
  | x :: l => by
    have ih := wsum_neg F l
    simp only [List.map_cons, wsum, ih, Int.mul_neg]
    omega
/-- what of one list comes with each of another one: told list by list -/
def bsum (G : K → K → Int) (X Y : List (K × Int)) : Int := wsum (fun x => wsum (fun y => G x y) Y) X
theorem bsum_nz (L : Lin cmp R) (G : K → K → Int) {X Y : List (K × Int)} (hX : ∀ x ∈ X, R x.1) (hY : ∀ y ∈ Y, R y.1) : bsum G (nz cmp X) (nz cmp Y) = bsum G X Y := by
  unfold bsum
  rw [wsum_nz L _ hX]
  have : (fun x => wsum (fun y => G x y) (nz cmp Y)) = fun x => wsum (fun y => G x y) Y := funext fun x => wsum_nz L _ hY
  rw [this]
theorem wsum_times (F : K → Int) (c : Int) : ∀ Y : List (K × Int), wsum F Y * c = (Y.map fun y => F y.1 * (c * y.2)).sum
  | [] => by simp [wsum]
  | y :: Y => by
    simp only [wsum, List.map_cons, List.sum_cons, Int.add_mul, wsum_times F c Y]
    rw [Int.mul_assoc, Int.mul_comm y.2 c]
/-- and all pairs in one list -/
theorem bsum_pairs (G : K → K → Int) (Y : List (K × Int)) : ∀ X : List (K × Int), bsum G X Y = (X.flatMap fun x => Y.map fun y => G x.1 y.1 * (x.2 * y.2)).sum
  | [] => rfl
  | x :: X => by
    have ih := bsum_pairs G Y X
    unfold bsum at *
    simp only [wsum, List.flatMap_cons, List.sum_append, ih, wsum_times]
end
end Go.Proofs.YtllpfngmnccejaaGreat
namespace Go.Proofs.YtllpfngmnccejaaGreat
open Go Go.RowKit

/-- what two make that match -/
def joinP (x y : Up) : Uk × Int := (⟨[], x.row ++ y.row, x.t.sup y.t⟩, x.d * y.d)
def pairsP (a b : List Up) : List (Uk × Int) := a.flatMap fun x => (ofKey x.key b).map (joinP x)
theorem pairs_left (a a' b : List Up) : pairsP (a ++ a') b = pairsP a b ++ pairsP a' b := List.flatMap_append
theorem pairs_right (b b' : List Up) (R : Uk → Prop) : ∀ a : List Up, ∀ k, sumOf Uk.cmp (pairsP a (b ++ b')) k = sumOf Uk.cmp (pairsP a b ++ pairsP a b') k
  | [], _ => rfl
  | x :: a, k => by
    have ih := pairs_right b b' R a k
    unfold pairsP at *
    simp only [List.flatMap_cons, ofKey_append, List.map_append, sumOf_append] at ih ⊢
    omega
/-- in two parts, evened out, and together evened out -/
theorem parts_gen {P Q : List (Uk × Int)} (hP : ∀ p ∈ P, UkR p.1) (hQ : ∀ p ∈ Q, UkR p.1) (hf : resE Uk.cmp (P ++ Q) = 0) {x y z : List Up} (hx : x.map Up.p = nz Uk.cmp P) (hy : y.map Up.p = nz Uk.cmp Q) (hz : z.map Up.p = nz Uk.cmp (P ++ Q)) :
    consE [x, y] = 0 ∧ consL [x, y] = z.map Up.p := by
  have ck : ∀ {l : List (Uk × Int)} {o : List Up}, (∀ p ∈ l, UkR p.1) → o.map Up.p = nz Uk.cmp l → chkUs o = 0 := fun {l o} hl ho => chkUs_all.2 fun u hu => by
    have h : u.p ∈ nz Uk.cmp l := by rw [← ho]; exact List.mem_map_of_mem hu
    exact nz_right (R := UkR) hl _ h
  have hch : chkLs [x, y] = 0 := chkLs_all.2 fun l hl => by
    rcases List.mem_cons.1 hl with rfl | hl
    · exact ck hP hx
    · obtain rfl : l = y := by simpa using hl
      exact ck hQ hy
  have hPQ : ∀ p ∈ P ++ Q, UkR p.1 := fun p hp => (List.mem_append.1 hp).elim (hP p) (hQ p)
  have hR : ∀ p ∈ ((x ++ y).map Up.p), UkR p.1 := fun p hp => by
    rw [List.map_append, hx, hy] at hp
    rcases List.mem_append.1 hp with hp | hp
    · exact nz_right (R := UkR) hP p hp
    · exact nz_right (R := UkR) hQ p hp
  have hext := resL_ext uk_lin hR hPQ fun k => by
    rw [List.map_append, sumOf_append, hx, hy, nz_sum uk_lin, nz_sum uk_lin, sumOf_append]
  unfold consE consL
  rw [if_pos hch, if_pos hch]
  simp only [List.flatten_cons, List.flatten_nil, List.append_nil]
  rw [hext.1, hext.2, hz]
  exact ⟨hf, (resE_zero hf).1⟩
/-- what two lists make is there when both are -/
theorem lub_le {s t u : Tm} : (s.sup t).le u = (s.le u && t.le u) := by
  rw [Bool.eq_iff_iff, Bool.and_eq_true, Tm.le_iff, Tm.le_iff, Tm.le_iff]
  simp only [Tm.sup]
  omega
end Go.Proofs.YtllpfngmnccejaaGreat
namespace Go.Proofs.YtllpfngmnccejaaGreat
open Go Go.RowKit

/-- two that match make a right update, whose number fits -/
def goodP (x y : Up) : Bool := decide (x.row.length + y.row.length ≤ 8) && fits (x.d * y.d)
theorem two_rows (w : World) (A1 A2 : Option Addr) (c1 c2 : Nat) (l1 l2 : List Vl) (h1 : Vals w w.heap.size A1 l1) (h2 : Vals w w.heap.size A2 l2) :
    ∃ V, V = w.alloc (.cells #[.slice A1 l1.length c1, .slice A2 l2.length c2] 42) ∧ Below w.heap.size w V ∧ V.heap.size = w.heap.size + 1 ∧ RowsAt V V.heap.size (some ⟨w.heap.size, 0, none⟩) [l1, l2] := by
  have hb : Below w.heap.size w (w.alloc (.cells #[.slice A1 l1.length c1, .slice A2 l2.length c2] 42)) := (Below.refl _ _).alloc (Nat.le_refl _) _
  refine ⟨_, rfl, hb, by simp, fun _ => ⟨_, _, rfl, by simp, fun i l hi => ?_⟩⟩
  match i, hi with
  | 0, hi => obtain rfl : l1 = l := by simpa using hi
             exact ⟨A1, c1, by simp [go_sem], vals_keep h1 hb⟩
  | 1, hi => obtain rfl : l2 = l := by simpa using hi
             exact ⟨A2, c2, by simp [go_sem], vals_keep h2 hb⟩
theorem join_two {x y : Up} (cx : chkU x = 0) (cy : chkU y = 0) : (joinE [x.row, y.row] = if x.row.length + y.row.length ≤ 8 then 0 else 2) ∧ (x.row.length + y.row.length ≤ 8 → joinL [x.row, y.row] = x.row ++ y.row) ∧ (joinL [x.row, y.row]).length ≤ 8 ∧ (∀ v ∈ joinL [x.row, y.row], v ∈ x.row ++ y.row) := by
  have h1 : chkRow x.row = 0 := (chkK_zero cx).2.1
  have h2 : chkRow y.row = 0 := (chkK_zero cy).2.1
  have ho : okRows [x.row, y.row] = true := by unfold okRows; simp [h1, h2]
  have hl : lens [x.row, y.row] = x.row.length + y.row.length := by simp [lens]
  unfold joinE joinL
  rw [ho, hl]
  by_cases h : x.row.length + y.row.length ≤ 8
  · refine ⟨by simp [h], fun _ => by simp [h], ?_, fun v hv => ?_⟩
    · simp [h]
    · simpa [h] using hv
  · refine ⟨by simp [h], fun h' => absurd h' h, by simp [h], fun v hv => by simp [h] at hv⟩
theorem joinP_right {x y : Up} (cx : chkU x = 0) (cy : chkU y = 0) (h : x.row.length + y.row.length ≤ 8) : chkK ⟨[], x.row ++ y.row, x.t.sup y.t⟩ = 0 := by
  obtain ⟨_, r1, t1⟩ := chkK_zero cx
  obtain ⟨_, r2, t2⟩ := chkK_zero cy
  have hr : chkRow (x.row ++ y.row) = 0 := by
    have k1 : x.row.all Vl.right = true := by
      unfold chkRow at r1
      split at r1
      · rename_i h1; simp only [Bool.and_eq_true] at h1; exact h1.1
      · cases r1
    have k2 : y.row.all Vl.right = true := by
      unfold chkRow at r2
      split at r2
      · rename_i h1; simp only [Bool.and_eq_true] at h1; exact h1.1
      · cases r2
    unfold chkRow
    rw [List.all_append, k1, k2, List.length_append, decide_eq_true h]
    rfl
  have ht : chk [x.t.sup y.t] = 0 := by
    dsimp only [Up.k] at t1 t2
    unfold chk at t1 t2 ⊢
    simp only [List.all_cons, List.all_nil, Bool.and_true, Tm.right, Bool.and_eq_true, decide_eq_true_eq, Tm.sup] at t1 t2 ⊢
    have a1 : x.t.e ≤ 4611686018427387904 ∧ max x.t.a x.t.b ≤ 4611686018427387904 := by
      apply Decidable.byContradiction; intro h; rw [if_neg h] at t1; cases t1
    have a2 : y.t.e ≤ 4611686018427387904 ∧ max y.t.a y.t.b ≤ 4611686018427387904 := by
      apply Decidable.byContradiction; intro h; rw [if_neg h] at t2; cases t2
    rw [if_pos (by omega)]
  unfold chkK orI
  dsimp only
  rw [hr, ht]
  rfl
theorem er2_at {W : World} {n : Nat} {a b : Int} (hn : W.heap.size = n) (i : Nat) : (W.alloc (.cells #[.int .i64 a, .int .i64 b] 29)).cell? ⟨n, i, none⟩ = [Value.int .i64 a, Value.int .i64 b][i]? :=
  hn ▸ (Own.made W 29 [.int .i64 a, .int .i64 b]).at_ i
theorem er2_drew {W : World} {n : Nat} {a b : Int} (hn : W.heap.size = n) (i : Nat) : (W.alloc (.cells #[.int .i64 a, .int .i64 b] 29)).drew.cell? ⟨n, i, none⟩ = [Value.int .i64 a, Value.int .i64 b][i]? :=
  hn ▸ (own_drew' (Own.made W 29 [.int .i64 a, .int .i64 b])).at_ i
theorem er2_more {W : World} {n : Nat} {a b : Int} {o : Obj} (hn : W.heap.size = n) (i : Nat) : ((W.alloc (.cells #[.int .i64 a, .int .i64 b] 29)).alloc o).cell? ⟨n, i, none⟩ = [Value.int .i64 a, Value.int .i64 b][i]? :=
  hn ▸ ((Own.made W 29 [.int .i64 a, .int .i64 b]).more o).at_ i
theorem er2_mored {W : World} {n : Nat} {a b : Int} {o : Obj} (hn : W.heap.size = n) (i : Nat) : ((W.alloc (.cells #[.int .i64 a, .int .i64 b] 29)).alloc o).drew.cell? ⟨n, i, none⟩ = [Value.int .i64 a, Value.int .i64 b][i]? :=
  hn ▸ (own_drew' ((Own.made W 29 [.int .i64 a, .int .i64 b]).more o)).at_ i
def PairPost (PB : Nat) (why : Int) (v : Value) (M : List Up) (x y : Up) (w : World) (e : Ending) (w' : World) : Prop :=
  e = .returned (.tuple #[]) ∧ ∃ u t' v', (goodP x y = true → u.p = joinP x y ∧ chkU u = 0) ∧ Prod w' PB t' (if goodP x y = true then why else 10) v' (if goodP x y = true then M ++ [u] else M) ∧ PKeep w w' PB v ∧ Grew w v v'
set_option maxRecDepth 100000 in
set_option maxHeartbeats 12800000 in
theorem pair_any (PB : Nat) (t : Tm) (why : Int) (v : Value) (M : List Up) (x y : Up) (w : World) (h : Prod w PB t why v M) (hw : why = 0 ∨ why = 10) (hx : UIn w w.heap.size x) (ox : UOk x) (cx : chkU x = 0) (hy : UIn w w.heap.size y) (oy : UOk y) (cy : chkU y = 0) (hn : M.length ≤ 1099511627776) :
    Calls Tryz.prog 120 #[.pointer (some ⟨PB, 0, none⟩), x.val, y.val] w (PairPost PB why v M x y w) := by
  obtain ⟨V, hV, hg, o1, o2⟩ := two_box w x y
  have hvb : Below w.heap.size w V := hg.below
  obtain ⟨V2, hV2, hb2, hs2, hr2⟩ := two_rows V x.rA y.rA x.rc y.rc x.row y.row (hx.keep hvb).row (hy.keep hvb).row
  obtain ⟨j1, j2, j3, j4⟩ := join_two cx cy
  have y1 := Lib.hid (join_any (some ⟨V.heap.size, 0, none⟩) 2 [x.row, y.row] V2 hr2 (by simp) (by
    intro l hl
    simp only [List.mem_cons, List.not_mem_nil, or_false] at hl
    rcases hl with rfl | rfl
    · exact maxn ox.rn
    · exact maxn oy.rn) (by
    intro l hl
    simp only [List.mem_cons, List.not_mem_nil, or_false] at hl
    rcases hl with rfl | rfl
    · exact ox.rs
    · exact oy.rs))
  unfold JoinPost at y1
  have y2 := fun W => Lib.hid (dtimes_any x.d y.d W ox.dn.1 ox.dn.2 oy.dn.1 oy.dn.2)
  have y4 := fun A W h => Lib.hid (lub_any A 2 [x.t, y.t] W h (by simp) (by unfold maxLen; omega))
  have y5 := fun W g a b h1 h2 => Lib.hid (orE2_any g a b W h1 h2)
  unfold Tm.val at y4
  have hVs : V.heap.size = w.heap.size + 2 := by rw [hV]; simp
  have hP2 := h.quiet (belows hvb hb2)
  have hPw := h.own.inside
  have hjl : ([x.row, y.row] : List (List Vl)).length = 2 := rfl
  have hgood : goodP x y = (decide (x.row.length + y.row.length ≤ 8) && fits (x.d * y.d)) := rfl
  have hvin : ∀ k, v.ownBlock = some k → k < w.heap.size := fun k hk => (h.later k hk).2
  have HU := Lib.hid (And.intro h (And.intro hx (And.intro hy (And.intro ox (And.intro oy (And.intro cx cy))))))
  obtain ⟨R, hR⟩ : ∃ R, joinL [x.row, y.row] = R := ⟨_, rfl⟩
  obtain ⟨E1, hE1⟩ : ∃ E, joinE [x.row, y.row] = E := ⟨_, rfl⟩
  obtain ⟨N, hN⟩ : ∃ N, fitN (x.d * y.d) = N := ⟨_, rfl⟩
  obtain ⟨E2, hE2⟩ : ∃ E, fitE (x.d * y.d) = E := ⟨_, rfl⟩
  obtain ⟨s, hs⟩ : ∃ s, lub [x.t, y.t] = s := ⟨_, rfl⟩
  rw [hR, hE1] at y1
  rw [hN, hE2] at y2
  rw [hs] at y4
  rw [hR] at j2 j3 j4
  rw [hE1] at j1
  have hss : s = x.t.sup y.t := hs.symm
  have hNb : -9223372036854775808 ≤ N ∧ N ≤ 9223372036854775807 := by rw [← hN]; exact fitN_in _
  have hEE : (orI E1 E2 = 0 ↔ goodP x y = true) ∧ (goodP x y = true → N = x.d * y.d ∧ R = x.row ++ y.row ∧ x.row.length + y.row.length ≤ 8) := by
    rw [hgood, Bool.and_eq_true, decide_eq_true_eq]
    rw [← hE2, ← hN, j1]
    unfold orI fitE fitN
    by_cases h1 : x.row.length + y.row.length ≤ 8
    · by_cases h2 : fits (x.d * y.d) = true
      · simp [h1, h2, j2 h1]
      · simp [h1, h2]
    · simp [h1]
  have HE := Lib.hid (And.intro hEE (And.intro hNb (And.intro hss (And.intro j3 (fun q hq => j4 q hq)))))
  have HB := Lib.hid (And.intro hvb (And.intro o1 (And.intro o2 (And.intro hb2 (And.intro hP2 (And.intro hPw (And.intro hvin (And.intro hVs hs2))))))))
  obtain ⟨a0, a1, a2, a3, a4, a5⟩ := own6 o1
  obtain ⟨b0, b1, b2, b3, b4, b5⟩ := own6 o2
  rw [show x.val = .agg #[.slice x.kA x.key.length x.kc, .slice x.rA x.row.length x.rc, .int .u64 (x.t.e : Int), .int .u64 (x.t.a : Int), .int .u64 (x.t.b : Int), .int .i64 x.d] from rfl, show y.val = .agg #[.slice y.kA y.key.length y.kc, .slice y.rA y.row.length y.rc, .int .u64 (y.t.e : Int), .int .u64 (y.t.a : Int), .int .u64 (y.t.b : Int), .int .i64 y.d] from rfl]
  clear h hx hy ox oy cx cy hg o1 o2 hvb hb2 hs2 hr2 j1 j2 j3 j4 hP2 hR hE1 hN hE2 hs hNb hEE hgood hvin hss hVs hjl hPw
  go_enter Tryz.func120, Tryz.ntmps120
  go_upto_region 1 with fail
  rw [← hV]
  clear hV
  go_wp2_with fail
  rw [← hV2]
  clear hV2
  refine y1.out.mono ?_
  rintro _ w1 ⟨v1, rfl, ho1, c1⟩
  have hbw1 : Below V.heap.size V w1 := belows HB.out.2.2.2.1 c1
  have p1 := HB.out.2.1.past hbw1 HB.out.2.1.inside
  have p2 := HB.out.2.2.1.past hbw1 HB.out.2.2.1.inside
  have H1 := Lib.hid (And.intro ho1 (And.intro c1 (And.intro p1 p2)))
  clear a0 a1 a2 a3 a4 a5 b0 b1 b2 b3 b4 b5 ho1 c1 hbw1
  obtain ⟨a0, a1, a2, a3, a4, a5⟩ := own6 p1
  obtain ⟨b0, b1, b2, b3, b4, b5⟩ := own6 p2
  clear p1 p2
  go_upto_region 2 with fail
  go_wp2_with fail
  refine (y2 _).out.mono ?_
  rintro _ w3 ⟨rfl, c3⟩
  obtain ⟨AR, cR, rfl, hcR, hmR, hRv⟩ := vals_of_own rfl (own_below H1.out.1 c3)
  have hlt := fun b o (e : AR = some ⟨b, o, none⟩) => (own_below H1.out.1 c3).lt b (by rw [e]; rfl)
  have p1 := H1.out.2.2.1.past c3 H1.out.2.2.1.inside
  have p2 := H1.out.2.2.2.past c3 H1.out.2.2.2.inside
  have hP3 := HB.out.2.2.2.2.1.quiet (belows H1.out.2.1 c3)
  have huin : UIn w3 w3.heap.size ⟨none, 0, [], AR, cR, R, s, N⟩ := ⟨Vals.nil_, hRv⟩
  have huok : UOk ⟨none, 0, [], AR, cR, R, s, N⟩ := ⟨Nat.zero_le _, Nat.le_trans HE.out.2.2.2.1 (by decide), (fun q hq => by cases hq), fun q hq => by
    rcases List.mem_append.1 (HE.out.2.2.2.2 q hq) with h | h
    · exact HU.out.2.2.2.1.rs q h
    · exact HU.out.2.2.2.2.1.rs q h, HE.out.2.1⟩
  have huaw : Aw PB v ⟨none, 0, [], AR, cR, R, s, N⟩ := ⟨fun hp => by simp at hp, fun _ b o e => by
    have h1 := (hlt b o e).1
    have h2 := HB.out.2.2.2.2.2.1
    have h3 := HB.out.2.2.2.2.2.2.2
    refine ⟨by omega, fun e' => ?_⟩
    have := HB.out.2.2.2.2.2.2.1 b e'
    omega⟩
  have hb03 : Below w.heap.size w w3 := belows (belows (belows HB.out.1 HB.out.2.2.2.1) H1.out.2.1) c3
  have hsix : ∀ W, Own W w.heap.size 48 x.cells → Own W (w.heap.size + 1) 48 y.cells → (W.cell? ⟨w.heap.size, 2, none⟩ = some (.int .u64 (x.t.e : Int)) ∧ W.cell? ⟨w.heap.size, 3, none⟩ = some (.int .u64 (x.t.a : Int)) ∧ W.cell? ⟨w.heap.size, 4, none⟩ = some (.int .u64 (x.t.b : Int)) ∧ W.cell? ⟨w.heap.size + 1, 2, none⟩ = some (.int .u64 (y.t.e : Int)) ∧ W.cell? ⟨w.heap.size + 1, 3, none⟩ = some (.int .u64 (y.t.a : Int)) ∧ W.cell? ⟨w.heap.size + 1, 4, none⟩ = some (.int .u64 (y.t.b : Int))) := fun W k1 k2 => ⟨k1.at_ 2, k1.at_ 3, k1.at_ 4, k2.at_ 2, k2.at_ 3, k2.at_ 4⟩
  have hP0 := HB.out.2.2.2.2.2.1
  have hv0 := HB.out.2.2.2.2.2.2.1
  have y6 : ∀ W, Bl w3 W → Hid (Calls Tryz.prog 65 #[.pointer (some ⟨PB, 0, none⟩), .agg #[.slice none 0 0, .slice AR R.length cR, .int .u64 (s.e : Int), .int .u64 (s.a : Int), .int .u64 (s.b : Int), .int .i64 N], .int .i64 (orI E1 E2)] W fun e w' => e = .returned (.tuple #[]) ∧ ∃ t' v', Prod w' PB t' (if orI E1 E2 = 0 then why else 10) v' (if orI E1 E2 = 0 then M ++ [⟨none, 0, [], AR, cR, R, s, N⟩] else M) ∧ PKeep w w' PB v ∧ Grew w v v' ∧ (w'.cell? ⟨w.heap.size, 2, none⟩ = some (.int .u64 (x.t.e : Int)) ∧ w'.cell? ⟨w.heap.size, 3, none⟩ = some (.int .u64 (x.t.a : Int)) ∧ w'.cell? ⟨w.heap.size, 4, none⟩ = some (.int .u64 (x.t.b : Int)) ∧ w'.cell? ⟨w.heap.size + 1, 2, none⟩ = some (.int .u64 (y.t.e : Int)) ∧ w'.cell? ⟨w.heap.size + 1, 3, none⟩ = some (.int .u64 (y.t.a : Int)) ∧ w'.cell? ⟨w.heap.size + 1, 4, none⟩ = some (.int .u64 (y.t.b : Int)))) := fun W hW =>
    Lib.hid ((produce_any PB t why v M ⟨none, 0, [], AR, cR, R, s, N⟩ (orI E1 E2) W (hP3.quiet hW.below) hw (huin.keep hW.below) huok huaw hn).mono fun e w' ⟨h1, t', v', h2, h3, h4⟩ => ⟨h1, t', v', h2, PKeep.after (belows hb03 hW.below) h3, h4.later (belows hb03 hW.below).size, hsix w' ((h3.block _ (p1.past hW.below p1.inside).inside (by omega) (fun e => by have := hv0 _ e; omega)).trans (p1.past hW.below p1.inside)) ((h3.block _ (p2.past hW.below p2.inside).inside (by omega) (fun e => by have := hv0 _ e; omega)).trans (p2.past hW.below p2.inside))⟩)
  have HS := Lib.hid (fun W (h : Bl w3 W) => hsix W (p1.past h.below p1.inside) (p2.past h.below p2.inside))
  have hself := Bl.refl w3
  clear a0 a1 a2 a3 a4 a5 b0 b1 b2 b3 b4 b5 y1 y2 hcR hmR hRv hlt hP3 huin huok huaw c3 hb03 hsix hP0 hv0
  obtain ⟨_, _, a2, a3, a4, _⟩ := own6 p1
  obtain ⟨_, _, b2, b3, b4, _⟩ := own6 p2
  clear p1 p2
  go_upto_region 3 with fail
  go_region_held3 (fun w' => w'.cell? ⟨w.heap.size, 2, none⟩ = some (.int .u64 (x.t.e : Int)) ∧ w'.cell? ⟨w.heap.size, 3, none⟩ = some (.int .u64 (x.t.a : Int)) ∧ w'.cell? ⟨w.heap.size, 4, none⟩ = some (.int .u64 (x.t.b : Int)) ∧ w'.cell? ⟨w.heap.size + 1, 2, none⟩ = some (.int .u64 (y.t.e : Int)) ∧ w'.cell? ⟨w.heap.size + 1, 3, none⟩ = some (.int .u64 (y.t.a : Int)) ∧ w'.cell? ⟨w.heap.size + 1, 4, none⟩ = some (.int .u64 (y.t.b : Int)))
    ((first | exact hS6 | (refine HS.out _ ?_; repeat (first | with_reducible exact hb4 | with_reducible exact hself | with_reducible refine Bl.more ?_ _ | with_reducible refine Bl.drew ?_))))
    (first
      | (go_at_call 136; refine (y4 _ _ ?_).out.mono ?_; (first | exact times_here (times_two' _ _ (by simp)) (by simp) | exact times_later (times_two' _ _ (by simp)) (by simp)); rintro _ w4 ⟨rfl, k4⟩; have hb4 : Bl w3 w4 := Bl.call (by repeat (first | with_reducible exact hself | with_reducible refine Bl.more ?_ _ | with_reducible refine Bl.drew ?_)) k4; obtain ⟨hcc, hff⟩ := olds k4)
      | (go_at_call 65; refine (y6 _ (by repeat (first | with_reducible exact hb4 | with_reducible exact hself | with_reducible refine Bl.more ?_ _ | with_reducible refine Bl.drew ?_))).out.mono ?_; rintro _ w6 ⟨rfl, t6, v6, hp6, hk6, hg6, hS6⟩; have HF := Lib.hid (And.intro hp6 (And.intro hk6 hg6)); clear hp6 hk6 hg6)
      | (go_at_call 58; refine (y5 _ _ E1 E2 ?_ ?_).out.mono ?_; (first | exact er2_at (by simp) 0 | exact (hcc _ _ (by simp <;> omega)).trans (er2_at (by simp) 0) | exact (hcc _ _ (by simp <;> omega)).trans (er2_drew (by simp) 0) | exact (hcc _ _ (by simp <;> omega)).trans (er2_more (by simp) 0) | exact (hcc _ _ (by simp <;> omega)).trans (er2_mored (by simp) 0)); (first | exact er2_at (by simp) 1 | exact (hcc _ _ (by simp <;> omega)).trans (er2_at (by simp) 1) | exact (hcc _ _ (by simp <;> omega)).trans (er2_drew (by simp) 1) | exact (hcc _ _ (by simp <;> omega)).trans (er2_more (by simp) 1) | exact (hcc _ _ (by simp <;> omega)).trans (er2_mored (by simp) 1)); rintro _ w5 ⟨rfl, rfl⟩))
  all_goals
    go_wp2_with fail
    refine bodyPost_end (results_none rfl _ _ _) rfl ⟨rfl, ⟨none, 0, [], AR, cR, R, s, N⟩, t6, v6, fun hgd => ?_, ?_, HF.out.2.1, HF.out.2.2⟩
    · obtain ⟨k1, k2, k3⟩ := HE.out.1.2 hgd
      refine ⟨?_, ?_⟩
      · unfold joinP Up.p Up.k
        dsimp only
        rw [k1, k2, HE.out.2.2.1]
      · unfold chkU Up.k
        dsimp only
        rw [k2, HE.out.2.2.1]
        exact joinP_right HU.out.2.2.2.2.2.1 HU.out.2.2.2.2.2.2 k3
    · have h6 := HF.out.1
      by_cases hz : orI E1 E2 = 0
      · rw [if_pos (HE.out.1.1.1 hz), if_pos (HE.out.1.1.1 hz)]
        rwa [if_pos hz, if_pos hz] at h6
      · rw [if_neg (fun e => hz (HE.out.1.1.2 e)), if_neg (fun e => hz (HE.out.1.1.2 e))]
        rwa [if_neg hz, if_neg hz] at h6
end Go.Proofs.YtllpfngmnccejaaGreat
namespace Go.Proofs.YtllpfngmnccejaaGreat
open Go Go.RowKit

theorem lies_newsJ {α : Type} {size : Nat} {cells : α → List Value} {w : World} {B : Nat} {ad : Addr} {l : List α} (hpos : 0 < size) (hcl : ∀ x, (cells x).length = size) (h : Lies size cells w B (some ad) l) : ∀ j u, (l.flatMap cells)[j]? = some u → w.cell? (ad.add j) = some u := by
  intro j u hu
  obtain ⟨i, r, y, rfl, hi, hr⟩ := flat_back hpos hcl l j u hu
  have hp : 0 < l.length := by have := (List.getElem?_eq_some_iff.1 hi).1; omega
  obtain ⟨b, o, e, _, hc⟩ := h hp
  obtain rfl : ad = ⟨b, o, none⟩ := by injection e
  have ea : (⟨b, o, none⟩ : Addr).add (i * size + r) = ⟨b, o + i * size + r, none⟩ := by unfold Addr.add; split <;> simp_all <;> omega
  rw [ea]
  exact hc i y hi r u hr
theorem row_sliceJ {w : World} {base n : Nat} {e : TypeId} {v : Value} {l : List Up} (hn : n = l.length) (h : w.ownsRow base e 6 v n (l.flatMap Up.cells)) : ∃ A c, v = .slice A n c := by
  subst hn
  obtain ⟨A, c, e, _⟩ := lies_of_own (size := 6) (cells := Up.cells) (by decide) ucells_len rfl h
  exact ⟨A, c, e⟩
set_option maxRecDepth 100000 in
set_option maxHeartbeats 800000 in
theorem cloneU_any (A : Option Addr) (c : Nat) (l : List Up) (w : World) (hl : Lies 6 Up.cells w w.heap.size A l) (hn : l.length ≤ 1099511627776) :
    Calls Tryz.prog 116 #[.slice A l.length c] w fun e w' => ∃ A' c', e = .returned (.slice A' l.length c') ∧ w'.ownsRow w.heap.size 48 6 (.slice A' l.length c') l.length (l.flatMap Up.cells) ∧ Below w.heap.size w w' := by
  have q26 := fun (w : World) (a : Option Addr) (n c n' c' : Nat) => Lib.run_eql_slice_nil (P := Tryz.prog) w _ _ a n c n' c' Tryz.underlying22
  have hU := Tryz.underlying22
  obtain ⟨i0, hi, hz0, hz1, hz2⟩ := info_parts infoUp
  cases A with
  | none =>
    have h0 : l = [] := by
      cases l with
      | nil => rfl
      | cons x l => obtain ⟨_, _, e, _⟩ := hl (by simp); cases e
    subst h0
    clear hl
    go_enter Tryz.func116, Tryz.ntmps116
    go_wp2_with fail
    go_ret
    exact ⟨none, 0, rfl, World.ownsRow_nil _ _ _ _, Below.refl _ _⟩
  | some ad =>
    have HN := Lib.hid (lies_newsJ (size := 6) (cells := Up.cells) (by decide) (fun _ => rfl) hl)
    have hone : ∀ u ∈ l.flatMap Up.cells, u.oneCell' = true := fun u hu => by obtain ⟨x, _, hx⟩ := List.mem_flatMap.1 hu; exact ucells_one x u hx
    have hlen : (l.flatMap Up.cells).length = l.length * 6 := flat_size (size := 6) (cells := Up.cells) (fun _ => rfl) l
    have HO := Lib.hid (And.intro hone hlen)
    clear hl hone hlen
    go_enter Tryz.func116, Tryz.ntmps116
    go_wp2_with (at_builtin; refine wpList_append_own_at _ rfl _ _ 22 rfl w.heap.size 48 i0 _ 6 80 hU hi hz0 hz1 hz2 rfl (by decide) _ _ _ rfl (World.ownsRow_made w #[] 0 (Nat.le_refl _) (Nat.zero_le _) rfl) ad l.length c (l.flatMap Up.cells) rfl ?c1 ?c2 ?c3 ?c4 ?c5 ?c6 ?_)
    case c1 => exact HO.out.2
    case c2 => exact fun j u hu => (World.cell?_alloc_some _ _ _ (by rw [HN.out j u hu]; rfl)).trans (HN.out j u hu)
    case c3 => exact HO.out.1
    case c4 => unfold maxLen; omega
    case c5 => omega
    case c6 => simp
    intro v' w' ho' hg' _ _
    have hb : Below w.heap.size w w' := ((Below.refl _ _).alloc (Nat.le_refl _) _).grown hg' (by simp) (by simp [Value.ownBlock])
    obtain ⟨A', c', rfl⟩ := row_sliceJ rfl ho'
    have HX := Lib.hid (And.intro ho' hb)
    clear ho' hg' hb
    go_wp2
    go_ret
    exact ⟨A', c', rfl, HX.out.1, HX.out.2⟩
end Go.Proofs.YtllpfngmnccejaaGreat
namespace Go.Proofs.YtllpfngmnccejaaGreat
open Go Go.RowKit Go.Sort Go.Lib Go.Shelf

/-- the rows of an update lie in another block than g -/
def Off (g : Nat) (u : Up) : Prop := Awn (fun b => b ≠ g) u
theorem Off.aw {g : Nat} {u : Up} (h : Off g u) : Aw g (.slice none 0 0) u := h.imp fun b hb => ⟨hb, by simp [Value.ownBlock]⟩
set_option maxRecDepth 100000 in
set_option maxHeartbeats 3200000 in
theorem sortP_any (g cap : Nat) (l : List Up) (w : World) (hrow : RowOf Up.cells 6 w g l) (hg : g < w.heap.size) (hin : ∀ u ∈ l, UIn w w.heap.size u ∧ UOk u ∧ Off g u) (hpos : 0 < l.length) (hn : l.length < 4611686018427387904) :
    Calls Tryz.prog 114 #[.slice (some ⟨g, 0, none⟩) l.length cap, .func (.func 25) #[] #[]] w fun e w' => e = .returned (.tuple #[]) ∧ ∃ l' : List Up, l'.Perm l ∧ l'.Pairwise (fun x y => x.k.cmp y.k ≤ 0) ∧ RowOf Up.cells 6 w' g l' ∧ RowKit.Below g w w' ∧ ∀ b, b ≠ g → b < w.heap.size → w'.heap[b]? = w.heap[b]? := by
  obtain ⟨m, rfl⟩ := map_pick (p := fun x : Up => UIn w w.heap.size x ∧ UOk x ∧ Off g x) l fun x hx => hin x hx
  have eg : ∀ args w, (callFunc 25 args).run Tryz.prog w = .ok (.enter 25 args) w := enters_of Tryz.func25 (by kernel_rfl) rfl
  have hlen : (m.map (·.1)).length = m.length := List.length_map ..
  letI : Inhabited {x : Up // UIn w w.heap.size x ∧ UOk x ∧ Off g x} := ⟨m[0]'(by rw [hlen] at hpos; exact hpos)⟩
  have hcon := sort_gen (α := {x : Up // UIn w w.heap.size x ∧ UOk x ∧ Off g x}) Tryz.sortP 6 Tryz.isAgg48 Tryz.sizeOf48 (fun x => Up.cells x.1) (fun _ => rfl) (by decide) (fun x => ucells_one x.1)
    (fun x y => x.1.k.cmp y.1.k) (swo_lin uk_lin fun x : {x : Up // UIn w w.heap.size x ∧ UOk x ∧ Off g x} => x.1.k) 25 #[] g cap m w eg
    (fun mm os dk _ x y => by
      have hb := sortWorld_below (enc := fun x : {x : Up // UIn w w.heap.size x ∧ UOk x ∧ Off g x} => Up.cells x.1) (k := 6) (off := 0) (m := mm) (dk := dk) (os := os) (Nat.le_refl g) hg
      have hpk : PKeep w (sortWorldK (fun x : {x : Up // UIn w w.heap.size x ∧ UOk x ∧ Off g x} => Up.cells x.1) 6 w g 0 mm dk os) g (.slice none 0 0) := ⟨hb.os, hb.tape, hb.output, hb.size, fun k hk h1 _ => sortWorld_other h1 hk⟩
      exact dcompare_gr x.1 y.1 _ (uin_pk x.2.1 x.2.2.2.aw hpk) (uin_pk y.2.1 y.2.2.2.aw hpk) x.2.2.1 y.2.2.1)
    (fun i x hx j v hv => hrow i x.1 (by rw [List.getElem?_map, hx]; rfl) j v hv) hg (by rw [hlen] at hn; exact hn)
  change Calls Tryz.prog 114 _ _ _ at hcon
  rw [hlen]
  refine hcon.mono ?_
  rintro e w' ⟨rfl, l', hp, hs, hr, hb, ho⟩
  refine ⟨rfl, l'.map (·.1), hp.map _, ?_, fun i x hx j v hv => ?_, hb, ho⟩
  · rw [List.pairwise_map]
    exact hs.imp fun {a b} h => by
      have := uk_lin.swap a.1.k b.1.k
      omega
  · rw [List.getElem?_map] at hx
    obtain ⟨y, hy, rfl⟩ := Option.map_eq_some_iff.1 hx
    exact hr i y hy j v hv
theorem sortP_all (v : Value) (n base : Nat) (l : List Up) (w : World) (hnl : n = l.length) (h : w.ownsRow base 48 6 v n (l.flatMap Up.cells)) (hin : ∀ u ∈ l, UIn w w.heap.size u ∧ UOk u ∧ Awn (fun b => v.ownBlock ≠ some b) u) (hn : l.length < 4611686018427387904) :
    ∃ A c, v = .slice A n c ∧ n ≤ c ∧ c ≤ maxLen ∧ Calls Tryz.prog 114 #[.slice A n c, .func (.func 25) #[] #[]] w fun e w' => e = .returned (.tuple #[]) ∧ ∃ l' : List Up, l'.Perm l ∧ l'.Pairwise (fun x y => x.k.cmp y.k ≤ 0) ∧ Lies 6 Up.cells w' w'.heap.size A l' ∧ (∀ b o, A = some ⟨b, o, none⟩ → v.ownBlock = some b) ∧ ∀ PB, PKeep w w' PB v := by
  subst hnl
  by_cases h0 : l.length = 0
  · obtain rfl : l = [] := List.eq_nil_of_length_eq_zero h0
    have key : ∀ A c, (∀ b o, A = some ⟨b, o, none⟩ → v.ownBlock = some b) → Calls Tryz.prog 114 #[.slice A 0 c, .func (.func 25) #[] #[]] w fun e w' => e = .returned (.tuple #[]) ∧ ∃ l' : List Up, l'.Perm [] ∧ l'.Pairwise (fun x y => x.k.cmp y.k ≤ 0) ∧ Lies 6 Up.cells w' w'.heap.size A l' ∧ (∀ b o, A = some ⟨b, o, none⟩ → v.ownBlock = some b) ∧ ∀ PB, PKeep w w' PB v := fun A c hA =>
      (AnyF.slices_SortFunc_none Tryz.sortP A c _ w).mono fun e w' ⟨he, hw⟩ => ⟨he, [], List.Perm.refl _, List.Pairwise.nil, Lies.nil_, hA, fun PB => hw ▸ PKeep.refl⟩
    rcases h.2 with ⟨rfl, _⟩ | ⟨g, cap, cur, rfl, _, _, h1, h2, _⟩
    · exact ⟨_, _, rfl, Nat.le_refl _, Nat.zero_le _, key _ _ fun b o e => by cases e⟩
    · refine ⟨_, _, rfl, h1, h2, key _ _ fun b o e => ?_⟩
      simp only [Option.some.injEq, Addr.mk.injEq, and_true] at e
      obtain ⟨rfl, _⟩ := e
      rfl
  · rcases h.2 with ⟨_, hz⟩ | ⟨g, cap, cur, rfl, hb, hheap, h1, h2, _⟩
    · exact absurd hz h0
    · have hg : g < w.heap.size := (Array.getElem?_eq_some_iff.1 hheap).1
      have hrow : RowOf Up.cells 6 w g l := fun i x hx j u hj => by
        have hf := flat_of (cells := Up.cells) (size := 6) (fun _ => rfl) l i j x u hx hj
        have hlt : i * 6 + j < l.length * 6 := by have := (List.getElem?_eq_some_iff.1 hf).1; rwa [flat_size (cells := Up.cells) (size := 6) (fun _ => rfl)] at this
        exact ⟨by rw [h.cellAt _ hlt]; exact hf, h.frozenAt _⟩
      refine ⟨_, _, rfl, h1, h2, (sortP_any g cap l w hrow hg (fun u hu => ⟨(hin u hu).1, (hin u hu).2.1, (hin u hu).2.2.imp fun b hbo e => hbo (by rw [e]; rfl)⟩) (by omega) hn).mono ?_⟩
      rintro e w' ⟨he, l', hp, hs, hr, hbe, ho⟩
      refine ⟨he, l', hp, hs, fun _ => ⟨g, 0, rfl, Nat.lt_of_lt_of_le hg hbe.size, fun i x hx j u hj => ?_⟩, fun b o e => ?_, fun PB => ⟨hbe.os, hbe.tape, hbe.output, hbe.size, fun k hk _ hne => ho k (fun e => hne (by rw [e]; rfl)) hk⟩⟩
      · rw [Nat.zero_add]
        exact (hr i x hx j u hj).1
      · simp only [Option.some.injEq, Addr.mk.injEq, and_true] at e
        obtain ⟨rfl, _⟩ := e
        rfl
end Go.Proofs.YtllpfngmnccejaaGreat
namespace Go.Proofs.YtllpfngmnccejaaGreat
open Go Go.RowKit Go.Sort Go.Lib Go.Shelf

set_option maxRecDepth 100000 in
set_option maxHeartbeats 3200000 in
theorem bykey_gr (a b : Up) (w : World) (ha : UIn w w.heap.size a) (hb : UIn w w.heap.size b) (oa : UOk a) (ob : UOk b) :
    Calls Tryz.prog 117 #[a.val, b.val] w fun e w' => e = .returned (.int .i64 (cmpRows a.key b.key)) ∧ Gr w w' := by
  have y1 := fun W h1 h2 => Lib.hid (rows_gr a.kA b.kA a.kc b.kc a.key b.key W h1 h2 (maxn oa.kn) (maxn ob.kn))
  obtain ⟨W, hW, hg, o1, o2⟩ := two_box w a b
  have HB := Lib.hid (And.intro hg (And.intro (ha.keep hg.below) (hb.keep hg.below)))
  obtain ⟨a0, a1, a2, a3, a4, a5⟩ := own6 o1
  obtain ⟨b0, b1, b2, b3, b4, b5⟩ := own6 o2
  generalize cmpRows a.key b.key = x at *
  unfold Up.val
  clear ha hb oa ob hg o1 o2
  go_enter Tryz.func117, Tryz.ntmps117
  go_upto_region 1 with fail
  rw [← hW]
  clear hW
  go_wp2_with fail
  refine (y1 _ HB.out.2.1.key HB.out.2.2.key).out.mono ?_
  rintro _ w1 ⟨rfl, g1⟩
  have H1 := Lib.hid (HB.out.1.trans g1)
  clear g1
  go_wp2_with fail
  go_ret
  exact ⟨rfl, H1.out⟩
set_option maxRecDepth 100000 in
set_option maxHeartbeats 3200000 in
theorem sortK_any (g cap : Nat) (l : List Up) (w : World) (hrow : RowOf Up.cells 6 w g l) (hg : g < w.heap.size) (hin : ∀ u ∈ l, UIn w w.heap.size u ∧ UOk u ∧ Off g u) (hpos : 0 < l.length) (hn : l.length < 4611686018427387904) :
    Calls Tryz.prog 114 #[.slice (some ⟨g, 0, none⟩) l.length cap, .func (.func 117) #[] #[]] w fun e w' => e = .returned (.tuple #[]) ∧ ∃ l' : List Up, l'.Perm l ∧ l'.Pairwise (fun x y => cmpRows x.key y.key ≤ 0) ∧ RowOf Up.cells 6 w' g l' ∧ RowKit.Below g w w' ∧ ∀ b, b ≠ g → b < w.heap.size → w'.heap[b]? = w.heap[b]? := by
  obtain ⟨m, rfl⟩ := map_pick (p := fun x : Up => UIn w w.heap.size x ∧ UOk x ∧ Off g x) l fun x hx => hin x hx
  have eg : ∀ args w, (callFunc 117 args).run Tryz.prog w = .ok (.enter 117 args) w := enters_of Tryz.func117 (by kernel_rfl) rfl
  have hlen : (m.map (·.1)).length = m.length := List.length_map ..
  letI : Inhabited {x : Up // UIn w w.heap.size x ∧ UOk x ∧ Off g x} := ⟨m[0]'(by rw [hlen] at hpos; exact hpos)⟩
  have hcon := sort_gen (α := {x : Up // UIn w w.heap.size x ∧ UOk x ∧ Off g x}) Tryz.sortP 6 Tryz.isAgg48 Tryz.sizeOf48 (fun x => Up.cells x.1) (fun _ => rfl) (by decide) (fun x => ucells_one x.1)
    (fun x y => cmpRows x.1.key y.1.key) (swo_lin row_lin fun x : {x : Up // UIn w w.heap.size x ∧ UOk x ∧ Off g x} => x.1.key) 117 #[] g cap m w eg
    (fun mm os dk _ x y => by
      have hb := sortWorld_below (enc := fun x : {x : Up // UIn w w.heap.size x ∧ UOk x ∧ Off g x} => Up.cells x.1) (k := 6) (off := 0) (m := mm) (dk := dk) (os := os) (Nat.le_refl g) hg
      have hpk : PKeep w (sortWorldK (fun x : {x : Up // UIn w w.heap.size x ∧ UOk x ∧ Off g x} => Up.cells x.1) 6 w g 0 mm dk os) g (.slice none 0 0) := ⟨hb.os, hb.tape, hb.output, hb.size, fun k hk h1 _ => sortWorld_other h1 hk⟩
      exact bykey_gr x.1 y.1 _ (uin_pk x.2.1 x.2.2.2.aw hpk) (uin_pk y.2.1 y.2.2.2.aw hpk) x.2.2.1 y.2.2.1)
    (fun i x hx j v hv => hrow i x.1 (by rw [List.getElem?_map, hx]; rfl) j v hv) hg (by rw [hlen] at hn; exact hn)
  change Calls Tryz.prog 114 _ _ _ at hcon
  rw [hlen]
  refine hcon.mono ?_
  rintro e w' ⟨rfl, l', hp, hs, hr, hb, ho⟩
  refine ⟨rfl, l'.map (·.1), hp.map _, ?_, fun i x hx j v hv => ?_, hb, ho⟩
  · rw [List.pairwise_map]
    exact hs.imp fun {a b} h => by
      have := row_lin.swap a.1.key b.1.key
      omega
  · rw [List.getElem?_map] at hx
    obtain ⟨y, hy, rfl⟩ := Option.map_eq_some_iff.1 hx
    exact hr i y hy j v hv
theorem sortK_all (v : Value) (n base : Nat) (l : List Up) (w : World) (hnl : n = l.length) (h : w.ownsRow base 48 6 v n (l.flatMap Up.cells)) (hin : ∀ u ∈ l, UIn w w.heap.size u ∧ UOk u ∧ Awn (fun b => v.ownBlock ≠ some b) u) (hn : l.length < 4611686018427387904) :
    ∃ A c, v = .slice A n c ∧ n ≤ c ∧ c ≤ maxLen ∧ Calls Tryz.prog 114 #[.slice A n c, .func (.func 117) #[] #[]] w fun e w' => e = .returned (.tuple #[]) ∧ ∃ l' : List Up, l'.Perm l ∧ l'.Pairwise (fun x y => cmpRows x.key y.key ≤ 0) ∧ Lies 6 Up.cells w' w'.heap.size A l' ∧ (∀ b o, A = some ⟨b, o, none⟩ → v.ownBlock = some b) ∧ ∀ PB, PKeep w w' PB v := by
  subst hnl
  by_cases h0 : l.length = 0
  · obtain rfl : l = [] := List.eq_nil_of_length_eq_zero h0
    have key : ∀ A c, (∀ b o, A = some ⟨b, o, none⟩ → v.ownBlock = some b) → Calls Tryz.prog 114 #[.slice A 0 c, .func (.func 117) #[] #[]] w fun e w' => e = .returned (.tuple #[]) ∧ ∃ l' : List Up, l'.Perm [] ∧ l'.Pairwise (fun x y => cmpRows x.key y.key ≤ 0) ∧ Lies 6 Up.cells w' w'.heap.size A l' ∧ (∀ b o, A = some ⟨b, o, none⟩ → v.ownBlock = some b) ∧ ∀ PB, PKeep w w' PB v := fun A c hA =>
      (AnyF.slices_SortFunc_none Tryz.sortP A c _ w).mono fun e w' ⟨he, hw⟩ => ⟨he, [], List.Perm.refl _, List.Pairwise.nil, Lies.nil_, hA, fun PB => hw ▸ PKeep.refl⟩
    rcases h.2 with ⟨rfl, _⟩ | ⟨g, cap, cur, rfl, _, _, h1, h2, _⟩
    · exact ⟨_, _, rfl, Nat.le_refl _, Nat.zero_le _, key _ _ fun b o e => by cases e⟩
    · refine ⟨_, _, rfl, h1, h2, key _ _ fun b o e => ?_⟩
      simp only [Option.some.injEq, Addr.mk.injEq, and_true] at e
      obtain ⟨rfl, _⟩ := e
      rfl
  · rcases h.2 with ⟨_, hz⟩ | ⟨g, cap, cur, rfl, hb, hheap, h1, h2, _⟩
    · exact absurd hz h0
    · have hg : g < w.heap.size := (Array.getElem?_eq_some_iff.1 hheap).1
      have hrow : RowOf Up.cells 6 w g l := fun i x hx j u hj => by
        have hf := flat_of (cells := Up.cells) (size := 6) (fun _ => rfl) l i j x u hx hj
        have hlt : i * 6 + j < l.length * 6 := by have := (List.getElem?_eq_some_iff.1 hf).1; rwa [flat_size (cells := Up.cells) (size := 6) (fun _ => rfl)] at this
        exact ⟨by rw [h.cellAt _ hlt]; exact hf, h.frozenAt _⟩
      refine ⟨_, _, rfl, h1, h2, (sortK_any g cap l w hrow hg (fun u hu => ⟨(hin u hu).1, (hin u hu).2.1, (hin u hu).2.2.imp fun b hbo e => hbo (by rw [e]; rfl)⟩) (by omega) hn).mono ?_⟩
      rintro e w' ⟨he, l', hp, hs, hr, hbe, ho⟩
      refine ⟨he, l', hp, hs, fun _ => ⟨g, 0, rfl, Nat.lt_of_lt_of_le hg hbe.size, fun i x hx j u hj => ?_⟩, fun b o e => ?_, fun PB => ⟨hbe.os, hbe.tape, hbe.output, hbe.size, fun k hk _ hne => ho k (fun e => hne (by rw [e]; rfl)) hk⟩⟩
      · rw [Nat.zero_add]
        exact (hr i x hx j u hj).1
      · simp only [Option.some.injEq, Addr.mk.injEq, and_true] at e
        obtain ⟨rfl, _⟩ := e
        rfl
end Go.Proofs.YtllpfngmnccejaaGreat
namespace Go.Proofs.YtllpfngmnccejaaGreat
open Go Go.RowKit

theorem up_p {x y : Up} (h : x.p = y.p) : x.key = y.key ∧ x.row = y.row ∧ x.t = y.t ∧ x.d = y.d := by
  have h : ((⟨x.key, x.row, x.t⟩ : Uk), x.d) = ((⟨y.key, y.row, y.t⟩ : Uk), y.d) := h
  simp only [Prod.mk.injEq, Uk.mk.injEq] at h
  exact ⟨h.1.1, h.1.2.1, h.1.2.2, h.2⟩
theorem plc_p {x x' y y' : Up} (hx : x.p = x'.p) (hy : y.p = y'.p) : plc x y = plc x' y' := by
  obtain ⟨a, b, _⟩ := up_p hx
  obtain ⟨c, d, _⟩ := up_p hy
  unfold plc
  rw [a, b, c, d]
theorem map_pk {l m : List Up} (h : l.map Up.p = m.map Up.p) : l.map Up.k = m.map Up.k := by
  have := congrArg (List.map Prod.fst) h
  rw [List.map_map, List.map_map] at this
  exact this
theorem chkUs_p : ∀ {l m : List Up}, l.map Up.p = m.map Up.p → chkUs l = chkUs m
  | [], [], _ => rfl
  | [], _ :: _, h => by simp at h
  | _ :: _, [], h => by simp at h
  | x :: l, y :: m, h => by
    rw [List.map_cons, List.map_cons, List.cons.injEq] at h
    have ih := chkUs_p h.2
    have hk : x.k = y.k := congrArg Prod.fst h.1
    unfold chkUs chkU
    rw [ih, hk]
theorem even_p {l m : List Up} (h : l.map Up.p = m.map Up.p) (hl : EvenP l) : EvenP m := by
  refine ⟨fun u hu => ?_, by rw [← h]; exact hl.2.1, by rw [← chkUs_p h]; exact hl.2.2⟩
  have : u.p ∈ l.map Up.p := by rw [h]; exact List.mem_map_of_mem hu
  obtain ⟨x, hx, e⟩ := List.mem_map.1 this
  rw [← (up_p e).2.2.2]
  exact hl.1 x hx
theorem advL_p {l m : List Up} (f : List Tm) (h : l.map Up.p = m.map Up.p) : (advL f l).map Up.p = (advL f m).map Up.p := by
  have e : ∀ n : List Up, (advL f n).map Up.p = (n.map Up.p).map fun x => ((⟨x.1.key, x.1.row, adv x.1.t f⟩ : Uk), x.2) := fun n => by
    unfold advL
    rw [List.map_map, List.map_map]
    rfl
  rw [e, e, h]
theorem consL_p {l m : List Up} (h : l.map Up.p = m.map Up.p) : consL [l] = consL [m] ∧ consE [l] = consE [m] := by
  have hc : chkLs [l] = chkLs [m] := by unfold chkLs; rw [chkUs_p h]
  unfold consL consE
  rw [hc]
  simp only [List.flatten_cons, List.flatten_nil, List.append_nil]
  rw [h]
  exact ⟨rfl, rfl⟩
theorem mem_p {l m : List Up} (h : l.map Up.p = m.map Up.p) {x : Up} (hx : x ∈ l) : ∃ y ∈ m, y.p = x.p := by
  have : x.p ∈ m.map Up.p := by rw [← h]; exact List.mem_map_of_mem hx
  obtain ⟨y, hy, e⟩ := List.mem_map.1 this
  exact ⟨y, hy, e⟩
theorem len_p {l m : List Up} (h : l.map Up.p = m.map Up.p) : l.length = m.length := by have := congrArg List.length h; simpa using this
theorem take_p {l m : List Up} (h : l.map Up.p = m.map Up.p) (n : Nat) : (l.take n).map Up.p = (m.take n).map Up.p := by rw [List.map_take, List.map_take, h]
theorem drop_p {l m : List Up} (h : l.map Up.p = m.map Up.p) (n : Nat) : (l.drop n).map Up.p = (m.drop n).map Up.p := by rw [List.map_drop, List.map_drop, h]
theorem app_p {l m l' m' : List Up} (h : l.map Up.p = m.map Up.p) (h' : l'.map Up.p = m'.map Up.p) : (l ++ l').map Up.p = (m ++ m').map Up.p := by rw [List.map_append, List.map_append, h, h']
theorem advd_p {f : List Tm} {l m : List Up} (h : l.map Up.p = m.map Up.p) (hl : ∀ u ∈ l, adv u.t f = u.t) : ∀ u ∈ m, adv u.t f = u.t := fun u hu => by
  obtain ⟨x, hx, e⟩ := mem_p h.symm hu
  have := (up_p e).2.2.1
  rw [← this]
  exact hl x hx
/-- a merger as it lies, at work from where it is -/
def startM (a : List Up) (i : Nat) (b : List Up) (j : Nat) (o : List (Uk × Int)) : MS := ⟨a.take i, a.drop i, b.take j, b.drop j, o, 0, 0⟩
def FineM (f : List Tm) (a : List Up) (i : Nat) (b : List Up) (j : Nat) (o : List (Uk × Int)) : Prop := i ≤ a.length ∧ j ≤ b.length ∧ (startM a i b j o).Fine f a b
theorem finem_copy {f : List Tm} {a a' b b' : List Up} {i j : Nat} {o : List (Uk × Int)} (h : FineM f a i b j o) (ha : a.map Up.p = a'.map Up.p) (hb : b.map Up.p = b'.map Up.p) : FineM f a' i b' j o := by
  obtain ⟨h1, h2, h3⟩ := h
  refine ⟨by rw [← len_p ha]; exact h1, by rw [← len_p hb]; exact h2, ⟨fun x hx y hy => ?_, ?_, ?_⟩, List.take_append_drop _ _, List.take_append_drop _ _⟩
  · obtain ⟨x0, hx0, ex⟩ := mem_p (app_p (take_p ha i) (take_p hb j)).symm hx
    obtain ⟨y0, hy0, ey⟩ := mem_p (app_p (drop_p ha i) (drop_p hb j)).symm hy
    rw [← plc_p ex ey]
    exact h3.inv.sep x0 hx0 y0 hy0
  · have := advL_p f (app_p (take_p ha i) (take_p hb j))
    show resE Uk.cmp ((advL f (a'.take i ++ b'.take j)).map Up.p) = 0
    rw [← this]
    exact h3.inv.fit
  · have := advL_p f (app_p (take_p ha i) (take_p hb j))
    show o = nz Uk.cmp ((advL f (a'.take i ++ b'.take j)).map Up.p)
    rw [← this]
    exact h3.inv.out_
theorem finem_start (f : List Tm) (a b : List Up) : FineM f a 0 b 0 [] := ⟨Nat.zero_le _, Nat.zero_le _, fine_start f a b⟩
theorem finem_of {f : List Tm} {a b : List Up} {s : MS} (h : s.Fine f a b) : FineM f a s.ta.length b s.tb.length s.out := by
  obtain ⟨h1, h2, h3⟩ := h
  subst h2; subst h3
  refine ⟨by rw [List.length_append]; omega, by rw [List.length_append]; omega, ?_⟩
  have e : startM (s.ta ++ s.ra) s.ta.length (s.tb ++ s.rb) s.tb.length s.out = ⟨s.ta, s.ra, s.tb, s.rb, s.out, 0, 0⟩ := by
    unfold startM
    rw [List.take_left, List.drop_left, List.take_left, List.drop_left]
  rw [e]
  exact ⟨h1, rfl, rfl⟩
/-- such a merger is right -/
theorem finem_ok {f : List Tm} {a b o : List Up} {i j : Nat} {O : List (Uk × Int)} (h : FineM f a i b j O) (hf : FrontOk f) (ha : EvenP a) (hb : EvenP b) (ho : o.map Up.p = O) : MergOk f a b o i j := by
  obtain ⟨h1, h2, h3⟩ := h
  have := fine_ok h3 hf ha hb ho
  have e1 : (startM a i b j O).ta.length = i := by show (a.take i).length = i; rw [List.length_take]; omega
  have e2 : (startM a i b j O).tb.length = j := by show (b.take j).length = j; rw [List.length_take]; omega
  rwa [e1, e2] at this
theorem start_left (a : List Up) (i : Nat) (b : List Up) (j : Nat) (o : List (Uk × Int)) : (startM a i b j o).left = (a.length - i) + (b.length - j) := by
  unfold startM MS.left
  rw [List.length_drop, List.length_drop]
theorem work_E {f : List Tm} {fuel : Int} : ∀ (n : Nat) (s : MS), s.E = 0 → (workM f fuel n s).ta.length + (workM f fuel n s).tb.length = s.ta.length + s.tb.length + ((workM f fuel n s).cost - s.cost) ∧ s.cost ≤ (workM f fuel n s).cost
  | 0, s, _ => ⟨by show _ = _ + (s.cost - s.cost); rw [Nat.sub_self]; rfl, Nat.le_refl _⟩
  | n + 1, s, h => by
    unfold workM
    split
    · cases hu : nextM s.ra s.rb with
      | none => exact ⟨by show _ = _ + (s.cost - s.cost); rw [Nat.sub_self]; rfl, Nat.le_refl _⟩
      | some u =>
        dsimp only
        split
        · obtain ⟨h1, h2⟩ := work_E (f := f) (fuel := fuel) n (s.step f u) rfl
          have e1 : (s.step f u).ta.length = s.ta.length + (grp u s.ra).length := List.length_append
          have e2 : (s.step f u).tb.length = s.tb.length + (grp u s.rb).length := List.length_append
          have e3 : (s.step f u).cost = s.cost + ((grp u s.ra).length + (grp u s.rb).length) := rfl
          omega
        · exact ⟨by show _ = _ + (s.cost - s.cost); rw [Nat.sub_self]; rfl, Nat.le_refl _⟩
    · exact ⟨by show _ = _ + (s.cost - s.cost); rw [Nat.sub_self]; rfl, Nat.le_refl _⟩
end Go.Proofs.YtllpfngmnccejaaGreat
namespace Go.Proofs.YtllpfngmnccejaaGreat
open Go Go.RowKit

/-- a batch: its frontier, its updates -/
structure Bt where
  sA : Option Addr
  sc : Nat
  f : List Tm
  uA : Option Addr
  uc : Nat
  l : List Up
namespace Bt
def cells (b : Bt) : List Value := [.slice b.sA b.f.length b.sc, .slice b.uA b.l.length b.uc]
def val (b : Bt) : Value := .agg #[.slice b.sA b.f.length b.sc, .slice b.uA b.l.length b.uc]
end Bt
structure BtIn (w : World) (B : Nat) (b : Bt) : Prop where
  since : Times w B b.sA b.f
  ups : Ups w B b.uA b.l
theorem BtIn.past {w w' : World} {B B' : Nat} {b : Bt} (h : BtIn w B b) (hb : Below B' w w') (hB : B ≤ B') : BtIn w' B b := ⟨h.since.past hb hB, h.ups.past hb hB⟩
theorem BtIn.wide {w : World} {B B' : Nat} {b : Bt} (h : BtIn w B b) (hB : B ≤ B') : BtIn w B' b := ⟨h.since.wide hB, h.ups.wide hB⟩
theorem BtIn.keep {w w' : World} {b : Bt} (h : BtIn w w.heap.size b) (hb : Below w.heap.size w w') : BtIn w' w'.heap.size b := (h.past hb (Nat.le_refl _)).wide hb.size
/-- how great lists may be -/
def big : Nat := 1099511627776
theorem big_eq : big = 1099511627776 := rfl
structure TsOk (f : List Tm) (c : Nat) : Prop where
  n : f.length ≤ 1099511627776
  le : f.length ≤ c
  c_ : c ≤ maxLen
structure UsOk (l : List Up) : Prop where
  n : l.length ≤ 1099511627776
  ok : ∀ u ∈ l, UOk u
structure BtOk (b : Bt) : Prop where
  f : TsOk b.f b.sc
  l : UsOk b.l
def Bt.nil : Bt := ⟨none, 0, [], none, 0, []⟩
theorem bt_nil_in (w : World) (B : Nat) : BtIn w B Bt.nil := ⟨Times.nil_, ⟨Lies.nil_, fun u hu => by cases hu⟩⟩
theorem ts_nil : TsOk [] 0 := ⟨Nat.zero_le _, Nat.le_refl _, Nat.zero_le _⟩
theorem us_nil : UsOk [] := ⟨Nat.zero_le _, fun u hu => by cases hu⟩
theorem bt_nil_ok : BtOk Bt.nil := ⟨ts_nil, us_nil⟩
/-- it lies in no block below B -/
def LoT (B : Nat) (A : Option Addr) : Prop := ∀ b o, A = some (⟨b, o, none⟩ : Addr) → B ≤ b
structure BtLo (B : Nat) (b : Bt) : Prop where
  f : LoT B b.sA
  l : Lo B b.uA b.l
theorem lot_nil (B : Nat) : LoT B none := fun _ _ h => by cases h
theorem bt_nil_lo (B : Nat) : BtLo B Bt.nil := ⟨lot_nil B, lo_nil B⟩
theorem Lo.mono {B B' : Nat} {A : Option Addr} {l : List Up} (h : Lo B A l) (hB : B' ≤ B) : Lo B' A l := ⟨fun b o e => Nat.le_trans hB (h.1 b o e), fun u hu b o e => Nat.le_trans hB (h.2 u hu b o e)⟩
theorem LoT.mono {B B' : Nat} {A : Option Addr} (h : LoT B A) (hB : B' ≤ B) : LoT B' A := fun b o e => Nat.le_trans hB (h b o e)
theorem BtLo.mono {B B' : Nat} {b : Bt} (h : BtLo B b) (hB : B' ≤ B) : BtLo B' b := ⟨h.f.mono hB, h.l.mono hB⟩
/-- a merger: two lists, how far each is, its frontier, what came of it -/
structure Mg where
  aA : Option Addr
  ac : Nat
  a : List Up
  bA : Option Addr
  bc : Nat
  b : List Up
  i : Int
  j : Int
  sA : Option Addr
  sc : Nat
  f : List Tm
  oA : Option Addr
  oc : Nat
  o : List Up
namespace Mg
def cells (m : Mg) : List Value := [.slice m.aA m.a.length m.ac, .slice m.bA m.b.length m.bc, .int .i64 m.i, .int .i64 m.j, .slice m.sA m.f.length m.sc, .slice m.oA m.o.length m.oc]
def val (m : Mg) : Value := .agg #[.slice m.aA m.a.length m.ac, .slice m.bA m.b.length m.bc, .int .i64 m.i, .int .i64 m.j, .slice m.sA m.f.length m.sc, .slice m.oA m.o.length m.oc]
def nil : Mg := ⟨none, 0, [], none, 0, [], 0, 0, none, 0, [], none, 0, []⟩
end Mg
structure MgIn (w : World) (B : Nat) (m : Mg) : Prop where
  a : Ups w B m.aA m.a
  b : Ups w B m.bA m.b
  f : Times w B m.sA m.f
  o : Ups w B m.oA m.o
theorem MgIn.past {w w' : World} {B B' : Nat} {m : Mg} (h : MgIn w B m) (hb : Below B' w w') (hB : B ≤ B') : MgIn w' B m := ⟨h.a.past hb hB, h.b.past hb hB, h.f.past hb hB, h.o.past hb hB⟩
theorem MgIn.wide {w : World} {B B' : Nat} {m : Mg} (h : MgIn w B m) (hB : B ≤ B') : MgIn w B' m := ⟨h.a.wide hB, h.b.wide hB, h.f.wide hB, h.o.wide hB⟩
theorem MgIn.keep {w w' : World} {m : Mg} (h : MgIn w w.heap.size m) (hb : Below w.heap.size w w') : MgIn w' w'.heap.size m := (h.past hb (Nat.le_refl _)).wide hb.size
structure MgOk (m : Mg) : Prop where
  a : UsOk m.a
  b : UsOk m.b
  f : TsOk m.f m.sc
  o : UsOk m.o
  i : -9223372036854775808 ≤ m.i ∧ m.i ≤ 9223372036854775807
  j : -9223372036854775808 ≤ m.j ∧ m.j ≤ 9223372036854775807
structure MgLo (B : Nat) (m : Mg) : Prop where
  a : Lo B m.aA m.a
  b : Lo B m.bA m.b
  f : LoT B m.sA
  o : Lo B m.oA m.o
theorem MgLo.mono {B B' : Nat} {m : Mg} (h : MgLo B m) (hB : B' ≤ B) : MgLo B' m := ⟨h.a.mono hB, h.b.mono hB, h.f.mono hB, h.o.mono hB⟩
theorem mg_nil_in (w : World) (B : Nat) : MgIn w B Mg.nil := ⟨⟨Lies.nil_, fun u hu => by cases hu⟩, ⟨Lies.nil_, fun u hu => by cases hu⟩, Times.nil_, ⟨Lies.nil_, fun u hu => by cases hu⟩⟩
theorem mg_nil_ok : MgOk Mg.nil := ⟨us_nil, us_nil, ts_nil, us_nil, by decide, by decide⟩
theorem mg_nil_lo (B : Nat) : MgLo B Mg.nil := ⟨lo_nil B, lo_nil B, lot_nil B, lo_nil B⟩
/-- a batch's two cells in a block of their own -/
theorem btbox (w : World) (b : Bt) : ∃ W, W = w.alloc (.cells #[.slice b.sA b.f.length b.sc, .slice b.uA b.l.length b.uc] 27) ∧ Below w.heap.size w W ∧ W.heap.size = w.heap.size + 1 ∧ Own W w.heap.size 27 b.cells :=
  ⟨_, rfl, (Below.refl _ _).alloc (Nat.le_refl _) _, by simp, Own.made w 27 b.cells⟩
/-- a merger's six -/
theorem mgbox (w : World) (m : Mg) : ∃ W, W = w.alloc (.cells #[.slice m.aA m.a.length m.ac, .slice m.bA m.b.length m.bc, .int .i64 m.i, .int .i64 m.j, .slice m.sA m.f.length m.sc, .slice m.oA m.o.length m.oc] 25) ∧ Below w.heap.size w W ∧ W.heap.size = w.heap.size + 1 ∧ Own W w.heap.size 25 m.cells :=
  ⟨_, rfl, (Below.refl _ _).alloc (Nat.le_refl _) _, by simp, Own.made w 25 m.cells⟩
/-- what lies in other blocks than the one that turned -/
theorem times_other {w X : World} {P : Nat} {A : Option Addr} {l : List Tm} (h : Times w w.heap.size A l) (hA : LoT (P + 1) A) (hs : X.heap.size = w.heap.size) (hX : ∀ b, b ≠ P → X.heap[b]? = w.heap[b]?) : Times X X.heap.size A l := fun hp => by
  obtain ⟨b, o, e, hb, hc⟩ := h hp
  have hne : b ≠ P := by have := hA b o e; omega
  have hk : ∀ j, X.cell? ⟨b, j, none⟩ = w.cell? ⟨b, j, none⟩ := fun j => by unfold World.cell?; rw [hX b hne]
  refine ⟨b, o, e, by omega, fun i v hi => ?_⟩
  obtain ⟨a0, a1, a2⟩ := hc i v hi
  exact ⟨(hk _).trans a0, (hk _).trans a1, (hk _).trans a2⟩
theorem ups_other {w X : World} {P : Nat} {A : Option Addr} {l : List Up} (h : Ups w w.heap.size A l) (hlo : Lo (P + 1) A l) (hs : X.heap.size = w.heap.size) (hX : ∀ b, b ≠ P → X.heap[b]? = w.heap[b]?) : Ups X X.heap.size A l := by
  refine ⟨fun hp => ?_, fun u hu => ⟨vals_other (h.each_ u hu).key (fun b o e => hlo.2 u hu b o (.inl e)) hs hX, vals_other (h.each_ u hu).row (fun b o e => hlo.2 u hu b o (.inr e)) hs hX⟩⟩
  obtain ⟨b, o, e, hb, hc⟩ := h.head hp
  have hne : b ≠ P := by have := hlo.1 b o e; omega
  exact ⟨b, o, e, by omega, fun i x hi j u hj => by
    rw [← hc i x hi j u hj]
    unfold World.cell?
    rw [hX b hne]⟩
theorem set2_other (w : World) (P : Nat) (x y : Value) : ((w.setCell ⟨P, 0, none⟩ x).setCell ⟨P, 1, none⟩ y).heap.size = w.heap.size ∧ ∀ b, b ≠ P → ((w.setCell ⟨P, 0, none⟩ x).setCell ⟨P, 1, none⟩ y).heap[b]? = w.heap[b]? :=
  ⟨by simp [World.setCell], fun b hb => (Below.heap_setCell _ ⟨P, 1, none⟩ y b hb).trans (Below.heap_setCell w ⟨P, 0, none⟩ x b hb)⟩
end Go.Proofs.YtllpfngmnccejaaGreat
namespace Go.Proofs.YtllpfngmnccejaaGreat
open Go Go.RowKit

set_option maxRecDepth 100000 in
set_option maxHeartbeats 3200000 in
theorem match1_any (P Q : Nat) (A : Option Addr) (c : Nat) (l : List Up) (x : Up) (k : Nat) (u : Up) (w : World) (hb : Own w P 22 [.slice A l.length c]) (hq : Own w Q 48 x.cells) (hl : Ups w w.heap.size A l) (hx : UIn w w.heap.size x) (ox : UOk x) (ou : UOk u) (hu : l[k]? = some u) :
    Calls Tryz.prog 119 #[.int .i64 (k : Int), .pointer (some ⟨P, 0, none⟩), .pointer (some ⟨Q, 0, none⟩)] w fun e w' => e = .returned (.bool (decide (0 ≤ cmpRows u.key x.key))) ∧ Below w.heap.size w w' := by
  have hlt : k < l.length := (List.getElem?_eq_some_iff.1 hu).1
  have hui := hl.each_ u (List.mem_of_getElem? hu)
  obtain ⟨b', o, hA, hB, hxs⟩ := lies_up hl.head (by omega)
  have hP := fun p : Past w => (hb.past p.h hb.inside).at_ 0
  simp only [List.getElem?_cons_zero] at hP
  rw [hA] at hP
  have hE := fun p : Past w => ((hxs k u hu).past_ p.h hB).six
  have hF := fun p : Past w => own6 (hq.past p.h hq.inside)
  have e0 := fun p : Past w => (hE p).1
  have e1 := fun p : Past w => (hE p).2.1
  have e2 := fun p : Past w => (hE p).2.2.1
  have e3 := fun p : Past w => (hE p).2.2.2.1
  have e4 := fun p : Past w => (hE p).2.2.2.2.1
  have e5 := fun p : Past w => (hE p).2.2.2.2.2
  have f0 := fun p : Past w => (hF p).1
  have f1 := fun p : Past w => (hF p).2.1
  have f2 := fun p : Past w => (hF p).2.2.1
  have f3 := fun p : Past w => (hF p).2.2.2.1
  have f4 := fun p : Past w => (hF p).2.2.2.2.1
  have f5 := fun p : Past w => (hF p).2.2.2.2.2
  have u1 := fun p : Past w => calls_past ((bykey_gr u x p.w (hui.keep p.h) (hx.keep p.h) ou ox).mono fun x w' h => ⟨h.1, h.2.below⟩)
  unfold Up.val at u1
  have q0 : (0 : Int) ≤ (k : Int) := by omega
  have q1 : (k : Int) < (l.length : Int) := by omega
  obtain ⟨z, hz⟩ : ∃ z, cmpRows u.key x.key = z := ⟨_, rfl⟩
  rw [hz] at u1 ⊢
  obtain ⟨B, hB'⟩ : ∃ B, decide (0 ≤ z) = B := ⟨_, rfl⟩
  rw [hB']
  clear hb hq hl hx ox ou hu hui hxs hE hF hz hA hB hlt
  go_enter Tryz.func119, Tryz.ntmps119
  go_upto_region 1 with fail
  refine wp_region_past w (by kernel_rfl) (by kernel_rfl) (Below.refl _ _) ?_
  repeat (first | go_big_quiet_step (fail) | quiet_step (fail))
  quiet_step ((go_at_call 117; exact u1 _))
  repeat (first | go_big_quiet_step (fail) | quiet_step (fail))
  clear u1
  refine wpQuiet_nil ?_
  intro wz hw'
  obtain ⟨⟨wy, hbz⟩, hw''⟩ := hw'
  dsimp only at hw''
  subst hw''
  go_wp2_with fail
  go_ret
  exact ⟨rfl, hbz⟩
/-- what the function that is handed in answers -/
def SeeksJ (P Q : Nat) (l : List Up) (key : List Vl) (w : World) : Prop :=
  ∀ (k : Nat) (u : Up) (W : World), l[k]? = some u → Below w.heap.size w W → Calls Tryz.prog 119 #[.int .i64 (k : Int), .pointer (some ⟨P, 0, none⟩), .pointer (some ⟨Q, 0, none⟩)] W fun e w' => e = .returned (.bool (decide (0 ≤ cmpRows u.key key))) ∧ Below W.heap.size W w'
set_option maxRecDepth 100000 in
set_option maxHeartbeats 3200000 in
theorem searchJ_any (P Q : Nat) (l : List Up) (key : List Vl) (w : World) (hl : KeysUp l) (hn : l.length ≤ 1099511627776) (hs : SeeksJ P Q l key w) :
    Calls Tryz.prog 118 #[.int .i64 (l.length : Int), .func (.func 119) #[] #[.pointer (some ⟨P, 0, none⟩), .pointer (some ⟨Q, 0, none⟩)]] w fun x w' => x = .returned (.int .i64 (seekB l key : Int)) ∧ Below w.heap.size w w' := by
  have HS := Lib.hid hs
  have HK := Lib.hid hl
  clear hs hl
  go_enter Tryz.func118, Tryz.ntmps118
  go_wp2_with fail
  go_loopw [5, 6] (fun v5 v6 wr => ∃ i j : Nat, v5 = .int .i64 (i : Int) ∧ v6 = .int .i64 (j : Int) ∧ i ≤ seekB l key ∧ seekB l key ≤ j ∧ j ≤ l.length ∧ Below w.heap.size w wr) (fun v5 v6 _ => (intOf v6).toNat - (intOf v5).toNat)
  case atStart => exact ⟨0, l.length, rfl, rfl, Nat.zero_le _, seek_len l key, Nat.le_refl _, Below.refl _ _⟩
  case round =>
    obtain ⟨i, j, rfl, rfl, h1, h2, h3, hb⟩ := hrel
    by_cases hlt : i < j
    · have t0 : decide ((i : Int) < (j : Int)) = true := decide_eq_true (by omega)
      have t0' : decide (i < j) = true := decide_eq_true hlt
      obtain ⟨m, hm⟩ : ∃ m, m = (i + j) / 2 := ⟨_, rfl⟩
      have hmI : ((i : Int) + (j : Int)) / 2 = (m : Int) := by omega
      have him : i ≤ m := by omega
      have hmj : m < j := by omega
      have hml : m < l.length := by omega
      have hx : l[m]? = some l[m] := List.getElem?_eq_getElem hml
      have hlo := fun h => seek_lt l key m l[m] h hx
      have hhi := fun h => seek_ge (k := key) HK.out h hx
      have y1 := Lib.hid (HS.out m _ wr hx hb)
      generalize l[m] = u at *
      obtain ⟨B, hB⟩ : ∃ B, decide (0 ≤ cmpRows u.key key) = B := ⟨_, rfl⟩
      rw [hB] at y1
      cases B with
      | true =>
        have h4 : seekB l key ≤ m := by
          apply Decidable.byContradiction
          intro h
          have := hlo (by omega)
          have := of_decide_eq_true hB
          omega
        have HH := Lib.hid (And.intro hb (And.intro h1 (And.intro h4 hml)))
        clear hb h1 h2 hx hlo hhi hB h4 hm
        go_wp2_with fail
        refine y1.out.mono ?_
        rintro _ w2 ⟨rfl, b2⟩
        have H2 := Lib.hid (HH.out.1.trans (b2.mono HH.out.1.size))
        clear b2
        go_wp2_with fail
        go_roundw
        case rel => exact ⟨i, m, rfl, by first | rfl | go_num, HH.out.2.1, HH.out.2.2.1, by omega, H2.out⟩
        case measure => simp [intOf]; omega
      | false =>
        have h4 : m + 1 ≤ seekB l key := by
          apply Decidable.byContradiction
          intro h
          have h5 := hhi (by omega)
          have := of_decide_eq_false hB
          omega
        have HH := Lib.hid (And.intro hb (And.intro h2 (And.intro h4 hml)))
        clear hb h1 h2 hx hlo hhi hB h4 hm
        go_wp2_with fail
        refine y1.out.mono ?_
        rintro _ w2 ⟨rfl, b2⟩
        have H2 := Lib.hid (HH.out.1.trans (b2.mono HH.out.1.size))
        clear b2
        go_wp2_with fail
        go_roundw
        case rel => exact ⟨m + 1, j, by go_num, rfl, HH.out.2.2.1, HH.out.2.1, h3, H2.out⟩
        case measure => simp [intOf]; omega
    · have t0 : decide ((i : Int) < (j : Int)) = false := decide_eq_false (by omega)
      have t0' : decide (i < j) = false := decide_eq_false hlt
      have HH := Lib.hid (And.intro hb (show i = seekB l key by omega))
      clear hb h1 h2
      go_wp2_with fail
      go_ret
      exact ⟨by rw [HH.out.2]; rfl, HH.out.1⟩
theorem seeksJ_of {P Q : Nat} {A : Option Addr} {c : Nat} {l : List Up} {x : Up} {w : World} (hb : Own w P 22 [.slice A l.length c]) (hq : Own w Q 48 x.cells) (hl : Ups w w.heap.size A l) (hx : UIn w w.heap.size x) (ox : UOk x) (ol : ∀ u ∈ l, UOk u) : SeeksJ P Q l x.key w := fun k u W hu hW =>
  match1_any P Q A c l x k u W (hb.past hW hb.inside) (hq.past hW hq.inside) (hl.keep hW) (hx.keep hW) ox (ol u (List.mem_of_getElem? hu)) hu
end Go.Proofs.YtllpfngmnccejaaGreat
namespace Go.Proofs.YtllpfngmnccejaaGreat
open Go Go.RowKit

/-- all that match make right updates, whose numbers fit -/
def okPairs (a b : List Up) : Bool := a.all fun x => (ofKey x.key b).all (goodP x)
theorem okPairs_next {a b : List Up} {k : Nat} {x : Up} (h : a[k]? = some x) : okPairs (a.take (k + 1)) b = (okPairs (a.take k) b && (ofKey x.key b).all (goodP x)) := by
  unfold okPairs
  rw [List.take_add_one, h, List.all_append]
  simp
theorem pairsP_next {a b : List Up} {k : Nat} {x : Up} (h : a[k]? = some x) : pairsP (a.take (k + 1)) b = pairsP (a.take k) b ++ (ofKey x.key b).map (joinP x) := by
  unfold pairsP
  rw [List.take_add_one, h, List.flatMap_append]
  simp
theorem okPairs_perm {a b b' : List Up} (h : b.Perm b') : okPairs a b = okPairs a b' := by
  unfold okPairs
  congr 1
  funext x
  have hp : (ofKey x.key b).Perm (ofKey x.key b') := h.filter _
  rw [Bool.eq_iff_iff, List.all_eq_true, List.all_eq_true]
  exact ⟨fun k y hy => k y (hp.mem_iff.2 hy), fun k y hy => k y (hp.mem_iff.1 hy)⟩
theorem pairsP_perm {b b' : List Up} (h : b.Perm b') : ∀ a : List Up, (pairsP a b).Perm (pairsP a b')
  | [] => List.Perm.refl _
  | x :: a => by
    have ih := pairsP_perm h a
    unfold pairsP at *
    rw [List.flatMap_cons, List.flatMap_cons]
    exact ((h.filter _).map _).append ih
theorem take_while {p : Up → Bool} : ∀ {l : List Up} {j : Nat}, (∀ q u, q < j → l[q]? = some u → p u = true) → (∀ u, l[j]? = some u → p u = false) → l.takeWhile p = l.take j
  | [], j, _, _ => by simp
  | x :: l, 0, _, h => by
    have := h x rfl
    rw [List.takeWhile_cons_of_neg (by simp [this]), List.take_zero]
  | x :: l, j + 1, h, k => by
    rw [List.takeWhile_cons_of_pos (h 0 x (by omega) rfl), List.take_succ_cons, take_while (l := l) (j := j) (fun q u hq hu => h (q + 1) u (by omega) (by simpa using hu)) fun u hu => k u (by simpa using hu)]
/-- the group of a key stands where it is sought, as far as the keys are like it -/
theorem group_here {S : List Up} {key : List Vl} {j : Nat} (hS : KeysUp S) (h : ∀ q u, q < j → (S.drop (seekB S key))[q]? = some u → cmpRows u.key key = 0) (k : ∀ u, (S.drop (seekB S key))[j]? = some u → cmpRows u.key key ≠ 0) : ofKey key S = (S.drop (seekB S key)).take j := by
  show S.filter _ = _
  rw [← group_filter hS]
  unfold groupB
  exact take_while (fun q u hq hu => by simpa using h q u hq hu) fun u hu => by simpa using k u hu
theorem pk_far {a b c : World} {PB : Nat} {v : Value} (h : PKeep a b PB (.slice none 0 0)) (k : PKeep b c PB v) (hv : ∀ j, v.ownBlock = some j → a.heap.size ≤ j) : PKeep a c PB (.slice none 0 0) :=
  ⟨k.os.trans h.os, k.tape.trans h.tape, k.output.trans h.output, Nat.le_trans h.size k.size, fun i hi h1 h2 => (k.block i (Nat.lt_of_lt_of_le hi h.size) h1 fun e => by have := hv i e; omega).trans (h.block i hi h1 h2)⟩
theorem far_grew {a b : World} {v v' : Value} (hv : ∀ j, v.ownBlock = some j → a.heap.size ≤ j) (hb : a.heap.size ≤ b.heap.size) (hg : Grew b v v') : ∀ j, v'.ownBlock = some j → a.heap.size ≤ j := fun j hj => by
  rcases hg with e | ⟨i, e, hi⟩
  · rw [e] at hj; exact hv j hj
  · rw [e] at hj; injection hj with hj; omega
/-- at the outer loop's head: k of the updates of a have been matched -/
structure JM (w2 wr : World) (PB : Nat) (a S : List Up) (k : Nat) (why : Int) (v : Value) (M : List Up) : Prop where
  prod : ∃ t, Prod wr PB t why v M
  keep : PKeep w2 wr PB (.slice none 0 0)
  far : ∀ j, v.ownBlock = some j → w2.heap.size ≤ j
  wy : why = 0 ∨ why = 10
  ok : why = 0 ↔ okPairs (a.take k) S = true
  made : why = 0 → M.map Up.p = pairsP (a.take k) S
  chk : ∀ u ∈ M, chkU u = 0
  len : M.length ≤ k * S.length
/-- at the inner loop's head: j of the updates with x's key have been matched with it, too; x lies in block Q -/
structure JI (w2 wq : World) (PB Q : Nat) (a S : List Up) (k j : Nat) (x : Up) (why : Int) (v : Value) (M : List Up) : Prop where
  prod : ∃ t, Prod wq PB t why v M
  keep : PKeep w2 wq PB (.slice none 0 0)
  far : ∀ b, v.ownBlock = some b → w2.heap.size ≤ b
  off : v.ownBlock ≠ some Q
  box : Own wq Q 48 x.cells
  wy : why = 0 ∨ why = 10
  ok : why = 0 ↔ okPairs (a.take k) S = true ∧ ((S.drop (seekB S x.key)).take j).all (goodP x) = true
  made : why = 0 → M.map Up.p = pairsP (a.take k) S ++ ((S.drop (seekB S x.key)).take j).map (joinP x)
  chk : ∀ u ∈ M, chkU u = 0
  len : M.length ≤ k * S.length + j
  keys : ∀ q u, q < j → (S.drop (seekB S x.key))[q]? = some u → cmpRows u.key x.key = 0
  jn : j ≤ S.length
section
variable {w2 wr wq : World} {PB Q : Nat} {a S : List Up} {k j : Nat} {x y : Up} {why : Int} {v : Value} {M : List Up}
theorem JM.past (h : JM w2 wr PB a S k why v M) (hb : Below wr.heap.size wr wq) : JM w2 wq PB a S k why v M :=
  ⟨h.prod.imp fun _ p => p.quiet hb, h.keep.quiet hb, h.far, h.wy, h.ok, h.made, h.chk, h.len⟩
theorem JI.past (h : JI w2 wr PB Q a S k j x why v M) (hb : Below wr.heap.size wr wq) : JI w2 wq PB Q a S k j x why v M :=
  ⟨h.prod.imp fun _ p => p.quiet hb, h.keep.quiet hb, h.far, h.off, h.box.past hb h.box.inside, h.wy, h.ok, h.made, h.chk, h.len, h.keys, h.jn⟩
theorem JM.enter (h : JM w2 wr PB a S k why v M) (hb : Below wr.heap.size wr wq) (hQ : wr.heap.size ≤ Q) (hq : Own wq Q 48 x.cells) : JI w2 wq PB Q a S k 0 x why v M :=
  ⟨h.prod.imp fun _ p => p.quiet hb, h.keep.quiet hb, h.far, fun e => by obtain ⟨t, p⟩ := h.prod; have := (p.later Q e).2; omega, hq, h.wy, by rw [h.ok, List.take_zero, List.all_nil]; simp, fun e => by rw [h.made e]; simp, h.chk, h.len, (fun q u hq => by omega), Nat.zero_le _⟩
/-- no more of the key: the next update of a -/
theorem JI.leave (h : JI w2 wq PB Q a S k j x why v M) (hS : KeysUp S) (hx : a[k]? = some x) (hj : ∀ u, (S.drop (seekB S x.key))[j]? = some u → cmpRows u.key x.key ≠ 0) : JM w2 wq PB a S (k + 1) why v M := by
  have hg := group_here hS h.keys hj
  refine ⟨h.prod, h.keep, h.far, h.wy, ?_, fun e => ?_, h.chk, ?_⟩
  · rw [okPairs_next hx, hg, Bool.and_eq_true]
    exact h.ok
  · rw [pairsP_next hx, hg]
    exact h.made e
  · have h1 := h.len
    have h2 := h.jn
    rw [Nat.succ_mul]
    omega
/-- one more pair -/
theorem JI.next (h : JI w2 wr PB Q a S k j x why v M) (hy : (S.drop (seekB S x.key))[j]? = some y) (hk : cmpRows y.key x.key = 0) {u : Up} {t' : Tm} {v' : Value} (hu : goodP x y = true → u.p = joinP x y ∧ chkU u = 0)
    (hp : Prod wq PB t' (if goodP x y = true then why else 10) v' (if goodP x y = true then M ++ [u] else M)) (hpk : PKeep wr wq PB v) (hg : Grew wr v v') (hP : PB ≠ Q) :
    ∃ why' M', JI w2 wq PB Q a S k (j + 1) x why' v' M' := by
  have htk : (S.drop (seekB S x.key)).take (j + 1) = (S.drop (seekB S x.key)).take j ++ [y] := by rw [List.take_add_one, hy]; rfl
  refine ⟨_, _, ⟨t', hp⟩, pk_far h.keep hpk h.far, far_grew h.far h.keep.size hg, ?_, ?_, ?_, ?_, ?_, ?_, ?_, ?_, by have h1 := (List.getElem?_eq_some_iff.1 hy).1; rw [List.length_drop] at h1; omega⟩
  · rcases hg with e | ⟨i, e, hi⟩
    · rw [e]; exact h.off
    · rw [e]; intro e2; injection e2 with e2; have := h.box.inside; omega
  · exact (hpk.block Q h.box.inside (fun e => hP e.symm) h.off).trans h.box
  · split
    · exact h.wy
    · exact .inr rfl
  · rw [htk, List.all_append]
    by_cases hgd : goodP x y = true
    · rw [if_pos hgd, h.ok]; simp [hgd]
    · rw [if_neg hgd]; simp [hgd]
  · intro e
    by_cases hgd : goodP x y = true
    · rw [if_pos hgd] at e ⊢
      rw [htk, List.map_append, List.map_append, h.made e, List.append_assoc]
      simp [(hu hgd).1]
    · rw [if_neg hgd] at e; omega
  · intro z hz
    by_cases hgd : goodP x y = true
    · rw [if_pos hgd] at hz
      rcases List.mem_append.1 hz with hz | hz
      · exact h.chk z hz
      · obtain rfl : z = u := by simpa using hz
        exact (hu hgd).2
    · rw [if_neg hgd] at hz
      exact h.chk z hz
  · have := h.len
    split
    · rw [List.length_append]; simp; omega
    · omega
  · intro q z hq hz
    by_cases hqj : q = j
    · subst hqj
      rw [hy] at hz
      injection hz with hz
      rw [← hz]; exact hk
    · exact h.keys q z (by omega) hz
end
end Go.Proofs.YtllpfngmnccejaaGreat
namespace Go.Proofs.YtllpfngmnccejaaGreat
open Go Go.RowKit

/-- the first n are alike, no more -/
def AlikeSays (l : List Up) (x0 : Up) (w : World) (e : Ending) (w' : World) : Prop :=
  ∃ n : Nat, e = .returned (.int .i64 (n : Int)) ∧ 1 ≤ n ∧ n ≤ l.length ∧ (∀ m y, m < n → l[m]? = some y → x0.k.cmp y.k = 0) ∧ (∀ y, l[n]? = some y → x0.k.cmp y.k ≠ 0) ∧ Below w.heap.size w w'
set_option maxRecDepth 100000 in
set_option maxHeartbeats 6400000 in
theorem alike_any (A : Option Addr) (c : Nat) (l : List Up) (x0 : Up) (w : World) (hl : Ups w w.heap.size A l) (hok : ∀ u ∈ l, UOk u) (hn : l.length ≤ 1099511627776) (h0 : l[0]? = some x0) :
    Calls Tryz.prog 115 #[.slice A l.length c] w (AlikeSays l x0 w) := by
  have hpos : 0 < l.length := (List.getElem?_eq_some_iff.1 h0).1
  obtain ⟨b, o, rfl, hB, hys⟩ := lies_up hl.head hpos
  have HL := Lib.hid (And.intro hl (And.intro hok h0))
  have HY := Lib.hid (fun (W : World) (hW : Below w.heap.size w W) (i : Nat) (x : Up) (hx : l[i]? = some x) => ((hys i x hx).past_ hW hB).six)
  have H0 := Lib.hid (fun (W : World) (hW : Below w.heap.size w W) => ((hys 0 x0 h0).past_ hW hB).six)
  have hm0 := List.mem_of_getElem? h0
  have HM := Lib.hid hm0
  have HB := Lib.hid hB
  clear hl hok h0 hys hm0 hB
  go_enter Tryz.func115, Tryz.ntmps115
  go_wp2_with fail
  go_loopw [3] (fun v3 wr => ∃ j : Nat, v3 = .int .i64 (j : Int) ∧ 1 ≤ j ∧ j ≤ l.length ∧ (∀ m y, m < j → l[m]? = some y → x0.k.cmp y.k = 0) ∧ Below w.heap.size w wr) (fun v3 _ => l.length - (intOf v3).toNat)
  case atStart =>
    refine ⟨1, rfl, Nat.le_refl _, hpos, fun m y h1 h2 => ?_, Below.refl _ _⟩
    obtain rfl : m = 0 := by omega
    rw [HL.out.2.2] at h2
    obtain rfl := Option.some.inj h2
    exact uk_lin.self _
  case round =>
    obtain ⟨j, rfl, hj1, hj2, heq, hb⟩ := hrel
    obtain ⟨wi, hwi⟩ : ∃ wi, wi = wr := ⟨_, rfl⟩
    subst hwi
    have HJ := Lib.hid (And.intro heq hb)
    clear heq hb
    by_cases hjn : j < l.length
    · have hy : l[j]? = some l[j] := List.getElem?_eq_getElem hjn
      have hym := List.mem_of_getElem? hy
      generalize l[j] = y at *
      have q2 : (0 : Int) ≤ (j : Int) := by omega
      have q3 : (j : Int) < (l.length : Int) := by omega
      have q4 : decide ((j : Int) < (l.length : Int)) = true := decide_eq_true q3
      have q5 : (0 : Int) < (l.length : Int) := by omega
      have HYJ := Lib.hid (And.intro hy hym)
      have u1 : ∀ p : Past wi, Calls Tryz.prog 25 #[.agg #[.slice x0.kA x0.key.length x0.kc, .slice x0.rA x0.row.length x0.rc, .int .u64 (x0.t.e : Int), .int .u64 (x0.t.a : Int), .int .u64 (x0.t.b : Int), .int .i64 x0.d], .agg #[.slice y.kA y.key.length y.kc, .slice y.rA y.row.length y.rc, .int .u64 (y.t.e : Int), .int .u64 (y.t.a : Int), .int .u64 (y.t.b : Int), .int .i64 y.d]] p.w fun e w'' => e = .returned (.int .i64 (x0.k.cmp y.k)) ∧ ∃ q : Past wi, w'' = q.w := fun p => by
        have hp := HJ.out.2.trans (p.h.mono HJ.out.2.size)
        exact calls_past ((dcompare_gr x0 y p.w (((HL.out.1.each_ x0 HM.out).past hp (Nat.le_refl _)).wide hp.size) (((HL.out.1.each_ y HYJ.out.2).past hp (Nat.le_refl _)).wide hp.size) (HL.out.2.1 x0 HM.out) (HL.out.2.1 y HYJ.out.2)).mono fun e w' h => ⟨h.1, h.2.below⟩)
      have u2 := fun p : Past wi => H0.out p.w (HJ.out.2.trans (p.h.mono HJ.out.2.size))
      have u3 := fun p : Past wi => HY.out p.w (HJ.out.2.trans (p.h.mono HJ.out.2.size)) j y HYJ.out.1
      simp only [Nat.zero_mul, Nat.add_zero] at u2
      obtain ⟨r, hr⟩ : ∃ r, x0.k.cmp y.k = r := ⟨_, rfl⟩
      rw [hr] at u1
      have HR := Lib.hid hr
      clear hr hy hym
      by_cases hr0 : r = 0
      · have t1 : (r == 0) = true := beq_iff_eq.2 hr0
        have HR0 := Lib.hid hr0
        clear hr0
        go_upto_region 2 with fail
        refine wp_region_past wi (by kernel_rfl) (by kernel_rfl) (Below.refl _ _) ?_
        repeat (first | go_big_quiet_step ((go_at_call 25; exact u1 _)) | quiet_step ((go_at_call 25; exact u1 _)))
        refine wpQuiet_nil ?_
        intro wz hw'
        obtain ⟨⟨wy, hbz⟩, hw''⟩ := hw'
        dsimp only at hw''
        subst hw''
        have HZ := Lib.hid (HJ.out.2.trans (hbz.mono HJ.out.2.size))
        clear u1 u2 u3 hbz t1
        go_wp2_with fail
        go_roundw
        case rel =>
          refine ⟨j + 1, by go_num, by omega, by omega, fun m z h1 h2 => ?_, HZ.out⟩
          by_cases hmj : m = j
          · subst hmj
            rw [HYJ.out.1] at h2
            obtain rfl := Option.some.inj h2
            rw [HR.out, HR0.out]
          · exact HJ.out.1 m z (by omega) h2
        case measure => simp [intOf]; omega
      · have t1 : (r == 0) = false := beq_eq_false_iff_ne.2 hr0
        have HR0 := Lib.hid hr0
        clear hr0
        go_upto_region 2 with fail
        refine wp_region_past wi (by kernel_rfl) (by kernel_rfl) (Below.refl _ _) ?_
        repeat (first | go_big_quiet_step ((go_at_call 25; exact u1 _)) | quiet_step ((go_at_call 25; exact u1 _)))
        refine wpQuiet_nil ?_
        intro wz hw'
        obtain ⟨⟨wy, hbz⟩, hw''⟩ := hw'
        dsimp only at hw''
        subst hw''
        have HZ := Lib.hid (HJ.out.2.trans (hbz.mono HJ.out.2.size))
        clear u1 u2 u3 hbz t1
        go_wp2_with fail
        go_ret
        exact ⟨j, rfl, by omega, by omega, HJ.out.1, fun z hz => by
          rw [HYJ.out.1] at hz
          obtain rfl := Option.some.inj hz
          rw [HR.out]
          exact HR0.out, HZ.out⟩
    · have q4 : decide ((j : Int) < (l.length : Int)) = false := decide_eq_false (by omega)
      go_upto_region 2 with fail
      go_quiet (fail)
      go_wp2_with fail
      go_ret
      exact ⟨j, rfl, by omega, by omega, HJ.out.1, fun z hz => by
        have := (List.getElem?_eq_some_iff.1 hz).1
        omega, below_draws HJ.out.2 _⟩
end Go.Proofs.YtllpfngmnccejaaGreat
namespace Go.Proofs.YtllpfngmnccejaaGreat
open Go Go.RowKit

/-- every sum fits -/
def fitU (l : List Up) : Bool := (asm Uk.cmp (l.map Up.p)).all fun x => fits x.2
/-- all ahead of place k stand before all behind it -/
def BdU (S : List Up) (k : Nat) : Prop := ∀ a ∈ S.take k, ∀ b ∈ S.drop k, a.k.cmp b.k < 0
theorem cons_group {l : List Up} (h : ∀ u ∈ l, chkU u = 0) : consE [l] = (if fitU l = true then 0 else 10) ∧ consL [l] = (if fitU l = true then nz Uk.cmp (l.map Up.p) else []) := by
  have hc : chkLs [l] = 0 := chkLs_all.2 fun m hm => by
    obtain rfl : m = l := by simpa using hm
    exact chkUs_all.2 h
  unfold consE consL
  rw [if_pos hc, if_pos hc]
  simp only [List.flatten_cons, List.flatten_nil, List.append_nil]
  exact ⟨rfl, rfl⟩
theorem end_step {S : List Up} (hs : S.Pairwise fun x y => x.k.cmp y.k ≤ 0) (hc : ∀ u ∈ S, chkU u = 0) {k n : Nat} {x : Up} (hx : S[k]? = some x) (hn1 : 1 ≤ n)
    (heq : ∀ m y, m < n → (S.drop k)[m]? = some y → x.k.cmp y.k = 0) (hmax : ∀ y, (S.drop k)[n]? = some y → x.k.cmp y.k ≠ 0) (hb : BdU S k) :
    BdU S (k + n) ∧ (fitU (S.take (k + n)) = (fitU (S.take k) && fitU ((S.drop k).take n))) ∧ nz Uk.cmp ((S.take (k + n)).map Up.p) = nz Uk.cmp ((S.take k).map Up.p) ++ nz Uk.cmp (((S.drop k).take n).map Up.p) := by
  have htk : S.take (k + n) = S.take k ++ (S.drop k).take n := by rw [List.take_add]
  have hlt : ∀ a ∈ (S.take k).map Up.p, ∀ b ∈ ((S.drop k).take n).map Up.p, Uk.cmp a.1 b.1 < 0 := fun a ha b hb' => by
    obtain ⟨a', ha', rfl⟩ := List.mem_map.1 ha
    obtain ⟨b', hb'', rfl⟩ := List.mem_map.1 hb'
    exact hb a' ha' b' (List.mem_of_mem_take hb'')
  have hasm := asm_append (cmp := Uk.cmp) hlt
  refine ⟨fun a ha b hb' => ?_, ?_, ?_⟩
  · have hbd : b ∈ S.drop k := by
      rw [← List.drop_drop] at hb'
      exact List.mem_of_mem_drop hb'
    rw [htk] at ha
    rcases List.mem_append.1 ha with ha | ha
    · exact hb a ha b hbd
    · obtain ⟨m, hm⟩ := List.getElem?_of_mem ha
      have hmn : m < n := by have := (List.getElem?_eq_some_iff.1 hm).1; rw [List.length_take] at this; omega
      rw [List.getElem?_take_of_lt hmn] at hm
      have h0 := heq m a hmn hm
      obtain ⟨i, hi⟩ := List.getElem?_of_mem hb'
      rw [List.getElem?_drop] at hi
      have hlen := (List.getElem?_eq_some_iff.1 hi).1
      have hkn : k + n < S.length := by omega
      have hy : S[k + n]? = some S[k + n] := List.getElem?_eq_getElem hkn
      have hne := hmax S[k + n] (by rw [List.getElem?_drop]; exact hy)
      have hpw := fun i j (hi : i < S.length) (hj : j < S.length) (h : i < j) => List.pairwise_iff_getElem.1 hs i j hi hj h
      obtain ⟨hkl, hxe⟩ := List.getElem?_eq_some_iff.1 hx
      have h1 := hpw k (k + n) hkl hkn (by omega)
      rw [hxe] at h1
      have hxb : x.k.cmp b.k < 0 := by
        obtain ⟨hbl, hbe⟩ := List.getElem?_eq_some_iff.1 hi
        rcases Nat.eq_zero_or_pos i with h | h
        · subst h
          rw [← hbe]
          have : S[k + n + 0] = S[k + n] := rfl
          rw [this]
          omega
        · have h3 := hpw (k + n) (k + n + i) hkn hbl (by omega)
          rw [hbe] at h3
          exact uk_lin.lt_le (by omega) h3
      have := uk_lin.swap x.k a.k
      exact uk_lin.le_lt (by omega) hxb
  · unfold fitU
    rw [htk, List.map_append, hasm, List.all_append]
  · unfold nz
    rw [htk, List.map_append, hasm, List.filter_append]
theorem fitU_perm {S M : List Up} (hp : S.Perm M) (hc : ∀ u ∈ M, chkU u = 0) : fitU S = fitU M ∧ nz Uk.cmp (S.map Up.p) = nz Uk.cmp (M.map Up.p) := by
  have h1 : nz Uk.cmp (S.map Up.p) = nz Uk.cmp (M.map Up.p) := nz_ext uk_lin (R := UkR) (keys_right fun u hu => hc u (hp.mem_iff.1 hu)) (keys_right hc) fun k => sumOf_perm (hp.map Up.p) k
  refine ⟨?_, h1⟩
  unfold fitU
  rw [fit_all, fit_all, h1]
theorem resE_fit (l : List Up) : resE Uk.cmp (l.map Up.p) = 0 ↔ fitU l = true := by
  unfold resE fitU
  split
  · rename_i h; exact ⟨fun _ => h, fun _ => rfl⟩
  · rename_i h; exact ⟨fun e => by omega, fun e => absurd e h⟩
/-- 'append(v, s...)': which block grew, and where -/
theorem wpList_append_grown {α : Type} {size : Nat} {cells : α → List Value} {B : Nat} {A : Option Addr} {l : List α} {P : Program} (w : World) {ops : Array Oper} {rest : List Oper} {o : Oper} {a : Act} {Q : Exit → Act → World → Prop} (hgd : o.guard = none) (s x : Operand) (t e : TypeId)
    (ho : o.op = .call { callee := .builtin .append, args := #[s, x], argTypes := #[t, t] })
    (i0 : TypeInfo) (z : Value) (bytes : Nat) (ht : P.underlying t = some (.slice e)) (hi : P.info? e = some i0) (hz0 : i0.zero = some z) (hz1 : i0.size = size) (hz2 : i0.bytes = bytes) (hzs : z.cells.size = size) (hpos : 0 < size) (hcl : ∀ x, (cells x).length = size) (hone : ∀ x, ∀ u ∈ cells x, u.oneCell' = true)
    (base : Nat) (v : Value) (n : Nat) (xs : List Value) (hs : a.eval s = v) (hown : w.ownsRow base e size v n xs)
    (c : Nat) (hx : a.eval x = .slice A l.length c) (hl : Lies size cells w B A l) (h63 : n + l.length ≤ maxLen) (hn : (n + l.length) * bytes ≤ 140737488355328) (hbase : base ≤ w.heap.size)
    (h : ∀ v' w', w'.ownsRow base e size v' (n + l.length) (xs ++ l.flatMap cells) → Below base w w' → (v'.ownBlock = v.ownBlock ∨ v'.ownBlock = some w.heap.size) → w.grownBy w' v.ownBlock → wpList P ops Q rest (a.put o.dst v') w') :
    wpList P ops Q (o :: rest) a w := by
  refine wpList_plain hgd fun K hK => ?_
  obtain ⟨v', w', hrun, ho', hb, hk, hz⟩ : ∃ v' w', (Builtin.append_ #[t, t] o.type #[v, .slice A l.length c]).run P w = .ok v' w' ∧ w'.ownsRow base e size v' (n + l.length) (xs ++ l.flatMap cells) ∧ Below base w w' ∧ (v'.ownBlock = v.ownBlock ∨ v'.ownBlock = some w.heap.size) ∧ w.grownBy w' v.ownBlock := by
    cases A with
    | none =>
      have h0 : l = [] := by
        cases l with
        | nil => rfl
        | cons x l => obtain ⟨_, _, e, _⟩ := hl (by simp); cases e
      subst h0
      exact ⟨v, w, run_append_none w base _ _ _ i0 size ht hi v n xs hown c, by simpa using hown, Below.refl _ _, .inl rfl, ⟨rfl, rfl, rfl, Nat.le_refl _, fun _ _ _ => rfl⟩⟩
    | some ad =>
      have hnews : ∀ j u, (l.flatMap cells)[j]? = some u → w.cell? (ad.add j) = some u := by
        intro j u hu
        obtain ⟨i, r, y, rfl, hi, hr⟩ := flat_back hpos hcl l j u hu
        have hp : 0 < l.length := by have := (List.getElem?_eq_some_iff.1 hi).1; omega
        obtain ⟨b, o, e, _, hc⟩ := hl hp
        obtain rfl : ad = ⟨b, o, none⟩ := by injection e
        have ea : (⟨b, o, none⟩ : Addr).add (i * size + r) = ⟨b, o + i * size + r, none⟩ := by unfold Addr.add; split <;> simp_all <;> omega
        rw [ea]
        exact hc i y hi r u hr
      obtain ⟨v', w', hr, h2, h3, _, h5⟩ := run_append_own_at (P := P) w base t o.type e i0 _ size bytes ht hi hz0 hz1 hz2 hzs hpos v n xs hown ad l.length c (l.flatMap cells) (flat_size hcl l) hnews
        (fun u hu => by obtain ⟨y, _, hy⟩ := List.mem_flatMap.1 hu; exact hone y u hy) h63 hn hbase
      exact ⟨v', w', hr, h2, (Below.refl base w).grown h3 hbase (fun k hk => (hown.lt k hk).1), h5, h3⟩
  unfold Oper.wp execOp
  simp only [ho, resolve, invoke, builtin, Sem.run_bind, Sem.run_pure, Result.andThen_ok, List.map_toArray, List.map_cons, List.map_nil, hs, hx, hrun]
  exact hK _ _ (h v' w' ho' hb hk hz)
end Go.Proofs.YtllpfngmnccejaaGreat
