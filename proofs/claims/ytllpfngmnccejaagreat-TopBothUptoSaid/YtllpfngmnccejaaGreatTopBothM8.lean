/- Part 8 of the texts on which TopBoth rests: facts and contracts. -/
import Derived.Test.YtllpfngmnccejaaGreatTopBothM7
import Derived.Lib.Bytealg
import Derived.Laws.CopyRow
import Derived.Laws.CopyOwn
import Derived.OwnWalk
import Derived.Lib.AppendZerosOnto
import Derived.Lib.Overlaps
import Derived.Laws.Externs
import Derived.Test.YtllpfngmnccejaaGreatProg
import Derived.Deep.Draws
import Derived.Deep.RegionLaw
import Derived.Outline
import Derived.Handy
import Derived.Test.YtllpfngmnccejaaGreatShelf
import Derived.Deep.Cut
import Derived.Deep.DeepCutAuto
import Derived.BigQuiet
import Derived.Deep.RegionHeld3
import Derived.Lib.SlBuf
namespace Go.Proofs.YtllpfngmnccejaaGreat
open Go Go.RowKit

theorem psum_append {K : Type} (p : K → Bool) : ∀ a b : List (K × Int), psum p (a ++ b) = psum p a + psum p b
  | [], b => by simp [psum]
  | x :: a, b => by simp only [List.cons_append, psum, psum_append p a b]; omega
theorem atP_cons (u : Up) (l : List Up) (t : Tm) : atP (u :: l) t = if u.t.le t = true then (u.row, u.d) :: atP l t else atP l t := by
  unfold atP
  rw [List.filter_cons]
  split <;> simp
/-- 1 where two rows make the row r -/
def makesR (r : List Vl) (x y : List Vl) : Int := if cmpRows (x ++ y) r = 0 then 1 else 0
theorem psum_row (t : Tm) (r : List Vl) (x : Up) : ∀ b : List Up, psum (fun k : Uk => k.t.le t && decide (cmpRows k.row r = 0)) (b.map (joinP x)) = if x.t.le t = true then wsum (fun y => makesR r x.row y) (atP b t) * x.d else 0
  | [] => by simp [psum, atP, wsum]
  | y :: b => by
    have ih := psum_row t r x b
    rw [List.map_cons, atP_cons]
    simp only [psum, ih]
    show (if ((x.t.sup y.t).le t && decide (cmpRows (x.row ++ y.row) r = 0)) = true then x.d * y.d else 0) + _ = _
    rw [lub_le]
    cases hx : x.t.le t
    · simp
    · cases hy : y.t.le t
      · simp
      · by_cases h0 : cmpRows (x.row ++ y.row) r = 0
        · simp only [h0, decide_true, Bool.and_self, if_true, wsum, makesR, Int.one_mul, Int.add_mul]
          rw [Int.mul_comm x.d y.d]
        · simp [h0, wsum, makesR]
theorem ofKey_bare {b : List Up} (hb : ∀ y ∈ b, y.key = []) : ofKey [] b = b := List.filter_eq_self.2 fun y hy => by rw [hb y hy]; rfl
theorem psum_pairs {b : List Up} (hb : ∀ y ∈ b, y.key = []) (t : Tm) (r : List Vl) : ∀ a : List Up, (∀ x ∈ a, x.key = []) → psum (fun k : Uk => k.t.le t && decide (cmpRows k.row r = 0)) (pairsP a b) = bsum (makesR r) (atP a t) (atP b t)
  | [], _ => rfl
  | x :: a, ha => by
    have ih := psum_pairs hb t r a fun y hy => ha y (List.mem_cons_of_mem _ hy)
    unfold pairsP at *
    rw [List.flatMap_cons, psum_append, ih, ha x List.mem_cons_self, ofKey_bare hb, psum_row, atP_cons]
    unfold bsum
    split
    · rfl
    · omega
/-- the sums at a time: of what they make, and of what is there of both, evened out -/
theorem there_pairs {a b p : List Up} {t : Tm} (ha : ∀ x ∈ a, x.key = []) (hb : ∀ y ∈ b, y.key = []) (hR : ∀ q ∈ pairsP a b, UkR q.1) (hp : p.map Up.p = nz Uk.cmp (pairsP a b)) (ca : chkUs a = 0) (cb : chkUs b = 0) (r : List Vl) :
    sumOf cmpRows (atP p t) r = ((nz cmpRows (atP a t)).flatMap fun x => (nz cmpRows (atP b t)).map fun y => makesR r x.1 y.1 * (x.2 * y.2)).sum := by
  rw [at_sum, hp, psum_nz uk_lin _ hR, psum_pairs hb t r a ha, ← bsum_pairs, bsum_nz row_lin _ (at_right ca) (at_right cb)]
end Go.Proofs.YtllpfngmnccejaaGreat
namespace Go.Proofs.YtllpfngmnccejaaGreat
open Go Go.RowKit

def negX (x : Uk × Int) : Uk × Int := (x.1, -x.2)
theorem sumOf_neg (l : List (Uk × Int)) (k : Uk) : sumOf Uk.cmp (l.map negX) k = - sumOf Uk.cmp l k := by
  induction l with
  | nil => rfl
  | cons x l ih =>
    simp only [List.map_cons, sumOf, ih, negX]
    split <;> omega
theorem fitE_zero {S : Int} (h : fitE S = 0) : fitN S = S := by
  unfold fitE at h
  unfold fitN
  split at h
  · rename_i h1; rw [if_pos h1]
  · omega
theorem made_neg {l : List Up} (h : okAll mkNeg l = true) : l.map (madeP mkNeg) = (l.map (madeP mkKeep)).map negX := by
  rw [List.map_map]
  refine List.map_congr_left fun u hu => ?_
  have h1 := List.all_eq_true.1 h u hu
  have h2 : fitE (u.d * -1) = 0 := by simpa [mkNeg] using h1
  show madeP mkNeg u = negX (madeP mkKeep u)
  unfold madeP negX mkNeg mkKeep
  dsimp only
  rw [fitE_zero h2]
  simp
theorem made_right {mk : Mk} {l : List Up} (hmk : ∀ u ∈ l, chkRow (mk u).1 = 0) (h : chkUs l = 0) : ∀ x ∈ l.map (madeP mk), UkR x.1 := fun x hx => by
  obtain ⟨u, hu, rfl⟩ := List.mem_map.1 hx
  have hc := chkUs_all.1 h u hu
  have ht : chk [u.t] = 0 := (chkK_zero hc).2.2
  show chkK ⟨[], (mk u).1, u.t⟩ = 0
  unfold chkK orI
  dsimp only
  rw [hmk u hu, ht]
  rfl
theorem keep_row {l : List Up} (h : chkUs l = 0) : ∀ u ∈ l, chkRow u.row = 0 := fun u hu => (chkK_zero (chkUs_all.1 h u hu)).2.1
/-- what was made without a key has none -/
theorem made_nokey {mk : Mk} {l out : List Up} (h : out.map Up.p = nz Uk.cmp (l.map (madeP mk))) : ∀ x ∈ out, x.key = [] := fun x hx => by
  have : x.p ∈ nz Uk.cmp (l.map (madeP mk)) := by rw [← h]; exact List.mem_map.2 ⟨x, hx, rfl⟩
  obtain ⟨z, hz, e⟩ := nz_keys this
  obtain ⟨u, _, rfl⟩ := List.mem_map.1 hz
  have : x.k = (⟨[], (mk u).1, u.t⟩ : Uk) := e.symm
  exact congrArg Uk.key this
theorem keep_same {out : List Up} (h : ∀ x ∈ out, x.key = []) : out.map (madeP mkKeep) = out.map Up.p := List.map_congr_left fun x hx => by
  unfold madeP mkKeep Up.p Up.k
  rw [h x hx]
theorem twice_same {l a : List Up} (hc : chkUs l = 0) (hl : okAll mkNeg l = true) (ha : a.map Up.p = nz Uk.cmp (l.map (madeP mkNeg))) (hca : chkUs a = 0) (hoa : okAll mkNeg a = true) :
    nz Uk.cmp (a.map (madeP mkNeg)) = nz Uk.cmp (l.map (madeP mkKeep)) := by
  refine nz_ext uk_lin (R := UkR) (made_right (keep_row hca) hca) (made_right (keep_row hc) hc) fun k => ?_
  rw [made_neg hoa, sumOf_neg, keep_same (made_nokey ha), ha, nz_sum uk_lin, made_neg hl, sumOf_neg]
  omega
end Go.Proofs.YtllpfngmnccejaaGreat
namespace Go.Proofs.YtllpfngmnccejaaGreat
open Go Go.RowKit

/-- 1 where two make k -/
def makesK (k x y : Uk) : Int := if Uk.cmp ⟨[], x.row ++ y.row, x.t.sup y.t⟩ k = 0 then 1 else 0
theorem sum_row (k : Uk) (x : Up) : ∀ b : List Up, sumOf Uk.cmp (b.map (joinP x)) k = wsum (makesK k x.k) (b.map Up.p) * x.d
  | [] => by simp [sumOf, wsum]
  | y :: b => by
    have ih := sum_row k x b
    simp only [List.map_cons, sumOf, ih, wsum, Int.add_mul]
    show (if Uk.cmp ⟨[], x.row ++ y.row, x.t.sup y.t⟩ k = 0 then x.d * y.d else 0) + _ = _
    have e : makesK k x.k y.p.1 = if Uk.cmp ⟨[], x.row ++ y.row, x.t.sup y.t⟩ k = 0 then 1 else 0 := rfl
    rw [e]
    split
    · rw [Int.one_mul, Int.mul_comm x.d y.d]; rfl
    · simp
theorem sum_pairs {b : List Up} (hb : ∀ y ∈ b, y.key = []) (k : Uk) : ∀ a : List Up, (∀ x ∈ a, x.key = []) → sumOf Uk.cmp (pairsP a b) k = bsum (makesK k) (a.map Up.p) (b.map Up.p)
  | [], _ => rfl
  | x :: a, ha => by
    have ih := sum_pairs hb k a fun y hy => ha y (List.mem_cons_of_mem _ hy)
    unfold pairsP at *
    rw [List.flatMap_cons, sumOf_append, ih, ha x List.mem_cons_self, ofKey_bare hb, sum_row]
    rfl
theorem wsum_negX (F : Uk → Int) (l : List (Uk × Int)) : wsum F (l.map negX) = - wsum F l := wsum_neg F l
theorem wsum_minus (F G : Uk → Int) (h : ∀ x, G x = - F x) : ∀ l : List (Uk × Int), wsum G l = - wsum F l
  | [] => rfl
  | x :: l => by
    have ih := wsum_minus F G h l
    simp only [wsum, ih, h, Int.neg_mul]
    omega
theorem pairs_bare {a b p : List Up} (h : p.map Up.p = nz Uk.cmp (pairsP a b)) : ∀ x ∈ p, x.key = [] := fun x hx => by
  have : x.p ∈ nz Uk.cmp (pairsP a b) := by rw [← h]; exact List.mem_map.2 ⟨x, hx, rfl⟩
  obtain ⟨z, hz, e⟩ := nz_keys this
  obtain ⟨u, _, hz⟩ := List.mem_flatMap.1 hz
  obtain ⟨v, _, rfl⟩ := List.mem_map.1 hz
  exact congrArg Uk.key e.symm
theorem both_same {a b c p x y : List Up} (ha : ∀ u ∈ a, u.key = []) (hb : ∀ u ∈ b, u.key = []) (cb : chkUs b = 0) (nb : okAll mkNeg b = true) (np : okAll mkNeg p = true)
    (hc : c.map Up.p = nz Uk.cmp (b.map (madeP mkNeg))) (rc : ∀ q ∈ pairsP a c, UkR q.1) (rb : ∀ q ∈ pairsP a b, UkR q.1)
    (hx : x.map Up.p = nz Uk.cmp (pairsP a c)) (hp : p.map Up.p = nz Uk.cmp (pairsP a b)) (hy : y.map Up.p = nz Uk.cmp (p.map (madeP mkNeg))) : x.map Up.p = y.map Up.p := by
  have hpk := pairs_bare hp
  have hck := made_nokey hc
  have rp : ∀ q ∈ p.map Up.p, UkR q.1 := fun q hq => by rw [hp] at hq; exact nz_right rb q hq
  rw [hx, hy, made_neg np, keep_same hpk]
  refine nz_ext uk_lin (R := UkR) rc (fun q hq => ?_) fun k => ?_
  · obtain ⟨z, hz, rfl⟩ := List.mem_map.1 hq
    exact rp z hz
  · rw [sum_pairs hck k a ha, sumOf_neg, hp, nz_sum uk_lin, sum_pairs hb k a ha, hc, made_neg nb, keep_same hb]
    unfold bsum
    refine wsum_minus _ _ (fun u => ?_) _
    rw [wsum_nz uk_lin (R := UkR) _ (fun q hq => ?_), wsum_negX]
    obtain ⟨z, hz, rfl⟩ := List.mem_map.1 hq
    exact keys_right (chkUs_all.1 cb) z hz
end Go.Proofs.YtllpfngmnccejaaGreat
namespace Go.Proofs.YtllpfngmnccejaaGreat
open Go Go.RowKit

theorem u8_eqK {a b : UInt8} (h1 : ¬ a < b) (h2 : ¬ b < a) : a = b := by
  rw [UInt8.lt_iff_toNat_lt] at h1 h2
  exact UInt8.toNat_inj.1 (by omega)
theorem cmpB_casesK : ∀ a b : List UInt8, (Lib.compareBytes a b = -1 ∧ Op.bytesLess a b = true) ∨ (Lib.compareBytes a b = 0 ∧ Op.bytesLess a b = false ∧ a = b) ∨ (Lib.compareBytes a b = 1 ∧ Op.bytesLess a b = false ∧ a ≠ b)
  | [], [] => .inr (.inl ⟨rfl, rfl, rfl⟩)
  | [], _ :: _ => .inl ⟨rfl, rfl⟩
  | _ :: _, [] => .inr (.inr ⟨rfl, rfl, by simp⟩)
  | x :: a, y :: b => by
    have ih := cmpB_casesK a b
    unfold Lib.compareBytes Op.bytesLess
    by_cases h1 : x < y
    · left; simp [h1]
    · by_cases h2 : y < x
      · have hne : x ≠ y := fun e => by subst e; exact h1 h2
        right; right; simp [h1, h2, hne]
      · have he := u8_eqK h1 h2
        subst he
        simpa [h1] using ih


theorem cmpB_swapK : ∀ a b : List UInt8, Lib.compareBytes b a = - Lib.compareBytes a b
  | [], [] => rfl
  | [], _ :: _ => rfl
  | _ :: _, [] => rfl
  | x :: a, y :: b => by
    have ih := cmpB_swapK a b
    unfold Lib.compareBytes
    by_cases h1 : x < y
    · have h2 : ¬ y < x := by rw [UInt8.lt_iff_toNat_lt] at *; omega
      simp [h1, h2]
    · by_cases h2 : y < x
      · simp [h1, h2]
      · simp [h1, h2, ih]
theorem cmpB_zeroK {a b : List UInt8} : Lib.compareBytes a b = 0 ↔ a = b := by
  rcases cmpB_casesK a b with ⟨h, _⟩ | ⟨h, _, rfl⟩ | ⟨h, _, hn⟩
  · rw [h]; refine ⟨fun h => by omega, fun e => ?_⟩
    subst e
    have := cmpB_swapK a a
    omega
  · simp [h]
  · rw [h]; exact ⟨fun h => by omega, fun e => absurd e hn⟩
theorem cmpB_leK : ∀ a b c : List UInt8, Lib.compareBytes a b ≤ 0 → Lib.compareBytes b c ≤ 0 → Lib.compareBytes a c ≤ 0 ∧ (Lib.compareBytes a b < 0 ∨ Lib.compareBytes b c < 0 → Lib.compareBytes a c < 0)
  | [], _, [], _, h => by
    rename_i b _
    cases b with
    | nil => exact ⟨by decide, by decide⟩
    | cons x b => simp [Lib.compareBytes] at h
  | [], [], _ :: _, _, _ => ⟨by simp [Lib.compareBytes], fun _ => by simp [Lib.compareBytes]⟩
  | [], _ :: _, _ :: _, _, _ => ⟨by simp [Lib.compareBytes], fun _ => by simp [Lib.compareBytes]⟩
  | _ :: _, [], _, h, _ => by simp [Lib.compareBytes] at h
  | _ :: _, _ :: _, [], _, h => by simp [Lib.compareBytes] at h
  | x :: a, y :: b, z :: c, h, k => by
    have ih := cmpB_leK a b c
    unfold Lib.compareBytes at h k ⊢
    simp only [UInt8.lt_iff_toNat_lt] at *
    by_cases h1 : x.toNat < y.toNat
    · by_cases h2 : y.toNat < z.toNat
      · have h3 : x.toNat < z.toNat := by omega
        simp [h1, h2, h3]
      · by_cases h4 : z.toNat < y.toNat
        · simp [h2, h4] at k
        · have h3 : x.toNat < z.toNat := by omega
          simp [h1, h2, h4, h3]
    · by_cases h5 : y.toNat < x.toNat
      · simp [h1, h5] at h
      · by_cases h2 : y.toNat < z.toNat
        · have h3 : x.toNat < z.toNat := by omega
          simp [h1, h5, h2, h3]
        · by_cases h4 : z.toNat < y.toNat
          · simp [h2, h4] at k
          · have h3 : ¬ x.toNat < z.toNat := by omega
            have h6 : ¬ z.toNat < x.toNat := by omega
            simp only [h1, h5, h2, h4, h3, h6, if_false] at h k ⊢
            exact ih h k

/-- a file: its name, and what it contains -/
structure Fl where
  n : ByteArray
  d : ByteArray
instance : Inhabited Fl := ⟨⟨⟨#[]⟩, ⟨#[]⟩⟩⟩
def cmpN (a b : ByteArray) : Int := Lib.compareBytes a.data.toList b.data.toList
theorem bytes_eq {a b : ByteArray} : a.data.toList = b.data.toList ↔ a = b := ⟨str_ext, fun h => by rw [h]⟩
theorem cmpN_zero {a b : ByteArray} : cmpN a b = 0 ↔ a = b := by unfold cmpN; rw [cmpB_zeroK, bytes_eq]
theorem cmpN_swap (a b : ByteArray) : cmpN b a = - cmpN a b := cmpB_swapK _ _
theorem cmpN_lt {a b c : ByteArray} (h : cmpN a b < 0) (k : cmpN b c < 0) : cmpN a c < 0 := (cmpB_leK _ _ _ (by unfold cmpN at h; omega) (by unfold cmpN at k; omega)).2 (.inl h)
theorem cmpN_le {a b c : ByteArray} (h : cmpN a b ≤ 0) (k : cmpN b c < 0) : cmpN a c < 0 := (cmpB_leK _ _ _ h (by unfold cmpN at k; omega)).2 (.inr k)
theorem cmpN_le' {a b c : ByteArray} (h : cmpN a b < 0) (k : cmpN b c ≤ 0) : cmpN a c < 0 := (cmpB_leK _ _ _ (by unfold cmpN at h; omega) k).2 (.inl h)
theorem cmpN_self (a : ByteArray) : cmpN a a = 0 := cmpN_zero.2 rfl
/-- names that ascend -/
def SortedN (ns : List ByteArray) : Prop := ns.Pairwise (fun a b => cmpN a b < 0)
def posN (ns : List ByteArray) (n : ByteArray) : Nat := ns.countP (fun x => decide (cmpN x n < 0))
def hasN (ns : List ByteArray) (n : ByteArray) : Bool := ns.any (fun x => decide (x = n))
theorem hasN_mem {ns : List ByteArray} {n : ByteArray} : hasN ns n = true ↔ n ∈ ns := by
  unfold hasN; rw [List.any_eq_true]
  exact ⟨fun ⟨x, hx, e⟩ => by have := of_decide_eq_true e; rwa [← this], fun h => ⟨n, h, by simp⟩⟩
theorem hasN_not {ns : List ByteArray} {n : ByteArray} : hasN ns n = false ↔ n ∉ ns := by rw [← hasN_mem]; simp
theorem posN_le (ns : List ByteArray) (n : ByteArray) : posN ns n ≤ ns.length := List.countP_le_length
theorem posN_zero {ns : List ByteArray} {n : ByteArray} (h : ∀ x ∈ ns, 0 ≤ cmpN x n) : posN ns n = 0 := by
  unfold posN; rw [List.countP_eq_zero]; intro x hx; have := h x hx; simp; omega
theorem posN_at {ns : List ByteArray} {n : ByteArray} (hs : SortedN ns) : ∀ i x, ns[i]? = some x → (i < posN ns n ↔ cmpN x n < 0) := by
  induction ns with
  | nil => simp
  | cons y r ih =>
    obtain ⟨h1, h2⟩ := List.pairwise_cons.1 hs
    intro i x hx
    by_cases hy : cmpN y n < 0
    · have e : posN (y :: r) n = posN r n + 1 := by unfold posN; rw [List.countP_cons]; simp [hy]
      rw [e]
      cases i with
      | zero => obtain rfl : y = x := by simpa using hx
                exact ⟨fun _ => hy, fun _ => by omega⟩
      | succ i =>
        have := ih h2 i x (by simpa using hx)
        rw [← this]; omega
    · have e : posN (y :: r) n = 0 := posN_zero fun x hx => by
        rcases List.mem_cons.1 hx with rfl | hx
        · omega
        · have hyx := h1 x hx
          by_cases hc : 0 ≤ cmpN x n
          · exact hc
          · have := cmpN_lt hyx (show cmpN x n < 0 by omega); omega
      rw [e]
      refine ⟨fun h => by omega, fun h => ?_⟩
      exfalso
      cases i with
      | zero => obtain rfl : y = x := by simpa using hx
                exact hy h
      | succ i =>
        have hm : x ∈ r := List.mem_of_getElem? (show r[i]? = some x by simpa using hx)
        exact hy (cmpN_lt (h1 x hm) h)
/-- where a name stands that is there -/
theorem posN_has {ns : List ByteArray} {n : ByteArray} (hs : SortedN ns) (h : hasN ns n = true) : ns[posN ns n]? = some n := by
  have hm : n ∈ ns := hasN_mem.1 h
  obtain ⟨i, hi⟩ := List.getElem?_of_mem hm
  have h0 := (posN_at (n := n) hs i n hi)
  rw [cmpN_self] at h0
  have hle : posN ns n ≤ i := by omega
  rcases Nat.lt_or_ge (posN ns n) i with hlt | hge
  · have hin : i < ns.length := (List.getElem?_eq_some_iff.1 hi).1
    have hx : ns[posN ns n]? = some (ns[posN ns n]'(by omega)) := List.getElem?_eq_getElem (by omega)
    have h1 := posN_at (n := n) hs _ _ hx
    have h2 : cmpN (ns[posN ns n]'(by omega)) n < 0 := by
      have := List.pairwise_iff_getElem.1 hs (posN ns n) i (by omega) hin hlt
      rwa [(List.getElem?_eq_some_iff.1 hi).2] at this
    omega
  · have : posN ns n = i := by omega
    rw [this]; exact hi
theorem posN_not {ns : List ByteArray} {n : ByteArray} (h : hasN ns n = false) : ns[posN ns n]? ≠ some n := by
  intro hx
  exact hasN_not.1 h (List.mem_of_getElem? hx)
def namesF (l : List Fl) : List ByteArray := l.map Fl.n
def SortedF (l : List Fl) : Prop := SortedN (namesF l)
def posF (l : List Fl) (n : ByteArray) : Nat := posN (namesF l) n
def hasF (l : List Fl) (n : ByteArray) : Bool := hasN (namesF l) n
theorem posF_le (l : List Fl) (n : ByteArray) : posF l n ≤ l.length := by have := posN_le (namesF l) n; simpa [namesF, posF] using this
/-- one put in, one taken away, one made longer, one called otherwise -/
def putF (l : List Fl) (f : Fl) : List Fl := l.take (posF l f.n) ++ f :: l.drop (posF l f.n)
def takeF (l : List Fl) (n : ByteArray) : List Fl := if hasF l n then l.take (posF l n) ++ l.drop (posF l n + 1) else l
def oldF (l : List Fl) (n : ByteArray) : Fl := (l[posF l n]?).getD ⟨n, ⟨#[]⟩⟩
def extF (l : List Fl) (n d : ByteArray) : List Fl := if hasF l n then l.set (posF l n) ⟨n, (oldF l n).d ++ d⟩ else putF l ⟨n, ⟨#[]⟩ ++ d⟩
def renF (l : List Fl) (n t : ByteArray) : List Fl := if hasF l n then putF (takeF (takeF l n) t) ⟨t, (oldF l n).d⟩ else l
def getF (l : List Fl) (n : ByteArray) : Option ByteArray := (l.find? (fun f => decide (f.n = n))).map Fl.d
theorem hasF_at {l : List Fl} {n : ByteArray} (hs : SortedF l) (h : hasF l n = true) : ∃ d, l[posF l n]? = some ⟨n, d⟩ := by
  have := posN_has hs h
  unfold namesF at this
  rw [List.getElem?_map] at this
  obtain ⟨f, hf, e⟩ := Option.map_eq_some_iff.1 this
  refine ⟨f.d, ?_⟩
  unfold posF namesF
  rw [hf, ← e]
/-- a list that has a name, parted there -/
theorem parted {l : List Fl} {n : ByteArray} (hs : SortedF l) (h : hasF l n = true) : ∃ A d B, l = A ++ ⟨n, d⟩ :: B ∧ A.length = posF l n ∧ (∀ f ∈ A, cmpN f.n n < 0) ∧ (∀ f ∈ B, cmpN n f.n < 0) ∧ oldF l n = ⟨n, d⟩ := by
  obtain ⟨d, hd⟩ := hasF_at hs h
  have hlt := (List.getElem?_eq_some_iff.1 hd).1
  have e : l = l.take (posF l n) ++ ⟨n, d⟩ :: l.drop (posF l n + 1) := by
    have h1 := (List.getElem?_eq_some_iff.1 hd).2
    rw [← h1, ← List.drop_eq_getElem_cons hlt, List.take_append_drop]
  refine ⟨_, d, _, e, by rw [List.length_take]; omega, ?_, ?_, by unfold oldF; rw [hd]; rfl⟩
  · intro f hf
    unfold SortedF SortedN namesF at hs
    rw [e, List.map_append, List.pairwise_append] at hs
    exact hs.2.2 f.n (List.mem_map_of_mem hf) n (by simp)
  · intro f hf
    unfold SortedF SortedN namesF at hs
    rw [e, List.map_append, List.pairwise_append, List.map_cons, List.pairwise_cons] at hs
    exact hs.2.1.1 f.n (List.mem_map_of_mem hf)
/-- .. that has not -/
theorem parted_not {l : List Fl} {n : ByteArray} (hs : SortedF l) (h : hasF l n = false) : (∀ f ∈ l.take (posF l n), cmpN f.n n < 0) ∧ (∀ f ∈ l.drop (posF l n), cmpN n f.n < 0) := by
  have hat := posN_at (n := n) hs
  have hne : ∀ f ∈ l, f.n ≠ n := by
    intro f hf e
    have : n ∈ namesF l := by rw [← e]; exact List.mem_map_of_mem hf
    exact hasN_not.1 h this
  constructor
  · intro f hf
    obtain ⟨i, hi⟩ := List.getElem?_of_mem hf
    rw [List.getElem?_take] at hi
    split at hi
    · rename_i hlt
      exact (hat i f.n (by simp [namesF, hi])).1 hlt
    · cases hi
  · intro f hf
    obtain ⟨i, hi⟩ := List.getElem?_of_mem hf
    rw [List.getElem?_drop] at hi
    have h1 := (hat (posF l n + i) f.n (by simp [namesF, hi]))
    unfold posF at h1
    have h2 : ¬ cmpN f.n n < 0 := fun hc => by have := h1.2 hc; omega
    have h3 : cmpN f.n n ≠ 0 := fun hc => hne f (List.mem_of_mem_drop hf) (cmpN_zero.1 hc)
    rw [cmpN_swap]; omega
theorem take_of_parts {l A B : List Fl} {x : Fl} {p : Nat} (e : l = A ++ x :: B) (hp : A.length = p) : l.take p = A ∧ l.drop p = x :: B ∧ l.drop (p + 1) = B ∧ l[p]? = some x := by
  subst e hp
  refine ⟨by simp, by simp, by rw [← List.drop_drop]; simp, by simp⟩
theorem sorted_parts {A B : List Fl} {f : Fl} (ha : SortedF A) (hb : SortedF B) (h1 : ∀ x ∈ A, cmpN x.n f.n < 0) (h2 : ∀ x ∈ B, cmpN f.n x.n < 0) : SortedF (A ++ f :: B) := by
  unfold SortedF SortedN namesF at *
  rw [List.map_append, List.pairwise_append, List.map_cons, List.pairwise_cons]
  refine ⟨ha, ⟨?_, hb⟩, ?_⟩
  · intro n hn
    obtain ⟨x, hx, rfl⟩ := List.mem_map.1 hn
    exact h2 x hx
  · intro n hn m hm
    obtain ⟨x, hx, rfl⟩ := List.mem_map.1 hn
    rcases List.mem_cons.1 hm with rfl | hm
    · exact h1 x hx
    · obtain ⟨y, hy, rfl⟩ := List.mem_map.1 hm
      exact cmpN_lt (h1 x hx) (h2 y hy)
theorem sorted_sub {l m : List Fl} (h : SortedF l) (hs : m.Sublist l) : SortedF m := List.Pairwise.sublist (hs.map _) h
theorem sorted_put {l : List Fl} {f : Fl} (hs : SortedF l) (h : hasF l f.n = false) : SortedF (putF l f) := by
  obtain ⟨h1, h2⟩ := parted_not hs h
  exact sorted_parts (sorted_sub hs (List.take_sublist _ _)) (sorted_sub hs (List.drop_sublist _ _)) h1 h2
theorem sorted_take {l : List Fl} {n : ByteArray} (hs : SortedF l) : SortedF (takeF l n) := by
  unfold takeF
  split
  · rename_i h
    obtain ⟨A, d, B, e, hp, _, _, _⟩ := parted hs h
    obtain ⟨e1, _, e3, _⟩ := take_of_parts e hp
    rw [e1, e3]
    refine sorted_sub hs ?_
    rw [e]
    exact List.Sublist.append_left (List.sublist_cons_self _ _) _
  · exact hs
theorem names_set {l : List Fl} {n : ByteArray} (hs : SortedF l) (h : hasF l n = true) (d : ByteArray) : namesF (l.set (posF l n) ⟨n, d⟩) = namesF l := by
  obtain ⟨x, hx⟩ := hasF_at hs h
  unfold namesF
  rw [List.map_set]
  apply List.ext_getElem?
  intro i
  rw [List.getElem?_set]
  split
  · rename_i hi
    subst hi
    rw [List.getElem?_map, hx]
    have := (List.getElem?_eq_some_iff.1 hx).1
    simp [this]
  · rfl
theorem sorted_ext {l : List Fl} {n d : ByteArray} (hs : SortedF l) : SortedF (extF l n d) := by
  unfold extF
  split
  · rename_i h; unfold SortedF; rw [names_set hs h]; exact hs
  · rename_i h; exact sorted_put hs (by simpa using h)
theorem has_take {l : List Fl} {n : ByteArray} (hs : SortedF l) : hasF (takeF l n) n = false := by
  by_cases h : hasF l n = true
  · obtain ⟨A, d, B, e, hp, ha, hb, _⟩ := parted hs h
    obtain ⟨e1, _, e3, _⟩ := take_of_parts e hp
    unfold takeF
    rw [if_pos h, e1, e3]
    unfold hasF namesF
    rw [hasN_not]
    intro hm
    obtain ⟨f, hf, rfl⟩ := List.mem_map.1 hm
    rcases List.mem_append.1 hf with hf | hf
    · have := ha f hf; rw [cmpN_self] at this; omega
    · have := hb f hf; rw [cmpN_self] at this; omega
  · unfold takeF; rw [if_neg h]; simpa using h
theorem sorted_ren {l : List Fl} {n t : ByteArray} (hs : SortedF l) : SortedF (renF l n t) := by
  unfold renF
  split
  · exact sorted_put (sorted_take (sorted_take hs)) (has_take (sorted_take hs))
  · exact hs
theorem get_app (A B : List Fl) (m : ByteArray) : getF (A ++ B) m = (getF A m).or (getF B m) := by
  unfold getF; rw [List.find?_append]; cases List.find? (fun f => decide (f.n = m)) A <;> simp
theorem get_cons (f : Fl) (B : List Fl) (m : ByteArray) : getF (f :: B) m = if m = f.n then some f.d else getF B m := by
  unfold getF; rw [List.find?_cons]
  by_cases h : m = f.n
  · subst h; simp
  · have : decide (f.n = m) = false := by simpa using fun e => h e.symm
    simp [this, h]
theorem get_none {l : List Fl} {m : ByteArray} : getF l m = none ↔ hasF l m = false := by
  unfold getF hasF namesF
  rw [Option.map_eq_none_iff, List.find?_eq_none, hasN_not]
  simp
theorem get_lt {l : List Fl} {m : ByteArray} (h : ∀ f ∈ l, cmpN f.n m < 0) : getF l m = none := by
  rw [get_none]; unfold hasF namesF; rw [hasN_not]
  intro hm; obtain ⟨f, hf, rfl⟩ := List.mem_map.1 hm; have := h f hf; rw [cmpN_self] at this; omega
theorem get_gt {l : List Fl} {m : ByteArray} (h : ∀ f ∈ l, cmpN m f.n < 0) : getF l m = none := by
  rw [get_none]; unfold hasF namesF; rw [hasN_not]
  intro hm; obtain ⟨f, hf, rfl⟩ := List.mem_map.1 hm; have := h f hf; rw [cmpN_self] at this; omega
theorem get_put {l : List Fl} {f : Fl} (h : hasF l f.n = false) (m : ByteArray) : getF (putF l f) m = if m = f.n then some f.d else getF l m := by
  unfold putF
  rw [get_app, get_cons]
  have e : getF l m = (getF (l.take (posF l f.n)) m).or (getF (l.drop (posF l f.n)) m) := by rw [← get_app, List.take_append_drop]
  split
  · rename_i hm
    have h0 := get_none.2 h
    rw [← hm, e] at h0
    cases hx : getF (List.take (posF l f.n) l) m
    · rfl
    · rw [hx] at h0; simp at h0
  · rw [e]
theorem get_take {l : List Fl} {n : ByteArray} (hs : SortedF l) (m : ByteArray) : getF (takeF l n) m = if m = n then none else getF l m := by
  by_cases h : hasF l n = true
  · by_cases hm : m = n
    · subst hm; rw [if_pos rfl, get_none]; exact has_take hs
    · obtain ⟨A, d, B, e, hp, ha, hb, _⟩ := parted hs h
      obtain ⟨e1, _, e3, _⟩ := take_of_parts e hp
      unfold takeF
      rw [if_pos h, e1, e3, if_neg hm, get_app, e, get_app, get_cons, if_neg hm]
  · have h0 : hasF l n = false := by simpa using h
    unfold takeF
    rw [if_neg h]
    split
    · rename_i hm; rw [hm]; exact get_none.2 h0
    · rfl
theorem get_old {l : List Fl} {n : ByteArray} (hs : SortedF l) (h : hasF l n = true) : getF l n = some (oldF l n).d := by
  obtain ⟨A, d, B, e, hp, ha, hb, ho⟩ := parted hs h
  rw [ho, e, get_app, get_lt ha, get_cons, if_pos rfl]; rfl
theorem empty_app (d : ByteArray) : (⟨#[]⟩ : ByteArray) ++ d = d := by apply str_ext; simp
theorem get_ext {l : List Fl} {n d : ByteArray} (hs : SortedF l) (m : ByteArray) : getF (extF l n d) m = if m = n then some ((getF l n).getD ⟨#[]⟩ ++ d) else getF l m := by
  unfold extF
  by_cases h : hasF l n = true
  · obtain ⟨A, x, B, e, hp, ha, hb, ho⟩ := parted hs h
    rw [if_pos h, get_old hs h, ho]
    have : l.set (posF l n) ⟨n, x ++ d⟩ = A ++ ⟨n, x ++ d⟩ :: B := by
      rw [← hp, e]; simp
    dsimp only
    rw [this, get_app, get_cons]
    by_cases hm : m = n
    · subst hm; rw [if_pos rfl, if_pos rfl, get_lt ha]; simp
    · rw [if_neg hm, if_neg hm, e, get_app, get_cons, if_neg hm]
  · have h0 : hasF l n = false := by simpa using h
    rw [if_neg h, get_put h0, get_none.2 h0]; rfl
theorem get_ren {l : List Fl} {n t : ByteArray} (hs : SortedF l) (h : hasF l n = true) (m : ByteArray) : getF (renF l n t) m = if m = t then getF l n else if m = n then none else getF l m := by
  unfold renF
  have h1 := has_take (n := t) (sorted_take (n := n) hs)
  rw [if_pos h, get_put (f := ⟨t, (oldF l n).d⟩) h1, get_take (sorted_take hs), get_take hs, get_old hs h]
  dsimp only
  split
  · rfl
  · rfl
/-- files that ascend are what is there of each name -/
theorem files_ext : ∀ {l k : List Fl}, SortedF l → SortedF k → (∀ m, getF l m = getF k m) → l = k
  | [], [], _, _, _ => rfl
  | [], f :: k, _, _, h => by have := h f.n; rw [get_cons, if_pos rfl] at this; simp [getF] at this
  | f :: l, [], _, _, h => by have := h f.n; rw [get_cons, if_pos rfl] at this; simp [getF] at this
  | f :: l, g :: k, hl, hk, h => by
    obtain ⟨a1, a2⟩ := List.pairwise_cons.1 (show List.Pairwise _ (f.n :: l.map Fl.n) from hl)
    obtain ⟨b1, b2⟩ := List.pairwise_cons.1 (show List.Pairwise _ (g.n :: k.map Fl.n) from hk)
    have al : ∀ x ∈ l, cmpN f.n x.n < 0 := fun x hx => a1 x.n (List.mem_map_of_mem hx)
    have bl : ∀ x ∈ k, cmpN g.n x.n < 0 := fun x hx => b1 x.n (List.mem_map_of_mem hx)
    have hfg : f.n = g.n := by
      by_cases h0 : f.n = g.n
      · exact h0
      · exfalso
        have h1 := h f.n
        rw [get_cons, if_pos rfl, get_cons, if_neg h0] at h1
        have h2 := h g.n
        rw [get_cons, if_neg (fun e => h0 e.symm), get_cons, if_pos rfl] at h2
        by_cases hc : cmpN f.n g.n < 0
        · have : getF k f.n = none := get_gt fun x hx => cmpN_lt hc (bl x hx)
          rw [this] at h1; cases h1
        · have hc2 : cmpN g.n f.n < 0 := by
            have := cmpN_swap f.n g.n
            have h3 : cmpN f.n g.n ≠ 0 := fun e => h0 (cmpN_zero.1 e)
            omega
          have : getF l g.n = none := get_gt fun x hx => cmpN_lt hc2 (al x hx)
          rw [this] at h2; cases h2
    have hd : f.d = g.d := by
      have h1 := h f.n
      rw [get_cons, if_pos rfl, get_cons, if_pos hfg] at h1
      exact Option.some.inj h1
    have hfe : f = g := by cases f; cases g; simp_all
    subst hfe
    have : l = k := files_ext a2 b2 fun m => by
      have h1 := h m
      rw [get_cons, get_cons] at h1
      by_cases hm : m = f.n
      · rw [hm, get_gt al, get_gt bl]
      · rwa [if_neg hm, if_neg hm] at h1
    rw [this]
/-- how much they contain -/
def szF (l : List Fl) : Nat := (l.map (fun f => f.d.size)).sum
theorem szF_app (A B : List Fl) : szF (A ++ B) = szF A + szF B := by unfold szF; simp
theorem szF_cons (f : Fl) (B : List Fl) : szF (f :: B) = f.d.size + szF B := by unfold szF; simp
theorem szF_put (l : List Fl) (f : Fl) : szF (putF l f) = szF l + f.d.size := by
  unfold putF
  have : szF l = szF (l.take (posF l f.n)) + szF (l.drop (posF l f.n)) := by rw [← szF_app, List.take_append_drop]
  rw [szF_app, szF_cons, this]; omega
theorem szF_take {l : List Fl} {n : ByteArray} (hs : SortedF l) (h : hasF l n = true) : szF (takeF l n) + (oldF l n).d.size = szF l := by
  obtain ⟨A, d, B, e, hp, _, _, ho⟩ := parted hs h
  obtain ⟨e1, _, e3, _⟩ := take_of_parts e hp
  unfold takeF
  rw [if_pos h, e1, e3, ho, e, szF_app, szF_app, szF_cons]
  dsimp only; omega
theorem bsize_app (a b : ByteArray) : (a ++ b).size = a.size + b.size := ByteArray.size_append ..
theorem szF_ext {l : List Fl} {n d : ByteArray} (hs : SortedF l) : szF (extF l n d) = szF l + d.size := by
  unfold extF
  by_cases h : hasF l n = true
  · obtain ⟨A, x, B, e, hp, _, _, ho⟩ := parted hs h
    rw [if_pos h, ho]
    have : l.set (posF l n) ⟨n, x ++ d⟩ = A ++ ⟨n, x ++ d⟩ :: B := by rw [← hp, e]; simp
    dsimp only
    rw [this, e, szF_app, szF_app, szF_cons, szF_cons]
    dsimp only
    rw [bsize_app]; omega
  · rw [if_neg h, szF_put]
    dsimp only
    rw [empty_app]
theorem len_put (l : List Fl) (f : Fl) : (putF l f).length = l.length + 1 := by
  unfold putF; have := posF_le l f.n; simp; omega
theorem len_take {l : List Fl} {n : ByteArray} : (takeF l n).length ≤ l.length := by
  unfold takeF; split
  · simp; omega
  · omega
theorem len_take_has {l : List Fl} {n : ByteArray} (hs : SortedF l) (h : hasF l n = true) : (takeF l n).length + 1 = l.length := by
  obtain ⟨A, d, B, e, hp, _, _, _⟩ := parted hs h
  obtain ⟨e1, _, e3, _⟩ := take_of_parts e hp
  unfold takeF
  rw [if_pos h, e1, e3, e]; simp; omega
/-- what writes do -/
structure Wr where
  k : Int
  n : ByteArray
  t : ByteArray
  d : ByteArray
instance : Inhabited Wr := ⟨⟨0, ⟨#[]⟩, ⟨#[]⟩, ⟨#[]⟩⟩⟩
def appF (l : List Fl) (w : Wr) : List Fl := if w.k = 1 then extF l w.n w.d else if w.k = 2 then renF l w.n w.t else if w.k = 3 then takeF l w.n else l
def baseF (fs : List Fl) : List Fl := fs.foldl (fun l f => extF l f.n f.d) []
def lookF (fs : List Fl) (ws : List Wr) : List Fl := ws.foldl appF (baseF fs)
theorem sorted_app {l : List Fl} {w : Wr} (hs : SortedF l) : SortedF (appF l w) := by
  unfold appF
  split
  · exact sorted_ext hs
  · split
    · exact sorted_ren hs
    · split
      · exact sorted_take hs
      · exact hs
theorem ext_end {A : List Fl} {f : Fl} (h : ∀ x ∈ A, cmpN x.n f.n < 0) : extF A f.n f.d = A ++ [f] := by
  have h0 : hasF A f.n = false := get_none.1 (get_lt h)
  unfold extF
  rw [if_neg (by simp [h0])]
  have hp : posF A f.n = A.length := by
    unfold posF posN
    rw [List.countP_eq_length.2]
    · simp [namesF]
    · intro x hx
      obtain ⟨y, hy, rfl⟩ := List.mem_map.1 hx
      simpa using h y hy
  unfold putF
  dsimp only
  rw [hp, empty_app]; simp
theorem base_from : ∀ (fs A : List Fl), SortedF (A ++ fs) → fs.foldl (fun l f => extF l f.n f.d) A = A ++ fs
  | [], A, _ => by simp
  | f :: fs, A, h => by
    have h1 : ∀ x ∈ A, cmpN x.n f.n < 0 := by
      unfold SortedF SortedN namesF at h
      rw [List.map_append, List.pairwise_append] at h
      exact fun x hx => h.2.2 x.n (List.mem_map_of_mem hx) f.n (by simp)
    rw [List.foldl_cons, ext_end h1, base_from fs (A ++ [f]) (by simpa using h)]
    simp
theorem base_sorted {fs : List Fl} (h : SortedF fs) : baseF fs = fs := base_from fs [] (by simpa using h)
theorem sorted_look : ∀ (ws : List Wr) {l : List Fl}, SortedF l → SortedF (ws.foldl appF l)
  | [], _, h => h
  | w :: ws, _, h => sorted_look ws (sorted_app h)
end Go.Proofs.YtllpfngmnccejaaGreat
namespace Go.Proofs.YtllpfngmnccejaaGreat
open Go Go.RowKit

/-- l with vs from place o on -/
def splice (l : List Value) (o : Nat) (vs : List Value) : List Value := l.take o ++ vs ++ l.drop (o + vs.length)
theorem splice_len {l : List Value} {o : Nat} {vs : List Value} (h : o + vs.length ≤ l.length) : (splice l o vs).length = l.length := by
  unfold splice; simp; omega
theorem own_rowK {w : World} {g : Nat} {t : TypeId} {cur cs : List Value} (h : Own w g t cur) : Own (w.setRow g cs.toArray) g t cs := by
  unfold Own at *
  simp [World.setRow, Array.getElem?_modify, h]
theorem row_other {w : World} {g k : Nat} {cs : Array Value} (h : k ≠ g) : (w.setRow g cs).heap[k]? = w.heap[k]? := setRow_other w g k cs h
/-- only the blocks of S have turned, of those that were there -/
structure KeptK (w w' : World) (S : Nat → Prop) : Prop where
  os : w'.os = w.os
  tape : w'.tape = w.tape
  output : w'.output = w.output
  size : w.heap.size ≤ w'.heap.size
  block : ∀ k, k < w.heap.size → ¬ S k → w'.heap[k]? = w.heap[k]?
section
variable {w w' w'' : World} {S T : Nat → Prop}
theorem KeptK.refl (w : World) (S : Nat → Prop) : KeptK w w S := ⟨rfl, rfl, rfl, Nat.le_refl _, fun _ _ _ => rfl⟩
theorem KeptK.trans (h : KeptK w w' S) (k : KeptK w' w'' T) (hs : ∀ b, b < w.heap.size → T b → S b) : KeptK w w'' S :=
  ⟨k.os.trans h.os, k.tape.trans h.tape, k.output.trans h.output, Nat.le_trans h.size k.size,
    fun b hb hn => (k.block b (Nat.lt_of_lt_of_le hb h.size) (fun ht => hn (hs b hb ht))).trans (h.block b hb hn)⟩
theorem KeptK.more (h : KeptK w w' S) (hs : ∀ b, S b → T b) : KeptK w w' T := ⟨h.os, h.tape, h.output, h.size, fun b hb hn => h.block b hb (fun x => hn (hs b x))⟩
theorem KeptK.of_below {B : Nat} (h : Below B w w') (hB : w.heap.size ≤ B) (S : Nat → Prop) : KeptK w w' S := ⟨h.os, h.tape, h.output, h.size, fun b hb _ => h.block b (by omega)⟩
theorem KeptK.of_grown {o : Option Nat} (h : w.grownBy w' o) (hs : ∀ b, o = some b → S b) : KeptK w w' S :=
  ⟨h.os, h.tape, h.output, h.size, fun b hb hn => h.block b hb (fun e => hn (hs b e.symm))⟩
theorem KeptK.below {B : Nat} (h : KeptK w w' S) (hB : ∀ b, S b → B ≤ b) (hs : B ≤ w.heap.size) : Below B w w' := ⟨h.os, h.tape, h.output, h.size, fun b hb => h.block b (by omega) (fun x => by have := hB b x; omega)⟩
theorem KeptK.row {base : Nat} {e : TypeId} {size : Nat} {v : Value} {n : Nat} {xs : List Value} (h : KeptK w w' S) (ho : w.ownsRow base e size v n xs) (hn : ∀ k, v.ownBlock = some k → ¬ S k) : w'.ownsRow base e size v n xs := by
  refine ⟨ho.1, ?_⟩
  rcases ho.2 with h0 | ⟨g, cap, cur, rfl, hb, hg, rest⟩
  · exact .inl h0
  · refine .inr ⟨g, cap, cur, rfl, hb, ?_, rest⟩
    rw [h.block g (Array.getElem?_eq_some_iff.1 hg).1 (hn g rfl)]
    exact hg
theorem KeptK.own {g : Nat} {t : TypeId} {l : List Value} (h : KeptK w w' S) (ho : Own w g t l) (hn : ¬ S g) : Own w' g t l := (h.block g ho.inside hn).trans ho
theorem KeptK.set_ (h : KeptK w w' S) {g o : Nat} (hg : S g ∨ w.heap.size ≤ g) (u : Value) : KeptK w (w'.setCell ⟨g, o, none⟩ u) S :=
  ⟨h.os, h.tape, h.output, by simpa using h.size, fun b hb hn => (Below.heap_setCell w' ⟨g, o, none⟩ u b (by intro e; dsimp only at e; subst e; rcases hg with h1 | h1; exact hn h1; omega)).trans (h.block b hb hn)⟩
theorem KeptK.alloc (h : KeptK w w' S) (o : Obj) : KeptK w (w'.alloc o) S := ⟨h.os, h.tape, h.output, Nat.le_trans h.size (by simp), fun b hb hn => (Below.heap_alloc w' o b (Nat.lt_of_lt_of_le hb h.size)).trans (h.block b hb hn)⟩
theorem KeptK.drew (h : KeptK w w' S) : KeptK w w'.drew S := ⟨h.os, h.tape, h.output, h.size, h.block⟩
end
/-- a row by the block in which it lies -/
theorem row_ownK {w : World} {base c n size : Nat} {e : TypeId} {A : Option Addr} {xs : List Value} (h : w.ownsRow base e size (.slice A n c) n xs) :
    (A = none ∧ n = 0 ∧ c = 0 ∧ xs = []) ∨ ∃ g cur, A = some ⟨g, 0, none⟩ ∧ base ≤ g ∧ Own w g e cur ∧ n ≤ c ∧ c ≤ maxLen ∧ cur.length = c * size ∧ cur.take (n * size) = xs := by
  rcases h.2 with ⟨h0, h1⟩ | ⟨g, cap, cur, hv, hb, hg, h1, h2, h3, h4⟩
  · simp only [Value.slice.injEq] at h0
    refine .inl ⟨h0.1, h1, h0.2.2, ?_⟩
    have := h.1
    rw [h1] at this
    exact List.length_eq_zero_iff.1 (by omega)
  · simp only [Value.slice.injEq] at hv
    obtain ⟨rfl, _, rfl⟩ := hv
    exact .inr ⟨g, cur.toList, rfl, hb, by unfold Own; simpa using hg, h1, h2, by simpa using h3, h4⟩
theorem own_to_row {w : World} {base g c n size : Nat} {e : TypeId} {cur : List Value} (h : Own w g e cur) (hb : base ≤ g) (hn : n ≤ c) (hm : c ≤ maxLen) (hl : cur.length = c * size) :
    w.ownsRow base e size (.slice (some ⟨g, 0, none⟩) n c) n (cur.take (n * size)) :=
  ⟨by rw [List.length_take, hl]; exact Nat.min_eq_left (Nat.mul_le_mul_right _ hn), .inr ⟨g, c, cur.toArray, rfl, hb, h, hn, hm, by simpa using hl, by simp⟩⟩
/-- 'copy' into a block of the call's own -/
theorem run_copy_into {P : Program} (w : World) (dT sT ty elem : TypeId) (g o dLen dCap : Nat) (a : Addr) (sLen sCap k : Nat) (cur cs : List Value) (t : TypeId) (hu : P.underlying dT = some (.slice elem)) (hs : (P.info? elem).map (·.size) = some k)
    (hg : Own w g t cur) (hn : cs.length = Nat.min sLen dLen * k) (hsrc : ∀ j v, cs[j]? = some v → w.cell? (a.add j) = some v) (hfit : o + cs.length ≤ cur.length) (h1 : ∀ v ∈ cs, v.oneCell' = true) :
    (Builtin.copy_ #[dT, sT] ty #[.slice (some ⟨g, o, none⟩) dLen dCap, .slice (some a) sLen sCap]).run P w = .ok (goInt (Nat.min sLen dLen)) (w.setRow g (splice cur o cs).toArray) := by
  have hl := run_loadCells_list (P := P) w a cs hsrc
  have hst := run_storeCells_at P g o t cs 0 cur.toArray w hg (by simpa using hfit) h1
  simp only [Nat.add_zero] at hst
  cases hq : P.info? elem with
  | none => simp [hq] at hs
  | some i =>
    have hi : i.size = k := by simpa [hq] using hs
    simp [Builtin.copy_, run_underlying hu, Builtin.lenOf, Builtin.firstCells, sizeOf, typeInfo, hq, hi, ← hn, hl, hst, splice]
/-- 'clear' of one element in a block of the call's own -/
theorem run_clear_one {P : Program} (w : World) (t e ty tt : TypeId) (z : Value) (ht : P.underlying t = some (.slice e)) (hv : ∀ w, (zeroValue e).run P w = .ok z w) (h1 : ∀ u ∈ z.cells.toList, u.oneCell' = true) (g o c : Nat) (cur : List Value) (hg : Own w g tt cur)
    (hfit : o + z.cells.size ≤ cur.length) :
    (Builtin.clear_ #[t] ty #[.slice (some ⟨g, o, none⟩) 1 c]).run P w = .ok (.tuple #[]) (w.setRow g (splice cur o z.cells.toList).toArray) := by
  have hz : (Builtin.zeroCells z.cells 1).toList = z.cells.toList := by
    unfold Builtin.zeroCells
    apply List.ext_getElem
    · simp
    · intro i h1 h2
      simp at h1 h2 ⊢
      rw [getElem!_pos z.cells (i % z.cells.size) (by rw [Nat.mod_eq_of_lt h1]; exact h1)]
      simp [Nat.mod_eq_of_lt h1]
  have hst := run_storeCells_at P g o tt z.cells.toList 0 cur.toArray w hg (by simpa using hfit) h1
  simp only [Nat.add_zero] at hst
  simp [Builtin.clear_, run_underlying ht, hv, hz, hst, splice]
/-- a builtin of two arguments whose run is known, as a step of a region that draws its order -/
theorem step_append_known {P : Program} {ops : Array Oper} {o : Oper} {a : Act} {w : World} {K : Act → World → Prop} {Q : Exit → Act → World → Prop} {E : Prop}
    (hg : o.guard = none) (d x : Operand) (dT sT : TypeId) (hop : o.op = Op.call { callee := Callee.builtin Builtin.append, args := #[d, x], argTypes := #[dT, sT] })
    (v u : Value) (hd : a.eval d = v) (hx : a.eval x = u) {v' : Value} {w' : World} (hr : (Builtin.append_ #[dT, sT] o.type #[v, u]).run P w = .ok v' w') (hK : K (a.put o.dst v') w') :
    if Region.wanted o (yielded ops a.tmps) = true then Oper.wp P o a w K Q else E := by
  have hw : Region.wanted o (yielded ops a.tmps) = true := by simp [Region.wanted, hg]
  rw [if_pos hw]
  unfold Oper.wp
  simp [execOp, hop, resolve, invoke, builtin, hd, hx, hr, Result.andThen]
  exact hK
theorem step_copy_known {P : Program} {ops : Array Oper} {o : Oper} {a : Act} {w : World} {K : Act → World → Prop} {Q : Exit → Act → World → Prop} {E : Prop}
    (hg : o.guard = none) (d x : Operand) (dT sT : TypeId) (hop : o.op = Op.call { callee := Callee.builtin Builtin.copy, args := #[d, x], argTypes := #[dT, sT] })
    (v u : Value) (hd : a.eval d = v) (hx : a.eval x = u) {v' : Value} {w' : World} (hr : (Builtin.copy_ #[dT, sT] o.type #[v, u]).run P w = .ok v' w') (hK : K (a.put o.dst v') w') :
    if Region.wanted o (yielded ops a.tmps) = true then Oper.wp P o a w K Q else E := by
  have hw : Region.wanted o (yielded ops a.tmps) = true := by simp [Region.wanted, hg]
  rw [if_pos hw]
  unfold Oper.wp
  simp [execOp, hop, resolve, invoke, builtin, hd, hx, hr, Result.andThen]
  exact hK
theorem list_append_known {P : Program} (w : World) {ops : Array Oper} {rest : List Oper} {o : Oper} {a : Act} {Q : Exit → Act → World → Prop} (hgd : o.guard = none) (d s : Operand) (t t' : TypeId)
    (ho : o.op = .call { callee := .builtin .append, args := #[d, s], argTypes := #[t, t'] }) (v u : Value) (hd : a.eval d = v) (hs : a.eval s = u) {v' : Value} {w' : World}
    (hr : (Builtin.append_ #[t, t'] o.type #[v, u]).run P w = .ok v' w') (h : wpList P ops Q rest (a.put o.dst v') w') : wpList P ops Q (o :: rest) a w := by
  refine wpList_plain hgd fun K hK => ?_
  unfold Oper.wp execOp
  simp only [ho, resolve, invoke, builtin, Sem.run_bind, Sem.run_pure, Result.andThen_ok, List.map_toArray, List.map_cons, List.map_nil, hd, hs, hr]
  exact hK _ _ h
theorem list_copy_known {P : Program} (w : World) {ops : Array Oper} {rest : List Oper} {o : Oper} {a : Act} {Q : Exit → Act → World → Prop} (hgd : o.guard = none) (d s : Operand) (t t' : TypeId)
    (ho : o.op = .call { callee := .builtin .copy, args := #[d, s], argTypes := #[t, t'] }) (v u : Value) (hd : a.eval d = v) (hs : a.eval s = u) {v' : Value} {w' : World}
    (hr : (Builtin.copy_ #[t, t'] o.type #[v, u]).run P w = .ok v' w') (h : wpList P ops Q rest (a.put o.dst v') w') : wpList P ops Q (o :: rest) a w := by
  refine wpList_plain hgd fun K hK => ?_
  unfold Oper.wp execOp
  simp only [ho, resolve, invoke, builtin, Sem.run_bind, Sem.run_pure, Result.andThen_ok, List.map_toArray, List.map_cons, List.map_nil, hd, hs, hr]
  exact hK _ _ h
theorem list_clear_known {P : Program} (w : World) {ops : Array Oper} {rest : List Oper} {o : Oper} {a : Act} {Q : Exit → Act → World → Prop} (hgd : o.guard = none) (d : Operand) (t : TypeId)
    (ho : o.op = .call { callee := .builtin .clear, args := #[d], argTypes := #[t] }) (v : Value) (hd : a.eval d = v) {v' : Value} {w' : World}
    (hr : (Builtin.clear_ #[t] o.type #[v]).run P w = .ok v' w') (h : wpList P ops Q rest (a.put o.dst v') w') : wpList P ops Q (o :: rest) a w := by
  refine wpList_plain hgd fun K hK => ?_
  unfold Oper.wp execOp
  simp only [ho, resolve, invoke, builtin, Sem.run_bind, Sem.run_pure, Result.andThen_ok, List.map_toArray, List.map_cons, List.map_nil, hd, hr]
  exact hK _ _ h
end Go.Proofs.YtllpfngmnccejaaGreat
namespace Go.Proofs.YtllpfngmnccejaaGreat
open Go Go.RowKit

/-- a file as it lies: its name, and the row of its parts -/
structure Vf where
  n : ByteArray
  A : Option Addr
  c : Nat
  ps : List ByteArray
instance : Inhabited Vf := ⟨⟨⟨#[]⟩, none, 0, []⟩⟩
namespace Vf
def pv (f : Vf) : Value := .slice f.A f.ps.length f.c
def cells (f : Vf) : List Value := [.string f.n, .slice f.A f.ps.length f.c]
def val (f : Vf) : Value := .agg #[.string f.n, .slice f.A f.ps.length f.c]
end Vf
theorem vf_one (f : Vf) : ∀ u ∈ f.cells, u.oneCell' = true := by
  intro u hu
  simp [Vf.cells] at hu
  rcases hu with rfl | rfl <;> rfl
theorem vfs_one (l : List Vf) : ∀ u ∈ l.flatMap Vf.cells, u.oneCell' = true := by
  intro u hu
  obtain ⟨f, _, hf⟩ := List.mem_flatMap.1 hu
  exact vf_one f u hf
def zeroVf : Value := .agg #[.string ⟨#[]⟩, .slice none 0 0]
theorem infoVf : (Tryz.prog.info? 210).map (fun i => (i.zero, i.size, i.bytes)) = some (some zeroVf, 2, 40) := by kernel_rfl
theorem zeroOfVf (w : World) : (zeroValue 210).run Tryz.prog w = .ok zeroVf w := by
  obtain ⟨i0, hi, hz0, _⟩ := info_parts infoVf
  simp [zeroValue, typeInfo, hi, hz0]

theorem splice_take {l : List Value} {o : Nat} {vs : List Value} (h : o ≤ l.length) : (splice l o vs).take o = l.take o := by
  unfold splice
  rw [List.append_assoc, List.take_append_of_le_length (by simp; omega), List.take_take]
  simp
set_option maxRecDepth 100000 in
set_option maxHeartbeats 1600000 in
theorem delete_own (g n c i j : Nat) (cur : List Value) (w : World) (ho : Own w g 210 cur) (hn : n ≤ c) (hm : c ≤ maxLen) (hl : cur.length = c * 2) (hij : j = i + 1) (hj : j ≤ n) (h1 : ∀ u ∈ cur.take (n * 2), u.oneCell' = true) :
    Calls Tryz.prog 207 #[.slice (some ⟨g, 0, none⟩) n c, .int .i64 (i : Int), .int .i64 (j : Int)] w fun e w' => e = .returned (.slice (some ⟨g, 0, none⟩) (n - 1) c) ∧
      ∃ cur', Own w' g 210 cur' ∧ cur'.length = c * 2 ∧ cur'.take ((n - 1) * 2) = (cur.take (n * 2)).take (i * 2) ++ (cur.take (n * 2)).drop (j * 2) ∧ w.grownBy w' (some g) := by
  obtain ⟨i0, hi0, hz0, hz1, hz2⟩ := info_parts infoVf
  have hU := Tryz.underlying149
  unfold maxLen at hm
  obtain ⟨news, hnews⟩ : ∃ news, news = (cur.take (n * 2)).drop (j * 2) := ⟨_, rfl⟩
  have hlen : news.length = (n - j) * 2 := by rw [hnews]; simp; omega
  have ho1 : ∀ j, w.cell? ⟨g, j, none⟩ = cur[j]? := ho.at_
  obtain ⟨A, hA, hsrc⟩ : ∃ A : Addr, (if c = j then some (⟨g, 0, none⟩ : Addr) else some ⟨g, j * 2, none⟩) = some A ∧ Hid (∀ t u, news[t]? = some u → w.drew.cell? (A.add t) = some u) := by
    by_cases h : c = j
    · refine ⟨⟨g, 0, none⟩, by simp [h], Lib.hid (fun t u hu => ?_)⟩
      have h0 : news.length = 0 := by rw [hlen]; omega
      rw [List.length_eq_zero_iff.1 h0] at hu
      simp at hu
    · refine ⟨⟨g, j * 2, none⟩, by simp [h], Lib.hid (fun t u hu => ?_)⟩
      have ht : t < (n - j) * 2 := by
        have := (List.getElem?_eq_some_iff.1 hu).1
        rwa [hlen] at this
      have ea : (⟨g, j * 2, none⟩ : Addr).add t = ⟨g, j * 2 + t, none⟩ := by unfold Addr.add; split <;> simp_all
      rw [ea]
      show w.cell? _ = _
      rw [ho1]
      rw [hnews, List.getElem?_drop, List.getElem?_take] at hu
      split at hu
      · exact hu
      · cases hu
  have hone : ∀ u ∈ news, u.oneCell' = true := fun u hu => h1 u (by rw [hnews] at hu; exact List.mem_of_mem_drop hu)
  have happ : ∀ ty sc, Hid ((Builtin.append_ #[149, 149] ty #[.slice (some ⟨g, 0, none⟩) i c, .slice (some A) (n - j) sc]).run Tryz.prog w.drew = .ok (.slice (some ⟨g, 0, none⟩) (i + (n - j)) c) (w.drew.setRow g (splice cur (i * 2) news).toArray)) := fun ty sc => by
    have hl2 : news.length = (n - j) * i0.size := by rw [hlen, hz1]
    have hfit : i * i0.size + news.length ≤ cur.toArray.size := by rw [hz1, hlen]; simp; omega
    have hroom : i + (n - j) ≤ c := by omega
    have := run_append_room (P := Tryz.prog) w.drew 149 ty 210 i0 hU hi0 g i c cur.toArray ho A (n - j) sc news hl2 hsrc.out hone hroom hfit
    rw [hz1] at this
    exact Lib.hid (by simpa [splice] using this)
  obtain ⟨W1, hW1⟩ : ∃ W1, W1 = w.drew.setRow g (splice cur (i * 2) news).toArray := ⟨_, rfl⟩
  rw [← hW1] at happ
  have oW1 : Own W1 g 210 (splice cur (i * 2) news) := by rw [hW1]; exact own_rowK (w := w.drew) ho
  have hs1 : (splice cur (i * 2) news).length = cur.length := splice_len (by rw [hlen, hl]; omega)
  have hclr := fun ty cc => Lib.hid (run_clear_one (P := Tryz.prog) W1 149 210 ty 210 zeroVf hU zeroOfVf (by intro u hu; simp [zeroVf, Value.cells] at hu; rcases hu with rfl | rfl <;> rfl) g ((i + (n - j)) * 2) cc _ oW1 (by rw [hs1, hl]; simp [zeroVf, Value.cells]; omega))
  have HW := Lib.hid hW1
  have HO := Lib.hid oW1
  have hA2 := Lib.hid hA
  have q1 : n - (i + (n - j)) = 1 := by omega
  have q2 : i + (n - j) = n - 1 := by omega
  rw [q2] at hclr
  have hic : i ≤ c := by omega
  have hin : i ≤ n := by omega
  have hjc : j ≤ c := by omega
  have hlt : i < j := by omega
  have HJ := Lib.hid hij
  clear hW1 oW1 hsrc ho1 hij
  go_enter Tryz.func207, Tryz.ntmps207
  go_wp2_with fail
  go_region_law (refine step_append_known rfl (.tmp 22) (.tmp 25) 149 149 rfl (.slice (some ⟨g, 0, none⟩) i c) (.slice (some A) (n - j) (c - j)) (by simp [Act.eval, Act.put]) (by simp [Act.eval, Act.put]) (happ _ _).out ?_)
  have hn1 : (i : Int) + ((n - j : Nat) : Int) = ((n - 1 : Nat) : Int) := by have := HJ.out; omega
  have hq1 : n - (n - 1) = 1 := by omega
  obtain ⟨W2, hW2⟩ : ∃ W2, W2 = W1.setRow g (splice (splice cur (i * 2) news) ((n - 1) * 2) zeroVf.cells.toList).toArray := ⟨_, rfl⟩
  have hcl2 : ∀ ty, (Builtin.clear_ #[149] ty #[.slice (some ⟨g, (n - 1) * 2, none⟩) (n - (n - 1)) (c - (n - 1))]).run Tryz.prog W1 = .ok (.tuple #[]) W2 := fun ty => by rw [hq1, hW2]; exact (hclr ty _).out
  have HW2 := Lib.hid hW2
  clear hW2 hq1
  go_wp2_with fail
  go_ret
  have hsp := HO.out
  rw [HW2.out]
  refine ⟨rfl, _, own_rowK HO.out, ?_, ?_, ?_⟩
  · rw [splice_len (by rw [hs1, hl]; simp [zeroVf, Value.cells]; omega), hs1, hl]
  · have e1 : (splice (splice cur (i * 2) news) ((n - 1) * 2) zeroVf.cells.toList).take ((n - 1) * 2) = (splice cur (i * 2) news).take ((n - 1) * 2) := splice_take (by rw [hs1, hl]; omega)
    have e2 : (splice cur (i * 2) news).take ((n - 1) * 2) = cur.take (i * 2) ++ news := by
      have h3 : (cur.take (i * 2) ++ news).length = (n - 1) * 2 := by rw [List.length_append, List.length_take, hlen]; have := HJ.out; omega
      unfold splice
      rw [← h3, List.take_left']
      rfl
    rw [e1, e2, hnews, List.take_take]
    congr 2
    omega
  · rw [HW.out]
    exact ⟨rfl, rfl, rfl, by simp, fun k _ hk => (row_other (fun e => hk (by rw [e]))).trans (row_other (w := w.drew) (fun e => hk (by rw [e])))⟩
/-- .. as rows -/
theorem delete_any (base n c i : Nat) (A : Option Addr) (xs : List Value) (w : World) (ho : w.ownsRow base 210 2 (.slice A n c) n xs) (hi : i < n) (h1 : ∀ u ∈ xs, u.oneCell' = true) :
    Calls Tryz.prog 207 #[.slice A n c, .int .i64 (i : Int), .int .i64 ((i : Int) + 1)] w fun e w' => e = .returned (.slice A (n - 1) c) ∧
      w'.ownsRow base 210 2 (.slice A (n - 1) c) (n - 1) (xs.take (i * 2) ++ xs.drop ((i + 1) * 2)) ∧ w.grownBy w' (Value.slice A n c).ownBlock := by
  rcases row_ownK ho with ⟨_, h0, _⟩ | ⟨g, cur, rfl, hb, hg, hn, hm, hl, rfl⟩
  · omega
  · have := delete_own g n c i (i + 1) cur w hg hn hm hl rfl (by omega) h1
    rw [show ((i + 1 : Nat) : Int) = (i : Int) + 1 by omega] at this
    refine this.mono ?_
    rintro e w' ⟨rfl, cur', o', l', t', g'⟩
    exact ⟨rfl, by rw [← t']; exact own_to_row o' hb (by omega) hm l', g'⟩
end Go.Proofs.YtllpfngmnccejaaGreat
namespace Go.Proofs.YtllpfngmnccejaaGreat
open Go Go.RowKit

def namesV (l : List Vf) : List ByteArray := l.map Vf.n
theorem kcmp_any (a b : ByteArray) (w : World) :
    Calls Tryz.prog 162 #[.string a, .string b] w fun e w' => e = .returned (.int .i64 (cmpN a b)) ∧ w = w' :=
  (Tryz.strings_Compare a b w).mono fun _ _ ⟨h, k⟩ => ⟨h, k.symm⟩
set_option maxRecDepth 100000 in
set_option maxHeartbeats 400000 in
/-- the closure that compares -/
theorem fcmp_any (f : Vf) (n : ByteArray) (w : World) :
    Calls Tryz.prog 176 #[f.val, .string n] w fun e w' => e = .returned (.int .i64 (cmpN f.n n)) ∧ Below w.heap.size w w' := by
  unfold Vf.val
  go_enter Tryz.func176, Tryz.ntmps176
  go_wp2_with fail
  refine (kcmp_any _ _ _).mono ?_
  rintro e w1 ⟨rfl, rfl⟩
  go_wp2_with fail
  go_ret
  exact ⟨rfl, (Below.refl _ _).alloc (Nat.le_refl _) _⟩
/-- a row of files, and what it holds at a place -/
theorem vf_at {w : World} {base : Nat} {A : Option Addr} {c : Nat} {l : List Vf} (ho : w.ownsRow base 210 2 (.slice A l.length c) l.length (l.flatMap Vf.cells)) {i : Nat} {f : Vf} (hi : l[i]? = some f) :
    ∃ g, A = some ⟨g, 0, none⟩ ∧ w.cell? ⟨g, i * 2, none⟩ = some (.string f.n) ∧ w.cell? ⟨g, i * 2 + 1, none⟩ = some (.slice f.A f.ps.length f.c) ∧ g < w.heap.size := by
  have hlt := (List.getElem?_eq_some_iff.1 hi).1
  rcases row_ownK ho with ⟨_, h0, _⟩ | ⟨g, cur, rfl, hb, hg, hn, hm, hl, ht⟩
  · omega
  · have h0 := flat_of (cells := Vf.cells) (size := 2) (fun _ => rfl) l i 0 f (.string f.n) hi rfl
    have h1 := flat_of (cells := Vf.cells) (size := 2) (fun _ => rfl) l i 1 f (.slice f.A f.ps.length f.c) hi rfl
    rw [← ht, List.getElem?_take] at h0 h1
    have e0 : i * 2 + 0 < l.length * 2 := by omega
    have e1 : i * 2 + 1 < l.length * 2 := by omega
    rw [if_pos e0] at h0
    rw [if_pos e1] at h1
    exact ⟨g, rfl, by rw [hg.at_]; exact h0, by rw [hg.at_]; exact h1, hg.inside⟩
theorem names_at {l : List Vf} {i : Nat} {f : Vf} (h : l[i]? = some f) : (namesV l)[i]? = some f.n := by unfold namesV; rw [List.getElem?_map, h]; rfl
theorem half {i j : Nat} (h : i < j) (hb : j ≤ 4611686018427387904) : (((i : Int) + (j : Int)).toNat : Nat) / 2 = (i + j) / 2 ∧ i ≤ (i + j) / 2 ∧ (i + j) / 2 < j := by omega
set_option maxRecDepth 100000 in
set_option maxHeartbeats 1600000 in
theorem search_any (base : Nat) (A : Option Addr) (c : Nat) (l : List Vf) (n : ByteArray) (w : World) (ho : w.ownsRow base 210 2 (.slice A l.length c) l.length (l.flatMap Vf.cells)) (hs : SortedN (namesV l)) (hn : l.length ≤ 4611686018427387904) :
    Calls Tryz.prog 175 #[.slice A l.length c, .string n, .func (.func 176) #[] #[]] w fun e w' =>
      e = .returned (.tuple #[.int .i64 (posN (namesV l) n : Int), .bool (hasN (namesV l) n)]) ∧ Below w.heap.size w w' := by
  have hat := Lib.hid (posN_at (n := n) hs)
  have hle := Lib.hid (posN_le (namesV l) n)
  have hlen : (namesV l).length = l.length := by simp [namesV]
  have HO := Lib.hid ho
  have HN := Lib.hid (And.intro hs hlen)
  clear ho hs
  go_enter Tryz.func175, Tryz.ntmps175
  go_wp2_with fail
  go_loopw [9, 10] (fun i j wr => ∃ a b : Nat, i = .int .i64 (a : Int) ∧ j = .int .i64 (b : Int) ∧ a ≤ b ∧ b ≤ l.length ∧ a ≤ posN (namesV l) n ∧ posN (namesV l) n ≤ b ∧ Below w.heap.size w wr) (fun i j _ => (intOf j - intOf i).toNat)
  case atStart => exact ⟨0, l.length, rfl, rfl, by omega, by omega, by omega, by rw [← hlen]; exact hle.out, Below.refl _ _⟩
  case round =>
    obtain ⟨a, b, rfl, rfl, hab, hbl, hap, hpb, hb⟩ := hrel
    by_cases hlt : a < b
    · have hh : (a + b) / 2 < l.length := by omega
      have hx : l[(a + b) / 2]? = some l[(a + b) / 2] := List.getElem?_eq_getElem hh
      have hord := Lib.hid (hat.out _ _ (names_at hx))
      obtain ⟨g, rfl, c0, c1, hg⟩ := vf_at HO.out hx
      have d0 := (hb.cell (p := ⟨g, (a + b) / 2 * 2, none⟩) hg).trans c0
      have d1 := (hb.cell (p := ⟨g, (a + b) / 2 * 2 + 1, none⟩) hg).trans c1
      generalize l[(a + b) / 2] = f at *
      have hy := fun W => Lib.hid (fcmp_any f n W)
      unfold Vf.val at hy
      clear c0 c1
      have HB := Lib.hid (And.intro hb (And.intro hap hpb))
      clear hb hap hpb
      by_cases hz : cmpN f.n n < 0
      · go_wp2_with fail
        refine (hy _).out.mono ?_
        rintro e w1 ⟨rfl, b1⟩
        go_wp2_with fail
        go_roundw
        case rel =>
          have := hord.out.2 hz
          exact ⟨(a + b) / 2 + 1, b, by rw [show ((a : Int) + (b : Int)) / 2 + 1 = (((a + b) / 2 + 1 : Nat) : Int) by omega], rfl, by omega, by omega, by omega, HB.out.2.2, HB.out.1.trans (b1.mono HB.out.1.size)⟩
        case measure => simp [intOf]; omega
      · go_wp2_with fail
        refine (hy _).out.mono ?_
        rintro e w1 ⟨rfl, b1⟩
        go_wp2_with fail
        go_roundw
        case rel =>
          have h2 : ¬ (a + b) / 2 < posN (namesV l) n := fun h => by have := hord.out.1 h; omega
          exact ⟨a, (a + b) / 2, rfl, by rw [show ((a : Int) + (b : Int)) / 2 = (((a + b) / 2 : Nat) : Int) by omega], by omega, by omega, HB.out.2.1, by omega, HB.out.1.trans (b1.mono HB.out.1.size)⟩
        case measure => simp [intOf]; omega
    · obtain rfl : b = a := by omega
      have ep : posN (namesV l) n = b := by omega
      have EP := Lib.hid ep
      have HB := Lib.hid hb
      clear hap hpb hb ep
      by_cases hin : b < l.length
      · have hx : l[b]? = some l[b] := List.getElem?_eq_getElem hin
        obtain ⟨g, rfl, c0, c1, hg⟩ := vf_at HO.out hx
        have d0 := (HB.out.cell (p := ⟨g, b * 2, none⟩) hg).trans c0
        have d1 := (HB.out.cell (p := ⟨g, b * 2 + 1, none⟩) hg).trans c1
        have hnm := Lib.hid (names_at hx)
        generalize l[b] = f at *
        have hy := fun W => Lib.hid (fcmp_any f n W)
        unfold Vf.val at hy
        clear c0 c1
        have hres : Hid (hasN (namesV l) n = decide (cmpN f.n n = 0)) := by
          refine Lib.hid ?_
          by_cases hq : f.n = n
          · have := hnm.out
            rw [hq] at this
            rw [hasN_mem.2 (List.mem_of_getElem? this), cmpN_zero.2 hq]; rfl
          · have h1 : cmpN f.n n ≠ 0 := fun h => hq (cmpN_zero.1 h)
            rw [decide_eq_false h1]
            cases hh : hasN (namesV l) n
            · rfl
            · have := posN_has HN.out.1 hh
              rw [EP.out, hnm.out] at this
              exact absurd (Option.some.inj this) hq
        generalize cmpN f.n n = r at *
        go_wp2_with fail
        refine (hy _).out.mono ?_
        rintro e w1 ⟨rfl, b1⟩
        go_wp2_with fail
        go_ret2
        refine ⟨?_, HB.out.trans (b1.mono HB.out.size)⟩
        rw [EP.out, hres.out]
        rfl
      · have hf : Hid (hasN (namesV l) n = false) := by
          refine Lib.hid ?_
          cases hh : hasN (namesV l) n
          · rfl
          · have := posN_has HN.out.1 hh
            rw [EP.out] at this
            have := (List.getElem?_eq_some_iff.1 this).1
            omega
        go_wp2_with fail
        go_ret2
        refine ⟨?_, HB.out⟩
        rw [EP.out, hf.out]
        rfl
set_option maxRecDepth 100000 in
set_option maxHeartbeats 800000 in
/-- find: the struct lies at cell o of block G -/
theorem find_any (G o base : Nat) (t : TypeId) (cs : List Value) (A : Option Addr) (c : Nat) (l : List Vf) (n : ByteArray) (w : World) (hG : Own w G t cs) (h0 : cs[o]? = some (.slice A l.length c)) (ho : w.ownsRow base 210 2 (.slice A l.length c) l.length (l.flatMap Vf.cells)) (hs : SortedN (namesV l)) (hn : l.length ≤ 4611686018427387904) :
    Calls Tryz.prog 147 #[.pointer (some ⟨G, o, none⟩), .string n] w fun e w' =>
      e = .returned (.tuple #[.int .i64 (posN (namesV l) n : Int), .bool (hasN (namesV l) n)]) ∧ Below w.heap.size w w' := by
  have c0 : w.cell? ⟨G, o, none⟩ = some (.slice A l.length c) := by rw [hG.at_]; exact h0
  have hy := fun W h => Lib.hid (search_any base A c l n W h hs hn)
  have HO := Lib.hid ho
  clear ho hG h0
  go_enter Tryz.func147, Tryz.ntmps147
  go_wp2_with fail
  refine (hy _ HO.out).out.mono ?_
  rintro e w1 ⟨rfl, b1⟩
  go_wp2_with fail
  go_ret2
  exact ⟨rfl, b1⟩
set_option maxRecDepth 100000 in
set_option maxHeartbeats 800000 in
theorem has_any (G o base : Nat) (t : TypeId) (cs : List Value) (A : Option Addr) (c : Nat) (l : List Vf) (n : ByteArray) (w : World) (hG : Own w G t cs) (h0 : cs[o]? = some (.slice A l.length c)) (ho : w.ownsRow base 210 2 (.slice A l.length c) l.length (l.flatMap Vf.cells)) (hs : SortedN (namesV l)) (hn : l.length ≤ 4611686018427387904) :
    Calls Tryz.prog 143 #[.pointer (some ⟨G, o, none⟩), .string n] w fun e w' => e = .returned (.bool (hasN (namesV l) n)) ∧ Below w.heap.size w w' := by
  have hy := Lib.hid (find_any G o base t cs A c l n w hG h0 ho hs hn)
  clear hG h0 ho hs
  generalize posN (namesV l) n = p at *
  generalize hasN (namesV l) n = h at *
  go_enter Tryz.func143, Tryz.ntmps143
  go_wp2_with fail
  refine hy.out.mono ?_
  rintro e w1 ⟨rfl, b1⟩
  go_wp2_with fail
  go_ret
  exact ⟨rfl, b1⟩
set_option maxRecDepth 100000 in
set_option maxHeartbeats 800000 in
theorem many_any (G o : Nat) (t : TypeId) (cs : List Value) (A : Option Addr) (c n : Nat) (w : World) (hG : Own w G t cs) (h0 : cs[o]? = some (.slice A n c)) :
    Calls Tryz.prog 145 #[.pointer (some ⟨G, o, none⟩)] w fun e w' => e = .returned (.bool (decide ((256 : Int) < (n : Int)))) ∧ w = w' := by
  have c0 : w.cell? ⟨G, o, none⟩ = some (.slice A n c) := by rw [hG.at_]; exact h0
  clear hG h0
  go_enter Tryz.func145, Tryz.ntmps145
  go_wp2_with fail
  go_ret
  exact ⟨rfl, rfl⟩
end Go.Proofs.YtllpfngmnccejaaGreat
namespace Go.Proofs.YtllpfngmnccejaaGreat
open Go Go.RowKit

def catB (ps : List ByteArray) : ByteArray := ⟨(ps.flatMap (fun p => p.data.toList)).toArray⟩
theorem catB_nil : catB [] = ⟨#[]⟩ := rfl
theorem catB_more (ps : List ByteArray) (d : ByteArray) : catB (ps ++ [d]) = catB ps ++ d := by
  apply str_ext; simp [catB]
theorem catB_size (ps : List ByteArray) : (catB ps).size = (ps.map ByteArray.size).sum := by
  unfold catB
  rw [sizeL]
  induction ps with
  | nil => rfl
  | cons p ps ih => rw [List.flatMap_cons, List.length_append, ih, List.map_cons, List.sum_cons, len_of]
theorem join_cat (ps : List ByteArray) : Lib.join (ps.map (·.data.toList)) [] = ps.flatMap (fun p => p.data.toList) := by
  have h : ∀ xs : List (List UInt8), Lib.join xs [] = xs.flatten := fun xs => by
    cases xs with
    | nil => rfl
    | cons x r =>
      rw [Lib.join_cons]
      unfold Lib.joinTail
      simp
  rw [h, List.flatMap_def]
def Parts (w : World) (base : Nat) (f : Vf) : Prop := w.ownsRow base 9 1 (.slice f.A f.ps.length f.c) f.ps.length (f.ps.map Value.string)
theorem parts_at {w : World} {base : Nat} {f : Vf} (h : Parts w base f) (h0 : 0 < f.ps.length) : ∃ g, f.A = some ⟨g, 0, none⟩ ∧ g < w.heap.size ∧ f.ps.length ≤ f.c ∧ ∀ (j : Nat) x, f.ps[j]? = some x → w.cell? ⟨g, j, none⟩ = some (.string x) := by
  rcases row_ownK h with ⟨_, h1, _⟩ | ⟨g, cur, e, hb, hg, hn, hm, hl, ht⟩
  · omega
  · refine ⟨g, e, hg.inside, hn, fun j x hx => ?_⟩
    rw [hg.at_]
    have hlt := (List.getElem?_eq_some_iff.1 hx).1
    have h2 : (f.ps.map Value.string)[j]? = some (.string x) := by rw [List.getElem?_map, hx]; rfl
    rw [← ht, List.getElem?_take] at h2
    rw [if_pos (by omega)] at h2
    exact h2
set_option maxRecDepth 100000 in
set_option maxHeartbeats 800000 in
theorem data_any (base : Nat) (f : Vf) (w : World) (hp : Parts w base f) (hn : f.ps.length ≤ 140737488355328) (hs : (catB f.ps).size ≤ 140737488355328) :
    Calls Tryz.prog 148 #[f.val] w fun e w' => e = .returned (.string (catB f.ps)) ∧ Below w.heap.size w w' := by
  obtain ⟨V, hV⟩ : ∃ V, V = w.alloc (.cells #[.string f.n, .slice f.A f.ps.length f.c] 210) := ⟨_, rfl⟩
  have hVb : Below w.heap.size w V := by rw [hV]; exact (Below.refl _ _).alloc (Nat.le_refl _) _
  have hy : Hid (Calls Tryz.prog 177 #[.slice f.A f.ps.length f.c, .string ⟨#[]⟩] V fun e w' => e = .returned (.string (catB f.ps)) ∧ Below V.heap.size V w') := by
    by_cases h0 : 0 < f.ps.length
    · obtain ⟨g, hA, hg, hc, hat⟩ := parts_at hp h0
      rw [hA]
      have hl : (Lib.join (f.ps.map (·.data.toList)) []).length ≤ 140737488355328 := by
        rw [join_cat]; unfold catB at hs; rw [sizeL] at hs; exact hs
      refine Lib.hid ((Tryz.strings_Join g 0 f.c f.ps ⟨#[]⟩ V (fun j x hx => ?_) (Nat.lt_of_lt_of_le hg hVb.size) hn hc hl).mono ?_)
      · rw [Nat.zero_add]; exact (hVb.cell (p := ⟨g, j, none⟩) hg).trans (hat j x hx)
      · rintro e w' ⟨rfl, h⟩
        refine ⟨?_, h⟩
        have : (Lib.join (f.ps.map (·.data.toList)) ([] : List UInt8)).toArray = (f.ps.flatMap (fun p => p.data.toList)).toArray := by rw [join_cat]
        show Ending.returned (Value.string ⟨(Lib.join (f.ps.map (·.data.toList)) ([] : List UInt8)).toArray⟩) = _
        rw [this]; rfl
    · have hz : f.ps = [] := List.length_eq_zero_iff.1 (by omega)
      rw [hz]
      exact Lib.hid ((Tryz.strings_Join_none f.A f.c ⟨#[]⟩ V).mono fun e w' ⟨h1, h2⟩ => ⟨h1, by rw [h2]; exact Below.refl _ _⟩)
  have HB := Lib.hid hVb
  unfold Vf.val
  clear hp hVb
  go_enter Tryz.func148, Tryz.ntmps148
  go_wp2_with fail
  rw [← hV]
  clear hV
  refine hy.out.mono ?_
  rintro e w1 ⟨rfl, b1⟩
  go_wp2_with fail
  go_ret
  exact ⟨rfl, HB.out.trans (b1.mono HB.out.size)⟩
theorem sum_take {ps : List ByteArray} {k : Nat} {x : ByteArray} (h : ps[k]? = some x) : ((ps.take (k + 1)).map ByteArray.size).sum = ((ps.take k).map ByteArray.size).sum + x.size := by
  rw [List.take_add_one, h]
  simp
theorem sum_take_le (ps : List ByteArray) (k : Nat) : ((ps.take k).map ByteArray.size).sum ≤ (ps.map ByteArray.size).sum := by
  have : ps.map ByteArray.size = (ps.take k).map ByteArray.size ++ (ps.drop k).map ByteArray.size := by rw [← List.map_append, List.take_append_drop]
  rw [this, List.sum_append]; omega
set_option maxRecDepth 100000 in
set_option maxHeartbeats 800000 in
theorem size_any (base : Nat) (f : Vf) (w : World) (hp : Parts w base f) (hn : f.ps.length ≤ 140737488355328) (hs : (catB f.ps).size ≤ 140737488355328) :
    Calls Tryz.prog 208 #[f.val] w fun e w' => e = .returned (.int .i64 ((catB f.ps).size : Int)) ∧ Below w.heap.size w w' := by
  obtain ⟨V, hV⟩ : ∃ V, V = w.alloc (.cells #[.string f.n, .slice f.A f.ps.length f.c] 210) := ⟨_, rfl⟩
  have hVb : Below w.heap.size w V := by rw [hV]; exact (Below.refl _ _).alloc (Nat.le_refl _) _
  have hat : Hid (∀ (j : Nat) x, f.ps[j]? = some x → ∃ g, f.A = some ⟨g, 0, none⟩ ∧ V.cell? ⟨g, j, none⟩ = some (.string x)) := by
    refine Lib.hid (fun j x hx => ?_)
    obtain ⟨g, hA, hg, hc, hat⟩ := parts_at hp (by have := (List.getElem?_eq_some_iff.1 hx).1; omega)
    exact ⟨g, hA, (hVb.cell (p := ⟨g, j, none⟩) hg).trans (hat j x hx)⟩
  have HB := Lib.hid hVb
  rw [catB_size] at hs ⊢
  unfold Vf.val
  clear hp hVb
  go_enter Tryz.func208, Tryz.ntmps208
  go_wp2_with fail
  rw [← hV]
  clear hV
  go_loopw [3, 9] (fun s i wr => ∃ k : Nat, i = .int .i64 (k : Int) ∧ k ≤ f.ps.length ∧ s = .int .i64 (((f.ps.take k).map ByteArray.size).sum : Int) ∧ V = wr) (fun _ i _ => f.ps.length - (intOf i).toNat)
  case atStart => exact ⟨0, rfl, by omega, rfl, rfl⟩
  case round =>
    obtain ⟨k, rfl, hk, rfl, rfl⟩ := hrel
    by_cases hlt : k < f.ps.length
    · have hx : f.ps[k]? = some f.ps[k] := List.getElem?_eq_getElem hlt
      obtain ⟨g, hA, hc⟩ := hat.out k _ hx
      have hs1 := sum_take hx
      have hs2 := sum_take_le f.ps (k + 1)
      rw [hs1] at hs2
      generalize f.ps[k] = x at *
      rw [hA]
      generalize ((f.ps.take k).map ByteArray.size).sum = S at *
      have HS := Lib.hid hs1
      have hw : IntKind.i64.wrap ((S : Int) + (x.size : Int)) = (S : Int) + (x.size : Int) := by rw [IntKind.wrap_i64]; omega
      clear hs1 hx hs2 hs
      go_wp2_with fail
      go_roundw
      case rel => exact ⟨k + 1, by go_num, by omega, by rw [HS.out]; simp, trivial⟩
      case measure => simp [intOf]; omega
    · have hk2 : k = f.ps.length := by omega
      subst hk2
      rw [List.take_length]
      go_wp2_with fail
      go_ret
      exact ⟨rfl, HB.out⟩
end Go.Proofs.YtllpfngmnccejaaGreat
namespace Go.Proofs.YtllpfngmnccejaaGreat
open Go Go.RowKit

theorem growslice_ok {n c : Nat} (h : c < n) (hb : n * 40 ≤ 140737488355328) : Builtin.nextslicecap n c * 40 ≤ 281474976710656 := growslice_fits h hb
set_option maxRecDepth 100000 in
set_option maxHeartbeats 1600000 in
theorem insert_end (base n c vb : Nat) (A : Option Addr) (xs : List Value) (f : Vf) (w : World) (ho : w.ownsRow base 210 2 (.slice A n c) n xs) (hv : Own w vb 210 f.cells) (hn : (n + 1) * 40 ≤ 140737488355328) (hbase : base ≤ w.heap.size) :
    Calls Tryz.prog 241 #[.slice A n c, .int .i64 (n : Int), .slice (some ⟨vb, 0, none⟩) 1 1] w fun e w' => ∃ v', e = .returned v' ∧
      w'.ownsRow base 210 2 v' (n + 1) (xs ++ f.cells) ∧ w.grownBy w' (Value.slice A n c).ownBlock ∧ (v'.ownBlock = (Value.slice A n c).ownBlock ∨ v'.ownBlock = some w.heap.size) := by
  obtain ⟨i0, hi, hz0, hz1, hz2⟩ := info_parts infoVf
  have hU := Tryz.underlying149
  have hl : Lies 2 Vf.cells w w.heap.size (some ⟨vb, 0, none⟩) [f] := fun _ => by
    refine ⟨vb, 0, rfl, hv.inside, fun i x hx j u hu => ?_⟩
    match i, hx with
    | 0, hx =>
      obtain rfl : f = x := by simpa using hx
      rw [show 0 + 0 * 2 + j = j by omega, hv.at_ j]
      exact hu
  have hnews : ∀ j u, (Vf.cells f)[j]? = some u → w.cell? ((⟨vb, 0, none⟩ : Addr).add j) = some u := fun j u hu => by
    have ea : (⟨vb, 0, none⟩ : Addr).add j = ⟨vb, j, none⟩ := by unfold Addr.add; split <;> simp_all
    rw [ea, hv.at_ j]; exact hu
  obtain ⟨v', w', hrun, h2, h3, _, h5⟩ := run_append_own_at (P := Tryz.prog) w base 149 149 210 i0 _ 2 40 hU hi hz0 hz1 hz2 rfl (by decide) (.slice A n c) n xs ho ⟨vb, 0, none⟩ 1 1 f.cells rfl hnews (vf_one f) (by unfold maxLen; omega) hn hbase
  have hr2 : ∀ ty, Hid ((Builtin.append_ #[149, 149] ty #[.slice A n c, .slice (some ⟨vb, 0, none⟩) 1 1]).run Tryz.prog w = .ok v' w') := fun _ => Lib.hid hrun
  have HX := Lib.hid (And.intro h2 (And.intro h3 h5))
  clear hrun h2 h3 h5 hnews hl
  have hnc : n ≤ c := by
    rcases row_ownK ho with ⟨_, h0, _⟩ | ⟨g, cur, _, _, _, h0, _⟩ <;> omega
  clear ho hv
  rcases A with _ | ⟨ab, ao, asp⟩
  all_goals
    go_enter Tryz.func241, Tryz.ntmps241
    go_wp2_with (at_builtin; refine list_append_known _ rfl (.tmp 23) (.tmp 24) 149 149 rfl _ _ rfl rfl (hr2 _).out ?_)
    all_goals
      go_ret
      exact ⟨_, rfl, HX.out.1, HX.out.2.1, HX.out.2.2⟩
theorem own_drewK {w : World} {g : Nat} {t : TypeId} {l : List Value} (h : Own w g t l) : Own w.drew g t l := h
/-- no room: a new row -/
theorem splice_parts {A B C vs : List Value} {o : Nat} (ho : A.length = o) (hb : B.length = vs.length) : splice (A ++ (B ++ C)) o vs = A ++ (vs ++ C) := by
  subst ho
  unfold splice
  rw [List.take_left' rfl, List.append_assoc, List.append_cancel_left_eq, List.append_cancel_left_eq, ← hb, ← List.append_assoc, ← List.length_append, List.drop_left' rfl]
theorem splice3 {l news rest z : List Value} {i n : Nat} (hl : l.length = n * 2) (hi : i < n) (hn : news.length = 2) (hz : z.length = (n + 1 - i) * 2) :
    (splice (splice (l.take (i * 2) ++ z ++ rest) (i * 2) news) ((i + 1) * 2) (l.drop (i * 2))).take ((n + 1) * 2) = l.take (i * 2) ++ news ++ l.drop (i * 2) := by
  have h1 : (l.take (i * 2)).length = i * 2 := by rw [List.length_take]; omega
  have hz2 : z = z.take 2 ++ z.drop 2 := (List.take_append_drop 2 z).symm
  have e1 : splice (l.take (i * 2) ++ z ++ rest) (i * 2) news = l.take (i * 2) ++ (news ++ (z.drop 2 ++ rest)) := by
    have e0 : l.take (i * 2) ++ z ++ rest = l.take (i * 2) ++ (z.take 2 ++ (z.drop 2 ++ rest)) := by
      rw [List.append_assoc, ← List.append_assoc (z.take 2), List.take_append_drop]
    rw [e0]
    exact splice_parts h1 (by rw [List.length_take]; omega)
  have h2 : (l.take (i * 2) ++ news).length = (i + 1) * 2 := by rw [List.length_append, h1, hn]; omega
  have h3 : ((l.take (i * 2) ++ news) ++ l.drop (i * 2)).length = (n + 1) * 2 := by rw [List.length_append, h2, List.length_drop, hl]; omega
  rw [e1, ← List.append_assoc, splice_parts h2 (by rw [List.length_drop, List.length_drop, hl]; omega), ← List.append_assoc, ← h3, List.take_left' rfl]
set_option maxRecDepth 100000 in
set_option maxHeartbeats 3200000 in
theorem insert_grow (g n i vb : Nat) (cur : List Value) (f : Vf) (w : World) (ho : Own w g 210 cur) (hl : cur.length = n * 2) (hv : Own w vb 210 f.cells) (hi : i < n) (hn : (n + 1) * 40 ≤ 140737488355328) (h1 : ∀ u ∈ cur, u.oneCell' = true) :
    Calls Tryz.prog 241 #[.slice (some ⟨g, 0, none⟩) n n, .int .i64 (i : Int), .slice (some ⟨vb, 0, none⟩) 1 1] w fun e w' => ∃ G cur', e = .returned (.slice (some ⟨w.heap.size, 0, none⟩) (n + 1) G) ∧
      Own w' w.heap.size 210 cur' ∧ n + 1 ≤ G ∧ G ≤ maxLen ∧ cur'.length = G * 2 ∧ cur'.take ((n + 1) * 2) = cur.take (i * 2) ++ f.cells ++ cur.drop (i * 2) ∧ Below w.heap.size w w' := by
  obtain ⟨i0, hi0, hz0, hzs, hzb⟩ := info_parts infoVf
  have hU := Tryz.underlying149
  have hUi := Tryz.underlying3
  have hsz : (Tryz.prog.info? 210).map (·.size) = some 2 := by rw [hi0]; simp [hzs]
  have hbw := ho.inside
  have hvw := hv.inside
  have hkk : (n : Int) + 1 - (i : Int) = ((n + 1 - i : Nat) : Int) := by omega
  have hik : i + (n + 1 - i) = n + 1 := by omega
  have hold : (Builtin.firstCells i0.size i (.slice (some ⟨g, 0, none⟩) i n)).run Tryz.prog w.drew = .ok (cur.take (i * 2)).toArray w.drew := by
    rw [hzs]
    refine run_firstCells_some w.drew 2 i ⟨g, 0, none⟩ i n (cur.take (i * 2)) (by rw [List.length_take]; omega) (fun j v hj => ?_)
    have ea : (⟨g, 0, none⟩ : Addr).add j = ⟨g, j, none⟩ := by unfold Addr.add; split <;> simp_all
    rw [ea, (own_drewK ho).at_ j]
    rw [List.getElem?_take] at hj
    split at hj
    · exact hj
    · cases hj
  obtain ⟨G, hG⟩ : ∃ G, G = grownCap w (n + 1) n 210 := ⟨_, rfl⟩
  have hGn : n + 1 ≤ G := by rw [hG]; exact grownCap_ge w _ _ _
  have hG63 : G ≤ maxLen := by rw [hG]; exact grownCap_le_maxLen w (n + 1) n 210 (by unfold maxLen; omega)
  obtain ⟨ROW, hROW⟩ : ∃ ROW : Array Value, ROW = (cur.take (i * 2)).toArray ++ Builtin.zeroCells zeroVf.cells (n + 1 - i) ++ Builtin.zeroCells zeroVf.cells (G - (n + 1)) := ⟨_, rfl⟩
  have hz2 : zeroVf.cells.size = 2 := rfl
  have hRl : ROW.size = G * 2 := by
    rw [hROW, Array.size_append, Array.size_append, size_zeroCells, size_zeroCells, hz2, List.size_toArray, List.length_take]
    omega
  obtain ⟨W1, hW1⟩ : ∃ W1, W1 = w.drew.alloc (.cells ROW 210) := ⟨_, rfl⟩
  have hrz : ∀ ty, (Builtin.append_ #[149, 3] ty #[.slice (some ⟨g, 0, none⟩) i n, .int .i64 ((n : Int) + 1 - (i : Int))]).run Tryz.prog w = .ok (.slice (some ⟨w.heap.size, 0, none⟩) (n + 1) G) W1 := fun ty => by
    have h := Lib.run_append_grow_zeros w 149 3 ty 210 i0 _ .i64 .i64 hU hUi hi0 hz0 (some ⟨g, 0, none⟩) i n (cur.take (i * 2)) hold (n + 1 - i) (by omega) (by omega) (by omega) (by omega) (by rw [hzb]; omega) (by rw [hzb, hik]; exact growslice_ok (by omega) hn)
    rw [hik] at h
    rw [hkk, hW1, hROW, hG]
    exact h
  have oR : Own W1 w.heap.size 210 ROW.toList := by
    rw [hW1]
    have := Own.made w.drew 210 ROW.toList
    simpa using this
  have oG : Own W1 g 210 cur := by rw [hW1]; exact (own_drewK ho).more _
  have oV : Own W1 vb 210 f.cells := by rw [hW1]; exact (own_drewK hv).more _
  have bW : Below w.heap.size w W1 := by rw [hW1]; exact (Below.drew (Below.refl _ _)).alloc (Nat.le_refl _) _
  have hRlen : ROW.toList.length = G * 2 := by simpa using hRl
  obtain ⟨W2, hW2⟩ : ∃ W2, W2 = W1.setRow w.heap.size (splice ROW.toList (i * 2) f.cells).toArray := ⟨_, rfl⟩
  have hcA : ∀ ty dc, (Builtin.copy_ #[149, 149] ty #[.slice (some ⟨w.heap.size, i * 2, none⟩) (n + 1 - i) dc, .slice (some ⟨vb, 0, none⟩) 1 1]).run Tryz.prog W1 = .ok (goInt (Nat.min 1 (n + 1 - i))) W2 := fun ty dc => by
    rw [hW2]
    refine run_copy_into W1 _ _ ty 210 w.heap.size (i * 2) (n + 1 - i) dc ⟨vb, 0, none⟩ 1 1 2 ROW.toList f.cells 210 hU hsz oR ?_ (fun j v hj => ?_) (by rw [hRlen]; simp [Vf.cells]; omega) (vf_one f)
    · have : Nat.min 1 (n + 1 - i) = 1 := Nat.min_eq_left (by omega)
      rw [this]; rfl
    · have ea : (⟨vb, 0, none⟩ : Addr).add j = ⟨vb, j, none⟩ := by unfold Addr.add; split <;> simp_all
      rw [ea, oV.at_ j]; exact hj
  have oR2 : Own W2 w.heap.size 210 (splice ROW.toList (i * 2) f.cells) := by rw [hW2]; exact own_rowK oR
  have oG2 : Own W2 g 210 cur := by
    rw [hW2]; unfold Own; rw [row_other (by omega)]; exact oG
  have hl2 : (splice ROW.toList (i * 2) f.cells).length = G * 2 := by rw [splice_len (by rw [hRlen]; simp [Vf.cells]; omega), hRlen]
  have hcl : (cur.drop (i * 2)).length = (n - i) * 2 := by rw [List.length_drop, hl]; omega
  obtain ⟨W3, hW3⟩ : ∃ W3, W3 = W2.drew.setRow w.heap.size (splice (splice ROW.toList (i * 2) f.cells) ((i + 1) * 2) (cur.drop (i * 2))).toArray := ⟨_, rfl⟩
  have hcB : ∀ ty dc sc, (Builtin.copy_ #[149, 149] ty #[.slice (some ⟨w.heap.size, (i + 1) * 2, none⟩) (n + 1 - (i + 1)) dc, .slice (some ⟨g, i * 2, none⟩) (n - i) sc]).run Tryz.prog W2.drew = .ok (goInt (Nat.min (n - i) (n + 1 - (i + 1)))) W3 := fun ty dc sc => by
    rw [hW3]
    refine run_copy_into W2.drew _ _ ty 210 w.heap.size ((i + 1) * 2) (n + 1 - (i + 1)) dc ⟨g, i * 2, none⟩ (n - i) sc 2 _ (cur.drop (i * 2)) 210 hU hsz oR2 ?_ (fun j v hj => ?_) (by rw [hl2, hcl]; omega) (fun u hu => h1 u (List.mem_of_mem_drop hu))
    · have : Nat.min (n - i) (n + 1 - (i + 1)) = n - i := Nat.min_eq_left (by omega)
      rw [this, hcl]
    · have ea : (⟨g, i * 2, none⟩ : Addr).add j = ⟨g, i * 2 + j, none⟩ := by unfold Addr.add; split <;> simp_all
      rw [ea, (own_drewK oG2).at_ (i * 2 + j)]
      rw [List.getElem?_drop] at hj; exact hj
  have oR3 : Own W3 w.heap.size 210 (splice (splice ROW.toList (i * 2) f.cells) ((i + 1) * 2) (cur.drop (i * 2))) := by rw [hW3]; exact own_rowK (w := W2.drew) oR2
  have b3 : Below w.heap.size w W3 := by
    rw [hW3, hW2]
    exact ⟨bW.os, bW.tape, bW.output, by simpa using bW.size, fun k hk => (row_other (by omega)).trans ((row_other (w := W1) (by omega)).trans (bW.block k hk))⟩
  have hfin : (splice (splice ROW.toList (i * 2) f.cells) ((i + 1) * 2) (cur.drop (i * 2))).take ((n + 1) * 2) = cur.take (i * 2) ++ f.cells ++ cur.drop (i * 2) := by
    have : ROW.toList = cur.take (i * 2) ++ (Builtin.zeroCells zeroVf.cells (n + 1 - i)).toList ++ (Builtin.zeroCells zeroVf.cells (G - (n + 1))).toList := by rw [hROW]; simp
    rw [this]
    exact splice3 hl hi rfl (by rw [Array.length_toList, size_zeroCells, hz2])
  have hlen3 : (splice (splice ROW.toList (i * 2) f.cells) ((i + 1) * 2) (cur.drop (i * 2))).length = G * 2 := by rw [splice_len (by rw [hl2, hcl]; omega), hl2]
  have HX := Lib.hid (And.intro oR3 (And.intro hGn (And.intro hG63 (And.intro hlen3 (And.intro hfin b3)))))
  have hB3 := fun ty dc sc => Lib.hid (hcB ty dc sc)
  unfold maxLen at hG63
  clear oR3 hlen3 hfin b3 hcB hl2 hcl oG2 oR2 hRlen bW oV oG oR hRl hROW hG hold hik hkk hz0 hzs hzb hsz hi0 hW1 hW2 hW3 h1 hl
  have hGi : ¬ (G = i) := by omega
  have hGim : ¬ (G = i + 1) := by omega
  have hci : ¬ (n = i) := by omega
  have hni : ¬ ((i : Int) = (n : Int)) := by omega
  have htn : ((i : Int) + 1).toNat = i + 1 := by omega
  have hb1 : (0 : Int) ≤ (i : Int) + 1 := by omega
  have hw1 : IntKind.i64.wrap ((i : Int) + 1) = (i : Int) + 1 := by rw [IntKind.wrap_i64]; omega
  have hb4 : (i : Int) + 1 ≤ (n : Int) + 1 := by omega
  have hb3 : (i : Int) ≤ (n : Int) := by omega
  have hin : i ≤ n := by omega
  have hgr : (n : Int) < (n : Int) + 1 := by omega
  go_enter Tryz.func241, Tryz.ntmps241
  go_wp2_with (first
    | (at_builtin; refine list_append_known _ rfl (.tmp 34) (.tmp 39) 149 3 rfl _ _ rfl rfl (hrz _) ?_)
    | (at_builtin; refine list_copy_known _ rfl (.tmp 43) (.tmp 44) 149 149 rfl _ _ rfl rfl (hcA _ _) ?_))
  go_region_law (refine step_copy_known rfl (.tmp 50) (.tmp 53) 149 149 rfl (.slice (some ⟨w.heap.size, (i + 1) * 2, none⟩) (n + 1 - (i + 1)) (G - (i + 1))) (.slice (some ⟨g, i * 2, none⟩) (n - i) (n - i)) (by simp [Act.eval, Act.put]) (by simp [Act.eval, Act.put]) (hB3 _ _ _).out ?_)
  go_wp2_with fail
  go_ret
  exact ⟨G, _, rfl, HX.out.1, HX.out.2.1, HX.out.2.2.1, HX.out.2.2.2.1, HX.out.2.2.2.2.1, HX.out.2.2.2.2.2⟩
end Go.Proofs.YtllpfngmnccejaaGreat
namespace Go.Proofs.YtllpfngmnccejaaGreat
open Go Go.RowKit

set_option maxRecDepth 100000 in
theorem overlaps_no (w : World) (g vb o1 lb cb la ca : Nat) (cur vs : List Value) (hg : Own w g 210 cur) (hv : Own w vb 210 vs) (hne : vb ≠ g) (hc : cur.length ≠ 0) :
    (callFunc 258 #[.slice (some ⟨vb, 0, none⟩) la ca, .slice (some ⟨g, o1, none⟩) lb cb]).run Tryz.prog w = .ok (.value (.bool false)) w := by
  have hs1 : w.shape? vb = some (210, vs.length) := by
    unfold World.shape?; have := hv; unfold Own at this; rw [this]; simp
  have hs2 : w.shape? g = some (210, cur.length) := by
    unfold World.shape?; have := hg; unfold Own at this; rw [this]; simp
  rw [run_callFunc_extern Tryz.func258 (by kernel_rfl) (by kernel_rfl) (by kernel_rfl) (e := Extern.SlicesOverlaps.overlaps #[149, 149] #[4]) (by kernel_rfl),
    Lib.run_overlaps_apart w 149 4 210 Tryz.underlying149 2 Tryz.sizeOf210 ⟨vb, 0, none⟩ ⟨g, o1, none⟩ la ca lb cb hne _ _ _ _ hs1 hs2 hc (hv.open_ 0) (hv.open_ _)]
  rfl
theorem splice4 {cur news : List Value} {i n c : Nat} (hl : cur.length = c * 2) (hc : n + 1 ≤ c) (hi : i < n) (hn : news.length = 2) :
    (splice (splice cur ((i + 1) * 2) ((cur.take (n * 2)).drop (i * 2))) (i * 2) news).take ((n + 1) * 2) = (cur.take (n * 2)).take (i * 2) ++ news ++ (cur.take (n * 2)).drop (i * 2) := by
  have h0 : (cur.take (n * 2)).length = n * 2 := by rw [List.length_take]; omega
  have hd : ((cur.take (n * 2)).drop (i * 2)).length = (n - i) * 2 := by rw [List.length_drop, h0]; omega
  have e1 : splice cur ((i + 1) * 2) ((cur.take (n * 2)).drop (i * 2)) = cur.take (i * 2) ++ ((cur.drop (i * 2)).take 2 ++ ((cur.take (n * 2)).drop (i * 2) ++ cur.drop ((n + 1) * 2))) := by
    unfold splice
    rw [hd, show (i + 1) * 2 + (n - i) * 2 = (n + 1) * 2 by omega, show (i + 1) * 2 = i * 2 + 2 by omega, List.take_add, List.append_assoc, List.append_assoc]
  rw [e1, splice_parts (by rw [List.length_take]; omega) (by rw [List.length_take, List.length_drop, hn]; omega)]
  have e2 : (cur.take (n * 2)).take (i * 2) = cur.take (i * 2) := by rw [List.take_take]; congr 1; omega
  rw [e2, ← List.append_assoc, ← List.append_assoc]
  have h3 : (cur.take (i * 2) ++ news ++ (cur.take (n * 2)).drop (i * 2)).length = (n + 1) * 2 := by rw [List.length_append, List.length_append, hd, hn, List.length_take]; omega
  rw [← h3, List.take_left' rfl]
set_option maxRecDepth 100000 in
set_option maxHeartbeats 3200000 in
theorem insert_shift (g n c i vb : Nat) (cur : List Value) (f : Vf) (w : World) (ho : Own w g 210 cur) (hl : cur.length = c * 2) (hm : c ≤ maxLen) (hc : n + 1 ≤ c) (hv : Own w vb 210 f.cells) (hne : vb ≠ g) (hi : i < n) (h1 : ∀ u ∈ cur.take (n * 2), u.oneCell' = true) :
    Calls Tryz.prog 241 #[.slice (some ⟨g, 0, none⟩) n c, .int .i64 (i : Int), .slice (some ⟨vb, 0, none⟩) 1 1] w fun e w' => e = .returned (.slice (some ⟨g, 0, none⟩) (n + 1) c) ∧ ∃ cur',
      Own w' g 210 cur' ∧ cur'.length = c * 2 ∧ cur'.take ((n + 1) * 2) = (cur.take (n * 2)).take (i * 2) ++ f.cells ++ (cur.take (n * 2)).drop (i * 2) ∧ w.grownBy w' (some g) := by
  obtain ⟨i0, hi0, hz0, hzs, hzb⟩ := info_parts infoVf
  have hU := Tryz.underlying149
  have hsz : (Tryz.prog.info? 210).map (·.size) = some 2 := by rw [hi0]; simp [hzs]
  have h0 : (cur.take (n * 2)).length = n * 2 := by rw [List.length_take]; omega
  have hd : ((cur.take (n * 2)).drop (i * 2)).length = (n - i) * 2 := by rw [List.length_drop, h0]; omega
  have hov : ∀ lb cb, (callFunc 258 #[.slice (some ⟨vb, 0, none⟩) 1 1, .slice (some ⟨g, (i + 1) * 2, none⟩) lb cb]).run Tryz.prog w = .ok (.value (.bool false)) w := fun lb cb => by
    exact overlaps_no w g vb _ lb cb 1 1 cur f.cells ho hv hne (by omega)
  obtain ⟨W1, hW1⟩ : ∃ W1, W1 = w.drew.setRow g (splice cur ((i + 1) * 2) ((cur.take (n * 2)).drop (i * 2))).toArray := ⟨_, rfl⟩
  have hcA : ∀ ty dc sc, (Builtin.copy_ #[149, 149] ty #[.slice (some ⟨g, (i + 1) * 2, none⟩) (n + 1 - (i + 1)) dc, .slice (some ⟨g, i * 2, none⟩) (n + 1 - i) sc]).run Tryz.prog w.drew = .ok (goInt (Nat.min (n + 1 - i) (n + 1 - (i + 1)))) W1 := fun ty dc sc => by
    rw [hW1]
    refine run_copy_into w.drew _ _ ty 210 g ((i + 1) * 2) (n + 1 - (i + 1)) dc ⟨g, i * 2, none⟩ (n + 1 - i) sc 2 cur _ 210 hU hsz ho ?_ (fun j v hj => ?_) (by rw [hd, hl]; omega) (fun u hu => h1 u (List.mem_of_mem_drop hu))
    · have : Nat.min (n + 1 - i) (n + 1 - (i + 1)) = n - i := by show min _ _ = _; omega
      rw [this, hd]
    · have ea : (⟨g, i * 2, none⟩ : Addr).add j = ⟨g, i * 2 + j, none⟩ := by unfold Addr.add; split <;> simp_all
      rw [ea, (own_drewK ho).at_ (i * 2 + j)]
      rw [List.getElem?_drop, List.getElem?_take] at hj
      split at hj
      · exact hj
      · cases hj
  have o1 : Own W1 g 210 (splice cur ((i + 1) * 2) ((cur.take (n * 2)).drop (i * 2))) := by rw [hW1]; exact own_rowK (w := w.drew) ho
  have v1 : Own W1 vb 210 f.cells := by rw [hW1]; unfold Own; rw [row_other hne]; exact hv
  have l1 : (splice cur ((i + 1) * 2) ((cur.take (n * 2)).drop (i * 2))).length = c * 2 := by rw [splice_len (by rw [hd, hl]; omega), hl]
  obtain ⟨W2, hW2⟩ : ∃ W2, W2 = W1.setRow g (splice (splice cur ((i + 1) * 2) ((cur.take (n * 2)).drop (i * 2))) (i * 2) f.cells).toArray := ⟨_, rfl⟩
  have hcB : ∀ ty dc, (Builtin.copy_ #[149, 149] ty #[.slice (some ⟨g, i * 2, none⟩) (n + 1 - i) dc, .slice (some ⟨vb, 0, none⟩) 1 1]).run Tryz.prog W1 = .ok (goInt (Nat.min 1 (n + 1 - i))) W2 := fun ty dc => by
    rw [hW2]
    refine run_copy_into W1 _ _ ty 210 g (i * 2) (n + 1 - i) dc ⟨vb, 0, none⟩ 1 1 2 _ f.cells 210 hU hsz o1 ?_ (fun j v hj => ?_) (by rw [l1]; simp [Vf.cells]; omega) (vf_one f)
    · have : Nat.min 1 (n + 1 - i) = 1 := Nat.min_eq_left (by omega)
      rw [this]; rfl
    · have ea : (⟨vb, 0, none⟩ : Addr).add j = ⟨vb, j, none⟩ := by unfold Addr.add; split <;> simp_all
      rw [ea, v1.at_ j]; exact hj
  have o2 : Own W2 g 210 (splice (splice cur ((i + 1) * 2) ((cur.take (n * 2)).drop (i * 2))) (i * 2) f.cells) := by rw [hW2]; exact own_rowK o1
  have l2 : (splice (splice cur ((i + 1) * 2) ((cur.take (n * 2)).drop (i * 2))) (i * 2) f.cells).length = c * 2 := by rw [splice_len (by rw [l1]; simp [Vf.cells]; omega), l1]
  have gr : w.grownBy W2 (some g) := by
    rw [hW2, hW1]
    exact ⟨rfl, rfl, rfl, by simp, fun k _ hk => (row_other (fun e => hk (by rw [e]))).trans (row_other (w := w.drew) (fun e => hk (by rw [e])))⟩
  have HX := Lib.hid (And.intro o2 (And.intro l2 (And.intro (splice4 hl hc hi (rfl : f.cells.length = 2)) gr)))
  have hB1 := fun ty dc sc => Lib.hid (hcA ty dc sc)
  unfold maxLen at hm
  clear o2 l2 gr hcA o1 v1 l1 hW1 hW2 hd h0 hsz hi0 hz0 hzs hzb h1 hl ho hv
  have hci : ¬ (c = i) := by omega
  have hci1 : ¬ (c = i + 1) := by omega
  have hni : ¬ ((i : Int) = (n : Int)) := by omega
  have htn : ((i : Int) + 1).toNat = i + 1 := by omega
  have htn2 : ((n : Int) + 1).toNat = n + 1 := by omega
  have hb1 : (0 : Int) ≤ (i : Int) + 1 := by omega
  have hb5 : (0 : Int) ≤ (n : Int) + 1 := by omega
  have hw1 : IntKind.i64.wrap ((i : Int) + 1) = (i : Int) + 1 := by rw [IntKind.wrap_i64]; omega
  have hw2 : IntKind.i64.wrap ((n : Int) + 1) = (n : Int) + 1 := by rw [IntKind.wrap_i64]; omega
  have hb4 : (i : Int) + 1 ≤ (n : Int) + 1 := by omega
  have hb3 : (i : Int) ≤ (n : Int) := by omega
  have hb6 : (i : Int) ≤ (n : Int) + 1 := by omega
  have hin : i ≤ n := by omega
  have hgr : ¬ ((c : Int) < (n : Int) + 1) := by omega
  have hgr2 : (n : Int) + 1 ≤ (c : Int) := by omega
  go_enter Tryz.func241, Tryz.ntmps241
  go_wp2_with (simp only [hov])
  go_region_law (refine step_copy_known rfl (.tmp 73) (.tmp 76) 149 149 rfl (.slice (some ⟨g, (i + 1) * 2, none⟩) (n + 1 - (i + 1)) (c - (i + 1))) (.slice (some ⟨g, i * 2, none⟩) (n + 1 - i) (c - i)) (by simp [Act.eval, Act.put]) (by simp [Act.eval, Act.put]) (hB1 _ _ _).out ?_)
  go_wp2_with (at_builtin; refine list_copy_known _ rfl (.tmp 80) (.tmp 81) 149 149 rfl _ _ rfl rfl (hcB _ _) ?_)
  go_ret
  exact ⟨rfl, _, HX.out.1, HX.out.2.1, HX.out.2.2.1, HX.out.2.2.2⟩
/-- slices.Insert of one file, wherever -/
theorem insert_any (base n c i vb : Nat) (A : Option Addr) (xs : List Value) (f : Vf) (w : World) (ho : w.ownsRow base 210 2 (.slice A n c) n xs) (hv : Own w vb 210 f.cells) (hne : (Value.slice A n c).ownBlock ≠ some vb) (hi : i ≤ n) (hn : (n + 1) * 40 ≤ 140737488355328) (hbase : base ≤ w.heap.size) (h1 : ∀ u ∈ xs, u.oneCell' = true) :
    Calls Tryz.prog 241 #[.slice A n c, .int .i64 (i : Int), .slice (some ⟨vb, 0, none⟩) 1 1] w fun e w' => ∃ A' c', e = .returned (.slice A' (n + 1) c') ∧
      w'.ownsRow base 210 2 (.slice A' (n + 1) c') (n + 1) (xs.take (i * 2) ++ f.cells ++ xs.drop (i * 2)) ∧ w.grownBy w' (Value.slice A n c).ownBlock ∧ ((Value.slice A' (n + 1) c').ownBlock = (Value.slice A n c).ownBlock ∨ (Value.slice A' (n + 1) c').ownBlock = some w.heap.size) := by
  by_cases hin : i = n
  · subst hin
    refine (insert_end base i c vb A xs f w ho hv hn hbase).mono ?_
    rintro e w' ⟨v', rfl, h2, h3, h4⟩
    have hx : xs.take (i * 2) = xs ∧ xs.drop (i * 2) = [] := ⟨List.take_of_length_le (by rw [ho.1]; omega), List.drop_of_length_le (by rw [ho.1]; omega)⟩
    rw [hx.1, hx.2, List.append_nil]
    rcases h2.2 with ⟨rfl, h0⟩ | ⟨g, cap, cur, rfl, hb, rest⟩
    · omega
    · exact ⟨_, _, rfl, h2, h3, h4⟩
  · rcases row_ownK ho with ⟨_, h0, _⟩ | ⟨g, cur, rfl, hb, hg, hnc, hm, hl, rfl⟩
    · omega
    · by_cases hr : n + 1 ≤ c
      · refine (insert_shift g n c i vb cur f w hg hl hm hr hv (fun e => hne (by rw [← e]; rfl)) (by omega) h1).mono ?_
        rintro e w' ⟨rfl, cur', o', l', t', g'⟩
        exact ⟨_, _, rfl, by rw [← t']; exact own_to_row o' hb hr hm l', g', .inl rfl⟩
      · obtain rfl : c = n := by omega
        have ht : cur.take (c * 2) = cur := List.take_of_length_le (by omega)
        rw [ht] at h1 ⊢
        refine (insert_grow g c i vb cur f w hg hl hv (by omega) hn h1).mono ?_
        rintro e w' ⟨G, cur', rfl, o', g1, g2, l', t', b'⟩
        exact ⟨_, _, rfl, by rw [← t']; exact own_to_row o' hbase g1 g2 l', ⟨b'.os, b'.tape, b'.output, b'.size, fun k hk _ => b'.block k hk⟩, .inr rfl⟩
end Go.Proofs.YtllpfngmnccejaaGreat
namespace Go.Proofs.YtllpfngmnccejaaGreat
open Go Go.RowKit

def Vf.fl (f : Vf) : Fl := ⟨f.n, catB f.ps⟩
def flV (l : List Vf) : List Fl := l.map Vf.fl
theorem names_fl (l : List Vf) : namesF (flV l) = namesV l := by unfold namesF flV namesV; rw [List.map_map]; rfl
def blk (A : Option Addr) : Option Nat := A.map (·.block)
theorem blk_own (A : Option Addr) (n c : Nat) : (Value.slice A n c).ownBlock = blk A := by cases A <;> rfl
def Fp (A : Option Addr) (l : List Vf) (k : Nat) : Prop := blk A = some k ∨ ∃ f ∈ l, blk f.A = some k
def wtV (l : List Vf) : Nat := l.length + (l.map (fun f => f.ps.length)).sum + szF (flV l)
structure Vis (w : World) (base : Nat) (A : Option Addr) (c : Nat) (l : List Vf) : Prop where
  row : w.ownsRow base 210 2 (.slice A l.length c) l.length (l.flatMap Vf.cells)
  parts : ∀ f ∈ l, Parts w base f
  apart : l.Pairwise (fun f g => ∀ k, blk f.A = some k → blk g.A ≠ some k)
  row_apart : ∀ f ∈ l, ∀ k, blk f.A = some k → blk A ≠ some k
theorem Vis.lt {w : World} {base : Nat} {A : Option Addr} {c : Nat} {l : List Vf} (h : Vis w base A c l) : ∀ k, Fp A l k → base ≤ k ∧ k < w.heap.size := by
  intro k hk
  rcases hk with hk | ⟨f, hf, hk⟩
  · exact h.row.lt k (by rw [blk_own]; exact hk)
  · exact (h.parts f hf).lt k (by rw [blk_own]; exact hk)
theorem Vis.kept {w w' : World} {base : Nat} {A : Option Addr} {c : Nat} {l : List Vf} {S : Nat → Prop} (h : Vis w base A c l) (hk : KeptK w w' S) (hs : ∀ k, Fp A l k → ¬ S k) : Vis w' base A c l :=
  ⟨hk.row h.row (fun k e => hs k (.inl (by rw [← blk_own]; exact e))), fun f hf => hk.row (h.parts f hf) (fun k e => hs k (.inr ⟨f, hf, by rw [← blk_own]; exact e⟩)), h.apart, h.row_apart⟩
structure VisAt (w : World) (base G o : Nat) (t : TypeId) (cs : List Value) (A : Option Addr) (c : Nat) (l : List Vf) : Prop where
  own : Own w G t cs
  c0 : cs[o]? = some (.slice A l.length c)
  c1 : cs[o + 1]? = some (.int .i64 (szF (flV l) : Int))
  vis : Vis w base A c l
  out : ¬ Fp A l G
  sorted : SortedN (namesV l)
  wt : wtV l ≤ 1099511627776
  le : base ≤ w.heap.size
def setV (cs : List Value) (o : Nat) (A : Option Addr) (c : Nat) (l : List Vf) : List Value := (cs.set o (.slice A l.length c)).set (o + 1) (.int .i64 (szF (flV l) : Int))
theorem setV_again (cs : List Value) (o : Nat) (A A' : Option Addr) (c c' : Nat) (l l' : List Vf) : setV (setV cs o A c l) o A' c' l' = setV cs o A' c' l' := by
  unfold setV
  apply List.ext_getElem?
  intro i
  simp only [List.getElem?_set, List.length_set]
  split
  · rfl
  · split
    · rfl
    · rfl
structure VisTo (w w' : World) (base G o : Nat) (t : TypeId) (cs : List Value) (F : Nat → Prop) (A' : Option Addr) (c' : Nat) (l' : List Vf) : Prop where
  at_ : VisAt w' base G o t (setV cs o A' c' l') A' c' l'
  kept : KeptK w w' (fun k => k = G ∨ F k)
  fp : ∀ k, Fp A' l' k → F k ∨ w.heap.size ≤ k
theorem VisAt.inside {w : World} {base G o : Nat} {t : TypeId} {cs : List Value} {A : Option Addr} {c : Nat} {l : List Vf} (h : VisAt w base G o t cs A c l) : G < w.heap.size := h.own.inside
theorem VisAt.below {w w' : World} {base G o : Nat} {t : TypeId} {cs : List Value} {A : Option Addr} {c : Nat} {l : List Vf} (h : VisAt w base G o t cs A c l) (hb : Below w.heap.size w w') : VisAt w' base G o t cs A c l :=
  ⟨h.own.past hb h.own.inside, h.c0, h.c1, h.vis.kept (KeptK.of_below hb (Nat.le_refl _) (fun _ => False)) (fun _ _ h => h), h.out, h.sorted, h.wt, Nat.le_trans h.le hb.size⟩
theorem VisAt.self {w : World} {base G o : Nat} {t : TypeId} {cs : List Value} {A : Option Addr} {c : Nat} {l : List Vf} (h : VisAt w base G o t cs A c l) : setV cs o A c l = cs := by
  unfold setV
  apply List.ext_getElem?
  intro i
  rw [List.getElem?_set]
  split
  · rename_i hi; subst hi
    rw [h.c1]
    have := (List.getElem?_eq_some_iff.1 h.c1).1
    simp [this]
  · rw [List.getElem?_set]
    split
    · rename_i hi; subst hi
      rw [h.c0]
      have := (List.getElem?_eq_some_iff.1 h.c0).1
      simp [this]
    · rfl
theorem VisTo.refl {w w' : World} {base G o : Nat} {t : TypeId} {cs : List Value} {A : Option Addr} {c : Nat} {l : List Vf} (h : VisAt w base G o t cs A c l) (hb : Below w.heap.size w w') : VisTo w w' base G o t cs (Fp A l) A c l :=
  ⟨by rw [h.self]; exact h.below hb, KeptK.of_below hb (Nat.le_refl _) _, fun k hk => .inl hk⟩
theorem VisTo.trans {w w1 w2 : World} {base G o : Nat} {t : TypeId} {cs : List Value} {A1 A2 : Option Addr} {c1 c2 : Nat} {F F1 : Nat → Prop} {l1 l2 : List Vf}
    (h : VisTo w w1 base G o t cs F A1 c1 l1) (k : VisTo w1 w2 base G o t (setV cs o A1 c1 l1) F1 A2 c2 l2) (hF : ∀ k, F1 k → F k ∨ w.heap.size ≤ k) : VisTo w w2 base G o t cs F A2 c2 l2 :=
  ⟨by have := k.at_; rwa [setV_again] at this,
    h.kept.trans k.kept (fun b hb hx => by
      rcases hx with rfl | hx
      · exact .inl rfl
      · rcases hF b hx with h1 | h1
        · exact .inr h1
        · omega),
    fun b hx => by
      rcases k.fp b hx with h1 | h1
      · exact hF b h1
      · exact .inr (Nat.le_trans h.kept.size h1)⟩
theorem VisTo.after {w w1 w2 : World} {base G o : Nat} {t : TypeId} {cs : List Value} {A1 : Option Addr} {c1 : Nat} {F : Nat → Prop} {l1 : List Vf} (hb : Below w.heap.size w w1) (k : VisTo w1 w2 base G o t cs F A1 c1 l1) : VisTo w w2 base G o t cs F A1 c1 l1 :=
  ⟨k.at_, (KeptK.of_below hb (Nat.le_refl _) (fun b => b = G ∨ F b)).trans k.kept (fun b _ hx => hx), fun b hx => by
    rcases k.fp b hx with h1 | h1
    · exact .inl h1
    · exact .inr (Nat.le_trans hb.size h1)⟩
theorem VisTo.then_ {w w1 w2 : World} {base G o : Nat} {t : TypeId} {cs : List Value} {A1 : Option Addr} {c1 : Nat} {F : Nat → Prop} {l1 : List Vf} (k : VisTo w w1 base G o t cs F A1 c1 l1) (hb : Below w1.heap.size w1 w2) : VisTo w w2 base G o t cs F A1 c1 l1 :=
  ⟨k.at_.below hb, k.kept.trans (KeptK.of_below hb (Nat.le_refl _) (fun _ => False)) (fun _ _ h => h.elim), k.fp⟩
theorem VisTo.wider {w w1 : World} {base G o : Nat} {t : TypeId} {cs : List Value} {A1 : Option Addr} {c1 : Nat} {F F' : Nat → Prop} {l1 : List Vf} (k : VisTo w w1 base G o t cs F A1 c1 l1) (hF : ∀ k, F k → F' k) : VisTo w w1 base G o t cs F' A1 c1 l1 :=
  ⟨k.at_, k.kept.more (fun b hx => by rcases hx with h | h; exact .inl h; exact .inr (hF b h)), fun b hx => by
    rcases k.fp b hx with h1 | h1
    · exact .inl (hF b h1)
    · exact .inr h1⟩
theorem len_le_wt (l : List Vf) : l.length ≤ wtV l := by unfold wtV; omega
theorem parts_le_wt {l : List Vf} {f : Vf} (h : f ∈ l) : f.ps.length ≤ wtV l := by
  have : f.ps.length ≤ (l.map (fun f => f.ps.length)).sum := by
    induction l with
    | nil => cases h
    | cons x l ih =>
      rw [List.map_cons, List.sum_cons]
      rcases List.mem_cons.1 h with rfl | h
      · omega
      · have := ih h; omega
  unfold wtV; omega
theorem size_le_wt {l : List Vf} {f : Vf} (h : f ∈ l) : (catB f.ps).size ≤ szF (flV l) := by
  induction l with
  | nil => cases h
  | cons x l ih =>
    unfold flV at *
    rw [List.map_cons, szF_cons]
    rcases List.mem_cons.1 h with rfl | h
    · exact Nat.le_add_right _ _
    · have := ih h; omega
end Go.Proofs.YtllpfngmnccejaaGreat
