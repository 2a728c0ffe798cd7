/- Plain facts on plans: which schema they have. -/
import Derived.Test.YtjidjpmdmcleoaaPx
namespace Go.Proofs.Ytjidjpmdmcleoaa
open Go Go.RowKit

def pickS (L : List (List Int)) (i u : Int) : List Int × Int := if 0 ≤ i ∧ i < L.length then (L.getD i.toNat [], u) else ([], fl u 1)
def inC (s : List Int) (i : Int) : Bool := decide (0 ≤ i) && decide (i < s.length)
def atS (s : List Int) (cols : List Int) (u : Int) : List Int × Int := if cols.all (inC s) = true then (cols.map (fun i => s.getD i.toNat 0), u) else ([], fl u 1)
def shortU (s : List Int) (u : Int) : Int := if s.length > 8 then fl u 2 else u
def sameS (a b : List Int) (u : Int) : Int := if a = b then u else fl u 11
def typesS (sch : List Int) (es : List Lx) (u : Int) : List Int × Int := (es.map (fun e => (inferE sch e).1), es.foldl (fun u e => fl u (inferE sch e).2) u)
def redS (p : Px) (sch : List Int) (u : Int) : List Int × Int :=
  let a := atS sch p.cols u
  if p.agg = 1 then (a.1 ++ [1], shortU (a.1 ++ [1]) a.2)
  else if p.agg = 5 then (sch, if p.n < 1 ∨ p.n > 8 then fl a.2 1 else a.2)
  else
    let o := atS sch [p.n] a.2
    (a.1 ++ o.1, shortU (a.1 ++ o.1) (if p.agg = 2 then sameS [1] o.1 o.2 else o.2))
def pinfK (f : Px → Int → List Int × Int) : List Px → Int → List (List Int) × Int
  | [], u => ([], u)
  | k :: t, u => ((f k u).1 :: (pinfK f t (f k u).2).1, (pinfK f t (f k u).2).2)
def endS (p : Px) (ks : List (List Int)) (u : Int) : List Int × Int :=
  if p.kind = 3 then ((typesS (ks.getD 0 []) p.exprs u).1, shortU (typesS (ks.getD 0 []) p.exprs u).1 (typesS (ks.getD 0 []) p.exprs u).2)
  else if p.kind = 4 then (ks.getD 0 [], sameS [1] (typesS (ks.getD 0 []) p.exprs u).1 (shortU (typesS (ks.getD 0 []) p.exprs u).1 (typesS (ks.getD 0 []) p.exprs u).2))
  else if p.kind = 5 then (ks.getD 0 [], (ks.drop 1).foldl (fun u x => sameS (ks.getD 0 []) x u) u)
  else if p.kind = 7 then
    let a := atS (ks.getD 0 []) p.cols u
    let b := atS (ks.getD 1 []) p.wit a.2
    (ks.flatten, shortU ks.flatten (sameS a.1 b.1 b.2))
  else if p.kind = 8 then redS p (ks.getD 0 []) u
  else (ks.getD 0 [], u)
def pkid (p : Px) (i : Nat) : Px := p.kids.getD i default
/-- a plan's schema, and the failure so far -/
def pinf (src : List (List Int)) : Nat → Px → List (List Int) → Int → List Int × Int
  | 0, _, _, u => ([], u)
  | n + 1, p, ls, u =>
    if p.kind = 1 then pickS src p.n u
    else if p.kind = 2 then pickS ls p.n u
    else if p.kind = 10 then
      ((pinf src n (pkid p 0) ls u).1, sameS (pinf src n (pkid p 0) ls u).1 (pinf src n (pkid p 1) ((pinf src n (pkid p 0) ls u).1 :: ls) (pinf src n (pkid p 0) ls u).2).1 (pinf src n (pkid p 1) ((pinf src n (pkid p 0) ls u).1 :: ls) (pinf src n (pkid p 0) ls u).2).2)
    else endS p (pinfK (fun k u => pinf src n k ls u) p.kids u).1 (pinfK (fun k u => pinf src n k ls u) p.kids u).2
theorem fl_stay {u : Int} (h : u ≠ 0) (w : Int) : fl u w = u := by unfold fl; rw [if_neg h]
theorem fl_none (u : Int) : fl u 0 = u := by unfold fl; split <;> omega
theorem pickS_stay (L : List (List Int)) (i : Int) {u : Int} (h : u ≠ 0) : (pickS L i u).2 = u := by
  unfold pickS; split
  · rfl
  · exact fl_stay h 1
theorem atS_stay (s cols : List Int) {u : Int} (h : u ≠ 0) : (atS s cols u).2 = u := by
  unfold atS; split
  · rfl
  · exact fl_stay h 1
theorem shortU_stay (s : List Int) {u : Int} (h : u ≠ 0) : shortU s u = u := by
  unfold shortU; split
  · exact fl_stay h 2
  · rfl
theorem sameS_stay (a b : List Int) {u : Int} (h : u ≠ 0) : sameS a b u = u := by
  unfold sameS; split
  · rfl
  · exact fl_stay h 11
theorem typesS_stay (sch : List Int) : ∀ (es : List Lx) {u : Int}, u ≠ 0 → (typesS sch es u).2 = u
  | [], _, _ => rfl
  | e :: es, u, h => by
    have := typesS_stay sch es (u := fl u (inferE sch e).2) (by rw [fl_stay h]; exact h)
    unfold typesS at *
    simp only [List.foldl_cons] at *
    rw [this, fl_stay h]
theorem sames_stay (x : List Int) : ∀ (l : List (List Int)) {u : Int}, u ≠ 0 → l.foldl (fun u y => sameS x y u) u = u
  | [], _, _ => rfl
  | y :: l, u, h => by rw [List.foldl_cons, sameS_stay x y h]; exact sames_stay x l h
theorem redS_stay (p : Px) (sch : List Int) {u : Int} (h : u ≠ 0) : (redS p sch u).2 = u := by
  unfold redS
  have h1 := atS_stay sch p.cols h
  have h2 := atS_stay sch [p.n] h
  simp only [h1]
  split
  · exact shortU_stay _ h
  · split
    · simp only; split
      · exact fl_stay h 1
      · rfl
    · simp only [h2]
      split
      · rw [sameS_stay _ _ h]; exact shortU_stay _ h
      · exact shortU_stay _ h
theorem endS_stay (p : Px) (ks : List (List Int)) {u : Int} (h : u ≠ 0) : (endS p ks u).2 = u := by
  unfold endS
  have h1 := typesS_stay (ks.getD 0 []) p.exprs h
  have h2 := atS_stay (ks.getD 0 []) p.cols h
  have h3 := atS_stay (ks.getD 1 []) p.wit h
  simp only [h1, h2, h3, shortU_stay _ h, sameS_stay _ _ h, sames_stay _ _ h]
  repeat' split
  all_goals first | rfl | exact redS_stay p _ h
theorem pinfK_stay {f : Px → Int → List Int × Int} (hf : ∀ k u, u ≠ 0 → (f k u).2 = u) : ∀ (l : List Px) {u : Int}, u ≠ 0 → (pinfK f l u).2 = u
  | [], _, _ => rfl
  | k :: l, u, h => by
    unfold pinfK
    rw [hf k u h]
    exact pinfK_stay hf l h
theorem pinf_stay (src : List (List Int)) : ∀ (n : Nat) (p : Px) (ls : List (List Int)) {u : Int}, u ≠ 0 → (pinf src n p ls u).2 = u
  | 0, _, _, _, _ => rfl
  | n + 1, p, ls, u, h => by
    unfold pinf
    have h1 := pinf_stay src n (pkid p 0) ls h
    have h2 := fun ls => pinf_stay src n (pkid p 1) ls h
    have h3 := pinfK_stay (fun k u hu => pinf_stay src n k ls hu) p.kids h
    split
    · exact pickS_stay _ _ h
    · split
      · exact pickS_stay _ _ h
      · split
        · simp only [h1, h2, sameS_stay _ _ h]
        · rw [h3]; exact endS_stay _ _ h
theorem pinf_zero {src : List (List Int)} {n : Nat} {p : Px} {ls : List (List Int)} {u : Int} (h : (pinf src n p ls u).2 = 0) : u = 0 := by
  by_cases hu : u = 0
  · exact hu
  · rw [pinf_stay src n p ls hu] at h; exact h
theorem pinfK_zero {f : Px → Int → List Int × Int} (hf : ∀ k u, u ≠ 0 → (f k u).2 = u) : ∀ (l : List Px) {u : Int}, (pinfK f l u).2 = 0 → u = 0 ∧ ∀ k ∈ l, (f k 0).2 = 0
  | [], _, h => ⟨h, fun _ hk => by cases hk⟩
  | k :: l, u, h => by
    unfold pinfK at h
    obtain ⟨h1, h2⟩ := pinfK_zero hf l h
    have hu : u = 0 := by
      by_cases hu : u = 0
      · exact hu
      · rw [hf k u hu] at h1; exact h1
    subst hu
    refine ⟨rfl, fun x hx => ?_⟩
    rcases List.mem_cons.1 hx with rfl | hx
    · exact h1
    · exact h2 x hx
theorem pinfK_congr {f g : Px → Int → List Int × Int} : ∀ (l : List Px) (u : Int), (∀ k ∈ l, ∀ u, f k u = g k u) → pinfK f l u = pinfK g l u
  | [], _, _ => rfl
  | k :: l, u, h => by
    unfold pinfK
    rw [h k (by simp), pinfK_congr l _ fun x hx => h x (by simp [hx])]
theorem pinfK_wide {f g : Px → Int → List Int × Int} (hf : ∀ k u, u ≠ 0 → (f k u).2 = u) : ∀ (l : List Px), (∀ k ∈ l, (f k 0).2 = 0 → g k 0 = f k 0) → (pinfK f l 0).2 = 0 → pinfK g l 0 = pinfK f l 0
  | [], _, _ => rfl
  | k :: l, h, h0 => by
    have hk := (pinfK_zero hf (k :: l) h0).2 k (by simp)
    have e := h k (by simp) hk
    unfold pinfK at h0 ⊢
    rw [e, hk] at *
    rw [pinfK_wide hf l (fun x hx => h x (by simp [hx])) h0]
theorem pinfK_snoc {f : Px → Int → List Int × Int} : ∀ (l : List Px) (k : Px) (u : Int), pinfK f (l ++ [k]) u = ((pinfK f l u).1 ++ [(f k (pinfK f l u).2).1], (f k (pinfK f l u).2).2)
  | [], _, _ => rfl
  | x :: l, k, u => by
    show pinfK f (x :: (l ++ [k])) u = _
    unfold pinfK
    rw [pinfK_snoc l k]
    rfl
theorem pinfK_len {f : Px → Int → List Int × Int} : ∀ (l : List Px) (u : Int), (pinfK f l u).1.length = l.length
  | [], _ => rfl
  | _ :: l, u => by unfold pinfK; simp [pinfK_len l]
theorem inS_iff {a b n : Int} : inS a b n = true ↔ a ≤ n ∧ n ≤ b := by unfold inS; simp
/-- how many plans a plan of some kind holds -/
theorem fits_kids {p : Px} (h : fitsP p = true) : (p.kind = 1 ∨ p.kind = 2 → p.kids.length = 0) ∧ (p.kind = 7 ∨ p.kind = 10 → p.kids.length = 2) ∧ (p.kind ≠ 1 → p.kind ≠ 2 → 0 < p.kids.length) := by
  have hk : inS (shp p.kind p.agg).k1 (shp p.kind p.agg).k2 p.kids.length = true := by
    unfold fitsP Sh.fits at h
    rw [Bool.and_eq_true] at h
    exact h.1
  rw [inS_iff] at hk
  unfold shp at hk
  refine ⟨fun hh => ?_, fun hh => ?_, fun h1 h2 => ?_⟩
  · rw [if_pos hh] at hk; simp only at hk; omega
  · rcases hh with hh | hh
    · rw [if_neg (by omega), if_neg (by omega), if_neg (by omega), if_neg (by omega), if_neg (by omega), if_pos hh] at hk; simp only at hk; omega
    · rw [if_neg (by omega), if_neg (by omega), if_neg (by omega), if_neg (by omega), if_neg (by omega), if_neg (by omega), if_neg (by omega), if_pos hh] at hk; simp only at hk; omega
  · rw [if_neg (by omega)] at hk
    have hk := hk.1
    repeat' split at hk
    all_goals (simp only at hk; omega)
theorem getD_get {α : Type} {l : List α} {i : Nat} (d : α) (h : i < l.length) : l.getD i d = l[i] := by simp [List.getD_eq_getElem?_getD, h]
theorem pkid_mem {p : Px} {i : Nat} (h : i < p.kids.length) : pkid p i ∈ p.kids := by
  unfold pkid
  rw [getD_get _ h]
  exact List.getElem_mem h
theorem good_kid {n : Nat} {p k : Px} (h : goodP (n + 1) p = true) (hk : k ∈ p.kids) : goodP n k = true := by
  simp only [goodP, Bool.and_eq_true, List.all_eq_true] at h
  exact h.2.2 k hk
theorem good_fits {n : Nat} {p : Px} (h : goodP (n + 1) p = true) : fitsP p = true := by
  simp only [goodP, Bool.and_eq_true] at h
  exact h.1
theorem pinf_fuel (src : List (List Int)) : ∀ (n m : Nat) (p : Px) (ls : List (List Int)) (u : Int), n ≤ m → goodP n p = true → pinf src m p ls u = pinf src n p ls u
  | 0, _, _, _, _, _, h => by cases h
  | n + 1, 0, _, _, _, h, _ => by omega
  | n + 1, m + 1, p, ls, u, hm, h => by
    have ih := fun k (hk : k ∈ p.kids) ls u => pinf_fuel src n m k ls u (by omega) (good_kid h hk)
    have hf := fits_kids (good_fits h)
    unfold pinf
    by_cases h1 : p.kind = 1
    · rw [if_pos h1, if_pos h1]
    · rw [if_neg h1, if_neg h1]
      by_cases h2 : p.kind = 2
      · rw [if_pos h2, if_pos h2]
      · rw [if_neg h2, if_neg h2]
        by_cases h3 : p.kind = 10
        · have hl := hf.2.1 (.inr h3)
          rw [if_pos h3, if_pos h3, ih _ (pkid_mem (by omega)), ih _ (pkid_mem (by omega))]
        · rw [if_neg h3, if_neg h3, pinfK_congr p.kids u fun k hk u => ih k hk ls u]
theorem pickS_wide {L : List (List Int)} {i : Int} (x : List Int) (h : (pickS L i 0).2 = 0) : pickS (L ++ [x]) i 0 = pickS L i 0 := by
  unfold pickS at *
  by_cases hi : 0 ≤ i ∧ i < L.length
  · rw [if_pos hi, if_pos (by rw [List.length_append]; simp; omega)]
    rw [getD_get _ (show i.toNat < (L ++ [x]).length by rw [List.length_append]; omega), getD_get _ (show i.toNat < L.length by omega), List.getElem_append_left]
  · rw [if_neg hi] at h; exact absurd h (by unfold fl; decide)
theorem pinf_wide (src : List (List Int)) (x : List Int) : ∀ (n : Nat) (p : Px) (ls : List (List Int)), (pinf src n p ls 0).2 = 0 → pinf (src ++ [x]) n p ls 0 = pinf src n p ls 0
  | 0, _, _, _ => rfl
  | n + 1, p, ls, h => by
    unfold pinf at h ⊢
    by_cases h1 : p.kind = 1
    · rw [if_pos h1] at h; rw [if_pos h1, if_pos h1]; exact pickS_wide x h
    · rw [if_neg h1] at h
      rw [if_neg h1, if_neg h1]
      by_cases h2 : p.kind = 2
      · rw [if_pos h2, if_pos h2]
      · rw [if_neg h2] at h
        rw [if_neg h2, if_neg h2]
        by_cases h3 : p.kind = 10
        · rw [if_pos h3] at h
          rw [if_pos h3, if_pos h3]
          simp only at h
          have hb : (pinf src n (pkid p 1) ((pinf src n (pkid p 0) ls 0).1 :: ls) (pinf src n (pkid p 0) ls 0).2).2 = 0 := by
            by_cases hu : (pinf src n (pkid p 1) ((pinf src n (pkid p 0) ls 0).1 :: ls) (pinf src n (pkid p 0) ls 0).2).2 = 0
            · exact hu
            · rw [sameS_stay _ _ hu] at h; exact h
          have ha := pinf_zero hb
          have e1 := pinf_wide src x n (pkid p 0) ls ha
          rw [e1]
          rw [ha] at hb ⊢
          rw [pinf_wide src x n (pkid p 1) _ hb]
        · rw [if_neg h3] at h
          rw [if_neg h3, if_neg h3]
          have hz : (pinfK (fun k u => pinf src n k ls u) p.kids 0).2 = 0 := by
            by_cases hu : (pinfK (fun k u => pinf src n k ls u) p.kids 0).2 = 0
            · exact hu
            · rw [endS_stay _ _ hu] at h; exact h
          rw [pinfK_wide (f := fun k u => pinf src n k ls u) (g := fun k u => pinf (src ++ [x]) n k ls u) (fun k u hu => pinf_stay src n k ls hu) p.kids (fun k _ hk => pinf_wide src x n k ls hk) hz]
/-- those in a plan that has a schema have one, but for an iterate's second one -/
theorem pinf_part (src : List (List Int)) {n : Nat} {p : Px} {ls : List (List Int)} (hg : goodP (n + 1) p = true) (h : (pinf src (n + 1) p ls 0).2 = 0) {i : Nat} {k : Px} (hk : p.kids[i]? = some k) (hi : p.kind ≠ 10 ∨ i ≠ 1) : (pinf src n k ls 0).2 = 0 := by
  have hf := fits_kids (good_fits hg)
  have hlt := (List.getElem?_eq_some_iff.1 hk).1
  unfold pinf at h
  by_cases h1 : p.kind = 1
  · have := hf.1 (.inl h1); omega
  by_cases h2 : p.kind = 2
  · have := hf.1 (.inr h2); omega
  rw [if_neg h1, if_neg h2] at h
  by_cases h3 : p.kind = 10
  · rw [if_pos h3] at h
    have h2 := hf.2.1 (.inr h3)
    have hi0 : i = 0 := by have : i ≠ 1 := by rcases hi with h | h
                                              · exact absurd h3 h
                                              · exact h
                           omega
    subst hi0
    simp only at h
    have hkid : pkid p 0 = k := by unfold pkid; rw [List.getD_eq_getElem?_getD, hk]; rfl
    have hb : (pinf src n (pkid p 1) ((pinf src n (pkid p 0) ls 0).1 :: ls) (pinf src n (pkid p 0) ls 0).2).2 = 0 := by
      by_cases hu : (pinf src n (pkid p 1) ((pinf src n (pkid p 0) ls 0).1 :: ls) (pinf src n (pkid p 0) ls 0).2).2 = 0
      · exact hu
      · rw [sameS_stay _ _ hu] at h; exact h
    rw [← hkid]
    exact pinf_zero hb
  · rw [if_neg h3] at h
    have hz : (pinfK (fun k u => pinf src n k ls u) p.kids 0).2 = 0 := by
      by_cases hu : (pinfK (fun k u => pinf src n k ls u) p.kids 0).2 = 0
      · exact hu
      · rw [endS_stay _ _ hu] at h; exact h
    exact (pinfK_zero (fun k u hu => pinf_stay src n k ls hu) p.kids hz).2 k (List.mem_of_getElem? hk)
def badT (x : Int) : Bool := x != 1 && x != 2
def chkS1 (s : List Int) : Bool := decide (s.length > 8) || s.any badT
def chkS (src : List (List Int)) : Int := if src.length > 8 then 4 else if src.any chkS1 = true then 4 else 0
/-- what Infer tells -/
def inferP (src : List (List Int)) (p : Px) : List Int × Int :=
  if chkS src = 0 then (if checkP p = 0 then (if (pinf src 17 p [] 0).2 = 0 then ((pinf src 17 p [] 0).1, 0) else ([], (pinf src 17 p [] 0).2)) else ([], checkP p)) else ([], chkS src)
def tbl : List Nat := [1, 1, 1, 2, 2, 3, 3, 4, 4, 6, 6, 9, 9, 12, 12, 18, 18, 27, 27, 36, 36, 54, 54, 81, 81, 108, 108, 162, 162, 243, 243, 324, 324, 486, 486, 729, 729, 972, 972, 1458, 1458, 2187, 2187, 2916, 2916, 4374, 4374, 6561, 6561, 8748, 8748, 13122, 13122, 19683, 19683, 26244, 26244, 39366, 39366, 59049, 59049, 78732, 78732, 118098, 118098]
def tb (c : Nat) : Nat := tbl.getD c 0
theorem tb_step : ∀ c < 65, ∀ a < c, 1 ≤ a → 1 ≤ c - 1 - a → tb a + tb (c - 1 - a) ≤ tb c ∧ tb a * tb (c - 1 - a) ≤ tb c := by
  have h : ((List.range 65).all fun c => (List.range c).all fun a => decide (a < 1) || (decide (c - 1 - a < 1) || (decide (tb a + tb (c - 1 - a) ≤ tb c) && decide (tb a * tb (c - 1 - a) ≤ tb c)))) = true := by kernel_rfl
  intro c hc a ha h1 h2
  have h3 := List.all_eq_true.1 h c (List.mem_range.2 hc)
  have h4 := List.all_eq_true.1 h3 a (List.mem_range.2 ha)
  simp only [Bool.or_eq_true, Bool.and_eq_true, decide_eq_true_eq] at h4
  rcases h4 with h4 | h4 | h4
  · omega
  · omega
  · exact h4
theorem tb_mono1 : ∀ c < 64, tb c ≤ tb (c + 1) := by
  have h : ((List.range 64).all fun c => decide (tb c ≤ tb (c + 1))) = true := by kernel_rfl
  intro c hc
  have := List.all_eq_true.1 h c (List.mem_range.2 hc)
  simpa using this
theorem tb_mono {a b : Nat} (h : a ≤ b) (hb : b ≤ 64) : tb a ≤ tb b := by
  induction b with
  | zero => have : a = 0 := by omega
            rw [this]; exact Nat.le_refl _
  | succ b ih =>
    by_cases he : a = b + 1
    · rw [he]; exact Nat.le_refl _
    · exact Nat.le_trans (ih (by omega) (by omega)) (tb_mono1 b (by omega))
theorem tb_most : tb 64 ≤ 131072 := Nat.le_of_ble_eq_true (by kernel_rfl)
theorem tb_pos (a : Nat) (h : a ≤ 64) : 1 ≤ tb a := Nat.le_trans (show 1 ≤ tb 0 from Nat.le_of_ble_eq_true (by kernel_rfl)) (tb_mono (by omega) h)
/-- the lists in a plan are at most M long, n deep -/
def PSm (M : Nat) : Nat → Px → Prop
  | 0, _ => True
  | n + 1, p => (p.exprs.length ≤ M ∧ p.cols.length + 1 ≤ M) ∧ ∀ k ∈ p.kids, PSm M n k
theorem cnt_kid {n : Nat} {p k : Px} (hk : k ∈ p.kids) : cntP n k + 1 ≤ cntP (n + 1) p := by
  have : ∀ l : List Px, k ∈ l → cntP n k ≤ (l.map (cntP n)).sum := by
    intro l; induction l with
    | nil => intro h; cases h
    | cons x l ih =>
      intro h
      rw [List.map_cons, List.sum_cons]
      rcases List.mem_cons.1 h with rfl | h
      · omega
      · have := ih h; omega
  have := this p.kids hk
  simp only [cntP]; omega
theorem cnt_two_kids {n : Nat} {p : Px} (h : p.kids.length = 2) : cntP (n + 1) p = cntP n (pkid p 0) + cntP n (pkid p 1) + 1 := by
  unfold pkid
  simp only [cntP]
  match hk : p.kids, h with
  | [a, b], _ => simp; omega
theorem cnt_pos {n : Nat} {p : Px} (h : goodP n p = true) : 1 ≤ cntP n p := by
  cases n with
  | zero => cases h
  | succ n => simp only [cntP]; omega
theorem pickS_len {L : List (List Int)} {B : Nat} (h : ∀ s ∈ L, s.length ≤ B) (i u : Int) : (pickS L i u).1.length ≤ B := by
  unfold pickS; split
  · rename_i hi
    rw [getD_get _ (show i.toNat < L.length by omega)]
    exact h _ (List.getElem_mem _)
  · exact Nat.zero_le _
theorem atS_len (s cols : List Int) (u : Int) : (atS s cols u).1.length ≤ cols.length := by
  unfold atS; split
  · simp
  · exact Nat.zero_le _
theorem pinf_len (src : List (List Int)) (M : Nat) : ∀ (n : Nat) (p : Px) (ls : List (List Int)) (u : Int) (L : Nat), (∀ s ∈ src, s.length ≤ L) → (∀ s ∈ ls, s.length ≤ L) → M ≤ L → PSm M n p → goodP n p = true → cntP n p ≤ 64 → (pinf src n p ls u).1.length ≤ tb (cntP n p) * L
  | 0, _, _, _, _, _, _, _, _, h, _ => by cases h
  | n + 1, p, ls, u, L, hs, hl, hM, hp, hg, hc => by
    have hf := fits_kids (good_fits hg)
    have h1L : L ≤ tb (cntP (n + 1) p) * L := by have := Nat.mul_le_mul_right L (tb_pos _ hc); rwa [Nat.one_mul] at this
    have hkid : ∀ k ∈ p.kids, ∀ u, (pinf src n k ls u).1.length ≤ tb (cntP n k) * L := fun k hk u => by
      have hck := cnt_kid (n := n) hk
      exact pinf_len src M n k ls u L hs hl hM (hp.2 k hk) (good_kid hg hk) (by omega)
    have hup : ∀ k ∈ p.kids, ∀ u, (pinf src n k ls u).1.length ≤ tb (cntP (n + 1) p) * L := fun k hk u => by
      have hck := cnt_kid (n := n) hk
      exact Nat.le_trans (hkid k hk u) (Nat.mul_le_mul_right L (tb_mono (by omega) hc))
    unfold pinf
    by_cases h1 : p.kind = 1
    · rw [if_pos h1]; exact Nat.le_trans (pickS_len hs _ _) h1L
    rw [if_neg h1]
    by_cases h2 : p.kind = 2
    · rw [if_pos h2]; exact Nat.le_trans (pickS_len hl _ _) h1L
    rw [if_neg h2]
    by_cases h3 : p.kind = 10
    · rw [if_pos h3]
      have := hf.2.1 (.inr h3)
      exact hup _ (pkid_mem (by omega)) u
    rw [if_neg h3]
    have hpos := hf.2.2 h1 h2
    generalize hK : pinfK (fun k u => pinf src n k ls u) p.kids u = K
    have hK0 : (K.1.getD 0 []).length ≤ tb (cntP (n + 1) p) * L := by
      rw [← hK]
      match hk : p.kids, hpos with
      | k :: t, _ =>
        show (pinf src n k ls u).1.length ≤ _
        exact hup k (by rw [hk]; simp) u
    unfold endS
    by_cases h4 : p.kind = 3
    · rw [if_pos h4]; unfold typesS; simp only [List.length_map]; exact Nat.le_trans hp.1.1 (Nat.le_trans hM h1L)
    rw [if_neg h4]
    by_cases h5 : p.kind = 4
    · rw [if_pos h5]; exact hK0
    rw [if_neg h5]
    by_cases h6 : p.kind = 5
    · rw [if_pos h6]; exact hK0
    rw [if_neg h6]
    by_cases h7 : p.kind = 7
    · rw [if_pos h7]
      have hl2 := hf.2.1 (.inl h7)
      have hct := cnt_two_kids (n := n) hl2
      have m0 := pkid_mem (p := p) (i := 0) (by omega)
      have m1 := pkid_mem (p := p) (i := 1) (by omega)
      have p0 := cnt_pos (good_kid hg m0)
      have p1 := cnt_pos (good_kid hg m1)
      have ht := (tb_step (cntP (n + 1) p) (by omega) (cntP n (pkid p 0)) (by omega) p0 (by omega)).1
      rw [show cntP (n + 1) p - 1 - cntP n (pkid p 0) = cntP n (pkid p 1) by omega] at ht
      have ht := Nat.mul_le_mul_right L ht
      rw [Nat.add_mul] at ht
      have hfl : K.1.flatten.length = (pinf src n (pkid p 0) ls u).1.length + (pinf src n (pkid p 1) ls (pinf src n (pkid p 0) ls u).2).1.length := by
        rw [← hK]
        unfold pkid
        match hk : p.kids, hl2 with
        | [a, b], _ => simp [pinfK]
      simp only
      rw [hfl]
      have q0 := hkid _ m0 u
      have q1 := hkid _ m1 (pinf src n (pkid p 0) ls u).2
      omega
    rw [if_neg h7]
    by_cases h8 : p.kind = 8
    · rw [if_pos h8]
      unfold redS
      have ha := atS_len (K.1.getD 0 []) p.cols K.2
      simp only
      split
      · simp only [List.length_append, List.length_cons, List.length_nil]; have := hp.1.2; omega
      · split
        · exact hK0
        · have hb := atS_len (K.1.getD 0 []) [p.n] (atS (K.1.getD 0 []) p.cols K.2).2
          simp only [List.length_append, List.length_cons, List.length_nil] at *
          have := hp.1.2; omega
    rw [if_neg h8]
    exact hK0
end Go.Proofs.Ytjidjpmdmcleoaa
