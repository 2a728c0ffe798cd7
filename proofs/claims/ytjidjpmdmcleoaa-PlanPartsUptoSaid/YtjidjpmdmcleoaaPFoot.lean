/- Plain facts on plans, for the laws: what a plan that holds another one comes to. -/
import Derived.Test.YtjidjpmdmcleoaaPInf
import Derived.Test.YtjidjpmdmcleoaaOpenList
import Derived.Test.YtjidjpmdmcleoaaBulk
import Derived.Test.YtjidjpmdmcleoaaEOpen
import Derived.Test.YtjidjpmdmcleoaaOpenInts
import Derived.Test.YtjidjpmdmcleoaaPInE
namespace Go.Proofs.Ytjidjpmdmcleoaa
open Go Go.RowKit

theorem arnd_mono (p : Px) (i : Nat) {l l' : Int} (h : l ≤ l') : arnd p i l ≤ arnd p i l' := by unfold arnd; split <;> omega
theorem arnd_ge (p : Px) (i : Nat) (l : Int) : l ≤ arnd p i l := by unfold arnd; split <;> omega
theorem foldMax_mono {f g : Nat → Px → Int} : ∀ (l : List Px) (i : Nat) (m m' : Int), m ≤ m' → (∀ k ∈ l, ∀ i, f i k ≤ g i k) → foldK (fun i k m => max m (f i k)) i l m ≤ foldK (fun i k m => max m (g i k)) i l m'
  | [], _, _, _, h, _ => h
  | k :: l, i, m, m', h, hk => by
    simp only [foldK]
    have := hk k (by simp) i
    exact foldMax_mono l (i + 1) _ _ (by omega) fun x hx => hk x (by simp [hx])
theorem lps_mono : ∀ (n : Nat) (p : Px) (l l' : Int), l ≤ l' → lpsP n p l ≤ lpsP n p l'
  | 0, _, _, _, h => h
  | n + 1, p, l, l', h => by
    simp only [lpsP]
    exact foldMax_mono p.kids 0 _ _ h fun k _ i => lps_mono n k _ _ (arnd_mono p i h)
theorem foldMax_mem (f : Nat → Px → Int) : ∀ (l : List Px) (i : Nat) (m : Int) (j : Nat) (k : Px), l[j]? = some k → f (i + j) k ≤ foldK (fun i k m => max m (f i k)) i l m
  | [], _, _, _, _, h => by simp at h
  | x :: l, i, m, 0, k, h => by
    obtain rfl : x = k := by simpa using h
    have := foldK_ge f l (i + 1) (max m (f i x))
    simp only [foldK]
    show f (i + 0) x ≤ _
    rw [Nat.add_zero]
    omega
  | x :: l, i, m, j + 1, k, h => by
    have := foldMax_mem f l (i + 1) (max m (f i x)) j k (by simpa using h)
    simp only [foldK]
    rwa [show i + 1 + j = i + (j + 1) by omega] at this
theorem lps_ge (n : Nat) (p : Px) (l : Int) : l ≤ lpsP n p l := by
  cases n with
  | zero => exact Int.le_refl _
  | succ n => simp only [lpsP]; exact foldK_ge (fun i k => lpsP n k (arnd p i l)) p.kids 0 l
/-- those in a plan that passes the check pass it -/
theorem check_kid {q p : Px} (hb : cntP 17 q < 4611686018427387904) (h : checkP q = 0) (hp : p ∈ q.kids) : checkP p = 0 ∧ cntP 17 p < 4611686018427387904 ∧ goodP 15 p = true := by
  obtain ⟨hg, hc, hl⟩ := (checkP_ok q hb).1.1 h
  have g15 := good_kid hg hp
  have g16 := goodP_more 15 16 p (by omega) g15
  have c17 := cntP_good 15 17 p (by omega) g15
  have c16 := cntP_good 15 16 p (by omega) g15
  have hck : cntP 15 p + 1 ≤ cntP 16 q := cnt_kid (n := 15) hp
  have hb' : cntP 17 p < 4611686018427387904 := by omega
  refine ⟨(checkP_ok p hb').1.2 ⟨g16, by omega, ?_⟩, hb', g15⟩
  rw [lpsP_good 15 16 p 0 (by omega) g15]
  obtain ⟨i, hi, he⟩ := List.getElem_of_mem hp
  have hx : q.kids[i]? = some p := by rw [List.getElem?_eq_getElem hi, he]
  have h1 := foldMax_mem (fun i k => lpsP 15 k (arnd q i 0)) q.kids 0 0 i p hx
  have h2 := lps_mono 15 p 0 (arnd q (0 + i) 0) (arnd_ge q _ 0)
  have h3 : lpsP 16 q 0 = foldK (fun i k m => max m (lpsP 15 k (arnd q i 0))) 0 q.kids 0 := rfl
  rw [← h3] at h1
  omega
theorem inferP_ok {src : List (List Int)} {p : Px} (hs : chkS src = 0) (hc : checkP p = 0) : inferP src p = if (pinf src 17 p [] 0).2 = 0 then ((pinf src 17 p [] 0).1, 0) else ([], (pinf src 17 p [] 0).2) := by
  unfold inferP; rw [if_pos hs, if_pos hc]
theorem inferP_bad {src : List (List Int)} {p : Px} (h : (inferP src p).2 ≠ 0) : (inferP src p).1 = [] := by
  unfold inferP at *
  repeat' split at h
  all_goals first | (exfalso; exact h rfl) | skip
  all_goals (repeat' split) <;> first | rfl | contradiction
/-- a plan around others, without columns -/
def pwrap (k : Int) (A : Option Addr) (c : Nat) (l : List Px) (r : Int) : Px := .mk k 0 A c l none 0 [] none 0 [] none 0 [] 0 r
def pvar : Px := .mk 2 0 none 0 [] none 0 [] none 0 [] none 0 [] 0 0
theorem pinf_nd {src : List (List Int)} {n : Nat} {p : Px} {ls : List (List Int)} {u : Int} (h1 : p.kind ≠ 1) (h2 : p.kind ≠ 2) (h3 : p.kind ≠ 10) :
    pinf src (n + 1) p ls u = endS p (pinfK (fun k u => pinf src n k ls u) p.kids u).1 (pinfK (fun k u => pinf src n k ls u) p.kids u).2 := by
  conv => lhs; unfold pinf
  rw [if_neg h1, if_neg h2, if_neg h3]
theorem pinf_it {src : List (List Int)} {n : Nat} {p a b : Px} {ls : List (List Int)} {u : Int} (h3 : p.kind = 10) (ha : pkid p 0 = a) (hb : pkid p 1 = b) :
    pinf src (n + 1) p ls u = ((pinf src n a ls u).1, sameS (pinf src n a ls u).1 (pinf src n b ((pinf src n a ls u).1 :: ls) (pinf src n a ls u).2).1 (pinf src n b ((pinf src n a ls u).1 :: ls) (pinf src n a ls u).2).2) := by
  conv => lhs; unfold pinf
  rw [if_neg (by omega), if_neg (by omega), if_pos h3, ha, hb]
theorem pinf_v {src : List (List Int)} {n : Nat} {p : Px} {ls : List (List Int)} {u : Int} (h3 : p.kind = 2) : pinf src (n + 1) p ls u = pickS ls p.n u := by
  conv => lhs; unfold pinf
  rw [if_neg (by omega), if_pos h3]
theorem endS_same {p : Px} (h : p.kind = 6 ∨ p.kind = 9) (ks : List (List Int)) (u : Int) : endS p ks u = (ks.getD 0 [], u) := by
  unfold endS
  rw [if_neg (by omega), if_neg (by omega), if_neg (by omega), if_neg (by omega), if_neg (by omega)]
theorem endS_cat {p : Px} (h : p.kind = 5) (ks : List (List Int)) (u : Int) : endS p ks u = (ks.getD 0 [], (ks.drop 1).foldl (fun u x => sameS (ks.getD 0 []) x u) u) := by
  unfold endS
  rw [if_neg (by omega), if_neg (by omega), if_pos h]
theorem pinfK_one (f : Px → Int → List Int × Int) (p : Px) (u : Int) : pinfK f [p] u = ([(f p u).1], (f p u).2) := rfl
theorem pinfK_two (f : Px → Int → List Int × Int) (p : Px) (u : Int) : pinfK f [p, p] u = ([(f p u).1, (f p (f p u).2).1], (f p (f p u).2).2) := rfl
theorem cat_two (a b : List Int) (u : Int) : ((([a, b] : List (List Int)).getD 0 []), (([a, b] : List (List Int)).drop 1).foldl (fun u x => sameS (([a, b] : List (List Int)).getD 0 []) x u) u) = (a, sameS a b u) := rfl
theorem lps_next (n : Nat) (p : Px) (l : Int) : lpsP (n + 1) p l = foldK (fun i k m => max m (lpsP n k (arnd p i l))) 0 p.kids l := rfl
theorem wrap_one {src : List (List Int)} {k : Int} (hk : k = 6 ∨ k = 9) (A : Option Addr) (c : Nat) (p : Px) (hb : cntP 17 (pwrap k A c [p] 0) < 4611686018427387904) (h : checkP (pwrap k A c [p] 0) = 0) : inferP src (pwrap k A c [p] 0) = inferP src p := by
  obtain ⟨h1, _, g15⟩ := check_kid (p := p) hb h (by show p ∈ [p]; simp)
  by_cases hs : chkS src = 0
  · have e : pinf src 17 (pwrap k A c [p] 0) [] 0 = pinf src 16 p [] 0 := by
      have hk' : (pwrap k A c [p] 0).kind = k := rfl
      rw [pinf_nd (n := 16) (by rw [hk']; omega) (by rw [hk']; omega) (by rw [hk']; omega), endS_same (by rw [hk']; exact hk), show (pwrap k A c [p] 0).kids = [p] from rfl, pinfK_one]
      generalize pinf src 16 p [] 0 = r
      rfl
    rw [inferP_ok hs h, inferP_ok hs h1, e, pinf_fuel src 15 17 p [] 0 (by omega) g15, pinf_fuel src 15 16 p [] 0 (by omega) g15]
  · unfold inferP; rw [if_neg hs, if_neg hs]
theorem two_core (f : Int → List Int × Int) (hst : ∀ u, u ≠ 0 → (f u).2 = u) : (if sameS (f 0).1 (f (f 0).2).1 (f (f 0).2).2 = 0 then ((f 0).1, (0 : Int)) else ([], sameS (f 0).1 (f (f 0).2).1 (f (f 0).2).2)) = if (f 0).2 = 0 then ((f 0).1, 0) else ([], (f 0).2) := by
  by_cases hu : (f 0).2 = 0
  · have h2 : sameS (f 0).1 (f (f 0).2).1 (f (f 0).2).2 = 0 := by rw [hu]; unfold sameS; rw [if_pos rfl, hu]
    rw [h2, hu]
  · rw [hst _ hu, sameS_stay _ _ hu]
theorem cat_all (f : Px → Int → List Int × Int) {p q : Px} (u : Int) (hk : q.kind = 5) (hq : q.kids = [p, p]) :
    endS q (pinfK f q.kids u).1 (pinfK f q.kids u).2 = ((f p u).1, sameS (f p u).1 (f p (f p u).2).1 (f p (f p u).2).2) := by
  rw [endS_cat hk, hq, pinfK_two]
  exact cat_two _ _ _
theorem wrap_two {src : List (List Int)} (A : Option Addr) (c : Nat) (p : Px) (hb : cntP 17 (pwrap 5 A c [p, p] 0) < 4611686018427387904) (h : checkP (pwrap 5 A c [p, p] 0) = 0) : inferP src (pwrap 5 A c [p, p] 0) = inferP src p := by
  obtain ⟨h1, _, g15⟩ := check_kid (p := p) hb h (by show p ∈ [p, p]; simp)
  by_cases hs : chkS src = 0
  · obtain ⟨g, hg⟩ : ∃ g : Px → Int → List Int × Int, ∀ k u, pinf src 16 k [] u = g k u := ⟨_, fun _ _ => rfl⟩
    have hfun : (fun k u => pinf src 16 k [] u) = g := by funext k u; exact hg k u
    have hst : ∀ u, u ≠ 0 → (g p u).2 = u := fun u hu => by rw [← hg]; exact pinf_stay src 16 p [] hu
    have e2 : pinf src 17 p [] 0 = g p 0 := ((pinf_fuel src 15 17 p [] 0 (by omega) g15).trans (pinf_fuel src 15 16 p [] 0 (by omega) g15).symm).trans (hg p 0)
    have e : pinf src 17 (pwrap 5 A c [p, p] 0) [] 0 = ((g p 0).1, sameS (g p 0).1 (g p (g p 0).2).1 (g p (g p 0).2).2) := by
      have hk' : (pwrap 5 A c [p, p] 0).kind = 5 := rfl
      rw [pinf_nd (n := 16) (by rw [hk']; omega) (by rw [hk']; omega) (by rw [hk']; omega), hfun]
      exact cat_all g 0 hk' rfl
    rw [inferP_ok hs h, inferP_ok hs h1, e, e2]
    exact two_core (g p) hst
  · unfold inferP; rw [if_neg hs, if_neg hs]
theorem wrap_loop {src : List (List Int)} (A : Option Addr) (c : Nat) (p : Px) (r : Int) (hb : cntP 17 (pwrap 10 A c [p, pvar] r) < 4611686018427387904) (h : checkP (pwrap 10 A c [p, pvar] r) = 0) :
    inferP src (pwrap 10 A c [p, pvar] r) = inferP src p ∧ loopsP (pwrap 10 A c [p, pvar] r) = max 1 (loopsP p) := by
  obtain ⟨h1, hb', g15⟩ := check_kid (p := p) hb h (by show p ∈ [p, pvar]; simp)
  constructor
  · by_cases hs : chkS src = 0
    · have e : pinf src 17 (pwrap 10 A c [p, pvar] r) [] 0 = pinf src 16 p [] 0 := by
        rw [pinf_it (n := 16) (a := p) (b := pvar) rfl rfl rfl, pinf_v (n := 15) (p := pvar) rfl, show pvar.n = 0 from rfl]
        generalize pinf src 16 p [] 0 = q
        have e2 : ∀ (l : List Int) (u : Int), pickS [l] 0 u = (l, u) := fun l u => by
          unfold pickS
          rw [if_pos ⟨Int.le_refl _, by simp⟩]
          rfl
        rw [e2]
        unfold sameS
        rw [if_pos rfl]
      rw [inferP_ok hs h, inferP_ok hs h1, e, pinf_fuel src 15 17 p [] 0 (by omega) g15, pinf_fuel src 15 16 p [] 0 (by omega) g15]
    · unfold inferP; rw [if_neg hs, if_neg hs]
  · have e1 := (checkP_ok _ hb).2 h
    have e2 := (checkP_ok p hb').2 h1
    unfold loopsP
    rw [if_pos h, if_pos h1, e1, e2]
    have a0 : arnd (pwrap 10 A c [p, pvar] r) 0 0 = 0 := rfl
    have a1 : arnd (pwrap 10 A c [p, pvar] r) 1 0 = 1 := rfl
    have ev : lpsP 15 pvar 1 = 1 := (lps_next 14 pvar 1).trans rfl
    have e3 : lpsP 16 (pwrap 10 A c [p, pvar] r) 0 = max (max 0 (lpsP 15 p 0)) 1 := by
      rw [lps_next 15, show (pwrap 10 A c [p, pvar] r).kids = [p, pvar] from rfl]
      simp only [foldK]
      rw [a0, a1, ev]
    rw [e3, lpsP_good 15 16 p 0 (by omega) g15]
    omega
theorem infer_no {src : List (List Int)} {p : Px} (h : checkP p ≠ 0) : (inferP src p).2 ≠ 0 := by
  unfold inferP
  by_cases hs : chkS src = 0
  · rw [if_pos hs, if_neg h]; exact h
  · rw [if_neg hs]; exact hs
/-- those in a plan that has a schema have one, but for an iterate's second one -/
theorem infer_part {src : List (List Int)} {p : Px} (hb : cntP 17 p < 4611686018427387904) (h : (inferP src p).2 = 0) {i : Nat} {k : Px} (hk : p.kids[i]? = some k) (hi : p.kind ≠ 10 ∨ i ≠ 1) : (inferP src k).2 = 0 := by
  by_cases hs : chkS src = 0
  · by_cases hc : checkP p = 0
    · obtain ⟨h1, _, g15⟩ := check_kid hb hc (List.mem_of_getElem? hk)
      obtain ⟨g16, _, _⟩ := (checkP_ok p hb).1.1 hc
      rw [inferP_ok hs hc] at h
      have hz : (pinf src 17 p [] 0).2 = 0 := by
        by_cases hz : (pinf src 17 p [] 0).2 = 0
        · exact hz
        · rw [if_neg hz] at h; exact h
      have hp := pinf_part src (n := 16) (goodP_more 16 17 p (by omega) g16) hz hk hi
      rw [inferP_ok hs h1, pinf_fuel src 15 17 k [] 0 (by omega) g15, ← pinf_fuel src 15 16 k [] 0 (by omega) g15, if_pos hp]
    · exact absurd h (infer_no hc)
  · unfold inferP at h; rw [if_neg hs] at h; exact absurd h hs
theorem infer_wide {src : List (List Int)} (x : List Int) {p : Px} (h : (inferP src p).2 = 0) (hw : chkS (src ++ [x]) = 0) : inferP (src ++ [x]) p = inferP src p := by
  by_cases hs : chkS src = 0
  · by_cases hc : checkP p = 0
    · rw [inferP_ok hs hc] at h
      have hz : (pinf src 17 p [] 0).2 = 0 := by
        by_cases hz : (pinf src 17 p [] 0).2 = 0
        · exact hz
        · rw [if_neg hz] at h; exact h
      rw [inferP_ok hw hc, inferP_ok hs hc, pinf_wide src x 17 p [] hz]
    · exact absurd h (infer_no hc)
  · unfold inferP at h; rw [if_neg hs] at h; exact absurd h hs
end Go.Proofs.Ytjidjpmdmcleoaa
namespace Go.Proofs.Ytjidjpmdmcleoaa
open Go Go.RowKit Go.ChangeShapes Go.WideShapes Go.ChangeAt Go.Deep

section
variable {H : Type} {enc : TypeId × Value → H} {P : Program} {w : World} {base : Nat} {spare : Nat → Bool} {held : Bool}
theorem lies_gen {α : Type} {size : Nat} {cells : α → List Value} (hcl : ∀ x, 0 < (cells x).length) {len : Nat} {a : Addr} {f : Nat → α} (hp : 0 < len) (hf : ∀ i, i < len → ∀ (j : Nat) (u : Value), (cells (f i))[j]? = some u → w.cell? ((a.add (i * size)).add j) = some u) :
    Lies size cells w w.heap.size (some a) ((List.range len).map f) := fun _ => by
  have hz : ((a.add (0 * size)).add 0) = a := by unfold Addr.add; simp
  obtain ⟨v0, h0⟩ : ∃ v0, w.cell? a = some v0 := by
    have := hf 0 hp 0 _ (List.getElem?_eq_getElem (hcl (f 0)))
    rw [hz] at this
    exact ⟨_, this⟩
  have hspot : a.spot = none := by
    cases hs : a.spot with
    | none => rfl
    | some s =>
      unfold World.cell? at h0
      rw [hs] at h0
      split at h0 <;> simp at h0
  obtain ⟨b, o, sp⟩ := a
  simp only at hspot
  subst hspot
  have hadd : ∀ k j, ((⟨b, o, none⟩ : Addr).add k).add j = ⟨b, o + k + j, none⟩ := fun k j => by unfold Addr.add; split <;> split <;> simp_all
  refine ⟨b, o, rfl, World.block_lt_of_cell? w _ h0, fun i x hit j u hj => ?_⟩
  have hil : i < len := by have := (List.getElem?_eq_some_iff.1 hit).1; simpa using this
  have hti : f i = x := by simpa [hil] using hit
  subst hti
  have := hf i hil j u hj
  rwa [hadd] at this
theorem bulk_sum : ∀ es : List (DataW H × List MemPlace), (es.map (fun z => Rows.uptoBulk z.1)).sum = Rows.uptoBulkAll (es.map (·.1))
  | [] => by simp [Rows.uptoBulkAll]
  | x :: es => by simp only [List.map_cons, List.sum_cons, Rows.uptoBulkAll]; rw [bulk_sum es]
theorem mem_le_sum : ∀ {bs : List Nat} {b : Nat}, b ∈ bs → b ≤ bs.sum
  | [], _, h => by cases h
  | x :: bs, b, h => by
    rw [List.sum_cons]
    rcases List.mem_cons.1 h with rfl | h
    · omega
    · have := mem_le_sum h; omega
theorem len_le_sum : ∀ {bs : List Nat}, (∀ b ∈ bs, 1 ≤ b) → bs.length ≤ bs.sum
  | [], _ => Nat.le_refl _
  | x :: bs, h => by
    have h1 := h x (by simp)
    have h2 := len_le_sum (bs := bs) fun b hb => h b (by simp [hb])
    rw [List.sum_cons, List.length_cons]
    omega
theorem sum_pair {α : Type} {g : α → Nat} : ∀ (l : List α) (bs : List Nat), bs.length = l.length → (∀ (i : Nat) (a : α), l[i]? = some a → ∃ b, bs[i]? = some b ∧ g a ≤ b) → (l.map g).sum ≤ bs.sum
  | [], _, _, _ => Nat.zero_le _
  | x :: l, [], h, _ => by simp at h
  | x :: l, b :: bs, h, hp => by
    obtain ⟨b', h1, h2⟩ := hp 0 x rfl
    obtain rfl : b = b' := by simpa using h1
    have := sum_pair l bs (by simpa using h) fun i a hi => by
      obtain ⟨b2, h3, h4⟩ := hp (i + 1) a (by simpa using hi)
      exact ⟨b2, by simpa using h3, h4⟩
    simp only [List.map_cons, List.sum_cons]
    omega
/-- the slice, its list, and how much each of its elements tells -/
theorem open_list_bulk {α : Type} [Inhabited α] {size : Nat} {cells : α → List Value} {OK : α → Nat → Prop} {t e : TypeId} {fuel : Nat} (ht : P.underlying t = some (.slice e)) (hc : P.cellsOf e = size) (hcl : ∀ x, 0 < (cells x).length)
    (dec : ∀ {n : Nat} {cs : List Value} {x : DataW H × List MemPlace}, n < fuel → DataW.trod enc P w base spare held n e cs = some x → ∃ a, cs = cells a ∧ OK a (Rows.uptoBulk x.1))
    {cs : List Value} {x : DataW H × List MemPlace} (hf : DataW.trod enc P w base spare held fuel t cs = some x) :
    ∃ (A : Option Addr) (c : Nat) (l : List α) (bs : List Nat), cs = [.slice A l.length c] ∧ l.length ≤ c ∧ c ≤ maxLen ∧ Lies size cells w w.heap.size A l ∧ bs.length = l.length ∧ bs.sum + 1 ≤ Rows.uptoBulk x.1 ∧ (∀ b ∈ bs, 1 ≤ b) ∧
      ∀ (i : Nat) (a : α), l[i]? = some a → ∃ b, bs[i]? = some b ∧ OK a b := by
  rcases DataW.trod_slice ht hf with ⟨h1, h2⟩ | ⟨a, len, cap, elems, rest, n, hfu, h1, h2, hb, hl, hm, hlen, hel, hsp, hns⟩
  · subst h1 h2
    exact ⟨none, 0, [], [], rfl, Nat.le_refl _, Nat.zero_le _, Lies.nil_, rfl, by simp [Rows.uptoBulk], fun b h => (by cases h), fun i a h => (by simp at h)⟩
  · rw [hc] at hel
    have hT : ∀ i, i < len → ∃ y : α, (∃ b, (elems.map (fun z => Rows.uptoBulk z.1))[i]? = some b ∧ OK y b) ∧ ∀ (j : Nat) (u : Value), (cells y)[j]? = some u → w.cell? ((a.add (i * size)).add j) = some u := fun i hi => by
      have h1 := hel i hi
      rw [List.getElem?_eq_getElem (by omega)] at h1
      obtain ⟨cs', h2, h3⟩ := Option.bind_eq_some_iff.1 h1
      obtain ⟨y, rfl, hy⟩ := dec (by omega) h3
      obtain ⟨_, hle2, hat⟩ := World.cells?_some h2
      refine ⟨y, ⟨_, by rw [List.getElem?_map, List.getElem?_eq_getElem (by omega)]; rfl, hy⟩, fun j u hj => ?_⟩
      rw [hat j (by have := (List.getElem?_eq_some_iff.1 hj).1; omega)]
      exact hj
    obtain ⟨f, hf'⟩ := choose_lt hT
    have hle : ((List.range len).map f).length = len := by simp
    refine ⟨some a, cap, (List.range len).map f, elems.map (fun z => Rows.uptoBulk z.1), by rw [hle]; exact h1, by rw [hle]; exact hl, hm, ?_, by rw [hle, List.length_map, hlen], ?_, ?_, ?_⟩
    · by_cases hp : 0 < len
      · exact lies_gen hcl hp fun i hi => (hf' i hi).2
      · exact fun h => by rw [hle] at h; omega
    · rw [h2]
      simp only [Rows.uptoBulk]
      rw [bulk_sum]
      omega
    · intro b hb
      obtain ⟨z, _, rfl⟩ := List.mem_map.1 hb
      exact bulk_pos _
    · intro i y hi
      have hil : i < len := by have := (List.getElem?_eq_some_iff.1 hi).1; simpa using this
      have hti : f i = y := by simpa [hil] using hi
      subst hti
      exact (hf' i hil).1
end
end Go.Proofs.Ytjidjpmdmcleoaa
namespace Go.Proofs.Ytjidjpmdmcleoaa
open Go Go.RowKit Go.ChangeShapes Go.WideShapes Go.ChangeAt Go.Deep

theorem psm_mono {M M' : Nat} (h : M ≤ M') : ∀ {n : Nat} {p : Px}, PSm M n p → PSm M' n p
  | 0, _, _ => trivial
  | _ + 1, _, hp => ⟨⟨by have := hp.1.1; omega, by have := hp.1.2; omega⟩, fun k hk => psm_mono h (hp.2 k hk)⟩
theorem pwm_mono {M M' : Nat} (h : M ≤ M') : ∀ {n : Nat} {p : Px}, PWm M n p → PWm M' n p
  | 0, _, _ => trivial
  | _ + 1, _, hp => ⟨by have := hp.1; omega, fun k hk => pwm_mono h (hp.2 k hk)⟩
/-- what a plan that came in has, at every depth -/
structure PAll (M : Nat) (p : Px) (w : World) : Prop where
  ok : ∀ n, PxOk n p
  in_ : ∀ n, PxIn w w.heap.size n p
  sm : ∀ n, PSm M n p
  wm : ∀ n, PWm M n p
  cnt : ∀ n, cntP n p ≤ M
theorem PAll.mono {M M' : Nat} {p : Px} {w : World} (h : PAll M p w) (hM : M ≤ M') : PAll M' p w :=
  ⟨h.ok, h.in_, fun n => psm_mono hM (h.sm n), fun n => pwm_mono hM (h.wm n), fun n => Nat.le_trans (h.cnt n) hM⟩
theorem PAll.next {M : Nat} {p : Px} {w w' : World} (h : PAll M p w) (hb : Below w.heap.size w w') : PAll M p w' :=
  ⟨h.ok, fun n => pxIn_keep (h.in_ n) hb, h.sm, h.wm, h.cnt⟩
theorem PAll.fine {M : Nat} {p : Px} {w : World} (h : PAll M p w) (hM : M ≤ 8388608) : PFine M p w :=
  ⟨h.ok 17, h.in_ 17, h.sm 16, h.wm 16, by have := h.cnt 17; omega⟩
theorem PAll.kid {M : Nat} {p k : Px} {w : World} (h : PAll M p w) (hk : k ∈ p.kids) : PAll M k w :=
  ⟨fun n => (h.ok (n + 1)).2.2.2 k hk, fun n => (h.in_ (n + 1)).2.2 k hk, fun n => (h.sm (n + 1)).2 k hk, fun n => (h.wm (n + 1)).2 k hk, fun n => by have := cnt_kid (n := n) hk; have := h.cnt (n + 1); omega⟩
section
variable {H : Type} {enc : TypeId × Value → H} {w : World} {base : Nat} {spare : Nat → Bool} {held : Bool}
set_option maxRecDepth 100000 in
theorem open_intC {fuel : Nat} {cs : List Value} {x : DataW H × List MemPlace} (h : DataW.trod enc Try.prog w base spare held fuel 49 cs = some x) :
    ∃ (A : Option Addr) (c : Nat) (l : List Int), cs = [.slice A l.length c] ∧ l.length ≤ c ∧ c ≤ maxLen ∧ Ints w w.heap.size A l ∧ l.length + 1 ≤ Rows.uptoBulk x.1 := by
  obtain ⟨A, c, l, bs, e, h1, h2, h3, h4, h5, h6, _⟩ := open_list_bulk (size := 1) (cells := icell) (OK := fun _ _ => True) Try.underlying49 (by kernel_rfl) (fun _ => by simp [icell]) (fun {n cs x} _ ht => by
    obtain ⟨n0, e0, _, _⟩ := DataW.trod_int Try.underlying3 ht
    exact ⟨n0, e0, trivial⟩) h
  have := len_le_sum h6
  exact ⟨A, c, l, e, h1, h2, ints_lies.2 h3, by omega⟩
set_option maxRecDepth 100000 in
theorem open_tysC {fuel : Nat} {cs : List Value} {x : DataW H × List MemPlace} (h : DataW.trod enc Try.prog w base spare held fuel 34 cs = some x) :
    ∃ (A : Option Addr) (c : Nat) (l : List Int), cs = [.slice A l.length c] ∧ l.length ≤ c ∧ c ≤ maxLen ∧ Lies 1 tcell w w.heap.size A l ∧ l.length + 1 ≤ Rows.uptoBulk x.1 := by
  obtain ⟨A, c, l, bs, e, h1, h2, h3, h4, h5, h6, _⟩ := open_list_bulk (size := 1) (cells := tcell) (OK := fun _ _ => True) Try.underlying34 (by kernel_rfl) (fun _ => by simp [tcell]) (fun {n cs x} _ ht => by
    obtain ⟨n0, e0, _, _⟩ := DataW.trod_int Try.underlying30 ht
    exact ⟨n0, e0, trivial⟩) h
  have := len_le_sum h6
  exact ⟨A, c, l, e, h1, h2, h3, by omega⟩
instance : Inhabited (Sl Int) := ⟨⟨none, 0, []⟩⟩
set_option maxRecDepth 100000 in
theorem open_schemas {v : Value} {d : DataW H} {p : List MemPlace} {r : Reach} {b0 : Nat} (hv : Value.okWide Try.prog w r b0 53 v) (h : DataW.Trod enc Try.prog w base spare held 53 v d p) :
    ∃ (A : Option Addr) (c : Nat) (L : List (Sl Int)), v = .slice A L.length c ∧ L.length ≤ c ∧ c ≤ maxLen ∧ LL 1 tcell w w.heap.size A L ∧ (∀ s ∈ L, s.l.length ≤ Rows.uptoBulk d) ∧ L.length ≤ Rows.uptoBulk d := by
  obtain ⟨a0, n0, c0, rfl⟩ := okWide_slice Try.underlying53 hv
  obtain ⟨fuel, hf⟩ := h
  obtain ⟨A, c, l, bs, e, h1, h2, h3, h4, h5, h6, h7⟩ := open_list_bulk (size := 1) (cells := Sl.cells) (OK := fun (s : Sl Int) b => Lies 1 tcell w w.heap.size s.A s.l ∧ s.l.length ≤ b) Try.underlying53 (by kernel_rfl) (fun _ => by simp [Sl.cells]) (fun {n cs x} _ ht => by
    obtain ⟨A, c, l, e, h1, h2, h3, h4⟩ := open_tysC ht
    exact ⟨⟨A, c, l⟩, e, h3, by show l.length ≤ _; omega⟩) hf
  have := len_le_sum h6
  simp only at h5
  refine ⟨A, c, l, by simpa [Value.cells] using e, h1, h2, ⟨h3, fun s hs => ?_⟩, fun s hs => ?_, by omega⟩
  · obtain ⟨i, hi⟩ := List.getElem?_of_mem hs
    obtain ⟨b, _, hb⟩ := h7 i s hi
    exact hb.1
  · obtain ⟨i, hi⟩ := List.getElem?_of_mem hs
    obtain ⟨b, hb1, hb⟩ := h7 i s hi
    have := mem_le_sum (List.mem_of_getElem? hb1)
    have := hb.2
    omega
set_option maxRecDepth 100000 in
theorem open_tys {v : Value} {d : DataW H} {p : List MemPlace} {r : Reach} {b0 : Nat} (hv : Value.okWide Try.prog w r b0 34 v) (h : DataW.Trod enc Try.prog w base spare held 34 v d p) :
    ∃ (A : Option Addr) (c : Nat) (l : List Int), v = .slice A l.length c ∧ l.length ≤ c ∧ c ≤ maxLen ∧ Lies 1 tcell w w.heap.size A l ∧ l.length ≤ Rows.uptoBulk d := by
  obtain ⟨a0, n0, c0, rfl⟩ := okWide_slice Try.underlying34 hv
  obtain ⟨fuel, hf⟩ := h
  obtain ⟨A, c, l, e, h1, h2, h3, h4⟩ := open_tysC hf
  exact ⟨A, c, l, by simpa [Value.cells] using e, h1, h2, h3, by simp only at h4; omega⟩
set_option maxRecDepth 100000 in
set_option maxHeartbeats 1600000 in
theorem trod_plan : ∀ (N fuel : Nat), fuel < N → ∀ {cs : List Value} {x : DataW H × List MemPlace}, DataW.trod enc Try.prog w base spare held fuel 52 cs = some x → ∃ p : Px, cs = p.cells ∧ PAll (Rows.uptoBulk x.1) p w
  | 0, _, h, _, _, _ => absurd h (Nat.not_lt_zero _)
  | N + 1, fuel, hN, cs, x, h => by
    obtain ⟨xs, n, hfu, hx, hlen, hxs, hf⟩ := DataW.trod_struct Try.underlying52 h
    have hc : Try.prog.cellsOf 52 = 8 := by kernel_rfl
    have hc0 : Try.prog.cellsOf 47 = 1 := by kernel_rfl
    have hc1 : Try.prog.cellsOf 3 = 1 := by kernel_rfl
    have hc2 : Try.prog.cellsOf 48 = 1 := by kernel_rfl
    have hc3 : Try.prog.cellsOf 25 = 1 := by kernel_rfl
    have hc4 : Try.prog.cellsOf 49 = 1 := by kernel_rfl
    have hc6 : Try.prog.cellsOf 50 = 1 := by kernel_rfl
    rw [hc] at hlen
    match cs, hlen with
    | [c0, c1, c2, c3, c4, c5, c6, c7], _ =>
      have h0 := hf 0 _ rfl
      have h1 := hf 1 _ rfl
      have h2 := hf 2 _ rfl
      have h3 := hf 3 _ rfl
      have h4 := hf 4 _ rfl
      have h5 := hf 5 _ rfl
      have h6 := hf 6 _ rfl
      have h7 := hf 7 _ rfl
      match xs, hxs with
      | [y0, y1, y2, y3, y4, y5, y6, y7], _ =>
        simp only [hc0, hc1, hc2, hc3, hc4, hc6, List.drop_zero, List.take_succ_cons, List.take_zero, List.drop_succ_cons, List.getElem?_cons_zero, List.getElem?_cons_succ] at h0 h1 h2 h3 h4 h5 h6 h7
        obtain ⟨n0, e0, _, w0⟩ := DataW.trod_int Try.underlying47 h0
        obtain ⟨n1, e1, _, w1⟩ := DataW.trod_int Try.underlying3 h1
        obtain ⟨n6, e6, _, w6⟩ := DataW.trod_int Try.underlying50 h6
        obtain ⟨n7, e7, _, w7⟩ := DataW.trod_int Try.underlying3 h7
        obtain ⟨A4, k4, l4, e4, a4, b4, i4, m4⟩ := open_intC h4
        obtain ⟨A5, k5, l5, e5, a5, b5, i5, m5⟩ := open_intC h5
        obtain ⟨A3, k3, l3, bs3, e3, a3, b3, i3, q3, s3, p3, o3⟩ := open_list_bulk (size := 6) (cells := Lx.cells) (OK := fun e _ => LxFine w e) Try.underlying25 (by kernel_rfl) (fun _ => by simp [Lx.cells]) (fun {n cs x} _ ht => by
          obtain ⟨e, he, hf⟩ := trod_expr (n + 1) n (Nat.lt_succ_self n) ht
          exact ⟨e, he, hf⟩) h3
        obtain ⟨A2, k2, l2, bs2, e2, a2, b2, i2, q2, s2, p2, o2⟩ := open_list_bulk (size := 8) (cells := Px.cells) (OK := fun p b => PAll b p w) Try.underlying48 (by kernel_rfl) (fun _ => by simp [Px.cells]) (fun {n' cs x} hn ht => trod_plan N n' (by omega) ht) h2
        have t3 := len_le_sum p3
        have t2 := len_le_sum p2
        obtain rfl := (List.cons.inj e0).1
        obtain rfl := (List.cons.inj e1).1
        obtain rfl := (List.cons.inj e2).1
        obtain rfl := (List.cons.inj e3).1
        obtain rfl := (List.cons.inj e4).1
        obtain rfl := (List.cons.inj e5).1
        obtain rfl := (List.cons.inj e6).1
        obtain rfl := (List.cons.inj e7).1
        have hM : Rows.uptoBulk x.1 = Rows.uptoBulk y0.1 + (Rows.uptoBulk y1.1 + (Rows.uptoBulk y2.1 + (Rows.uptoBulk y3.1 + (Rows.uptoBulk y4.1 + (Rows.uptoBulk y5.1 + (Rows.uptoBulk y6.1 + (Rows.uptoBulk y7.1 + 0))))))) + 1 := by
          rw [hx]
          simp only [List.map_cons, List.map_nil, Rows.uptoBulk, Rows.uptoBulkAll]
        generalize Rows.uptoBulk x.1 = M at *
        have kids : ∀ k ∈ l2, ∃ b, PAll b k w ∧ b ≤ M := fun k hk => by
          obtain ⟨i, hi⟩ := List.getElem?_of_mem hk
          obtain ⟨b, hb1, hb⟩ := o2 i k hi
          have := mem_le_sum (List.mem_of_getElem? hb1)
          exact ⟨b, hb, by omega⟩
        have kidsM : ∀ k ∈ l2, PAll M k w := fun k hk => by
          obtain ⟨b, h1, h2⟩ := kids k hk
          exact h1.mono h2
        have exs : ∀ e ∈ l3, LxFine w e := fun e he => by
          obtain ⟨i, hi⟩ := List.getElem?_of_mem he
          obtain ⟨_, _, hb⟩ := o3 i e hi
          exact hb
        have w0 := wf_u8 w0
        have w1 := wf_i64 w1
        have w6 := wf_u8 w6
        have w7 := wf_i64 w7
        refine ⟨.mk n0 n1 A2 k2 l2 A3 k3 l3 A4 k4 l4 A5 k5 l5 n6 n7, rfl, ⟨fun n => ?_, fun n => ?_, fun n => ?_, fun n => ?_, fun n => ?_⟩⟩
        · cases n with
          | zero => trivial
          | succ n =>
            refine ⟨⟨w0, w6, w1, w7⟩, ⟨?_, ?_, ?_, ?_⟩, fun e he => (exs e he 17).1, fun k hk => (kidsM k hk).ok n⟩
            · exact Nat.le_trans a2 b2
            · exact Nat.le_trans a3 b3
            · exact Nat.le_trans a4 b4
            · exact Nat.le_trans a5 b5
        · cases n with
          | zero => trivial
          | succ n => exact ⟨⟨i2, i3, i4, i5⟩, fun e he => (exs e he 17).2, fun k hk => (kidsM k hk).in_ n⟩
        · cases n with
          | zero => trivial
          | succ n => exact ⟨⟨by show l3.length ≤ M; omega, by show l4.length + 1 ≤ M; omega⟩, fun k hk => (kidsM k hk).sm n⟩
        · cases n with
          | zero => trivial
          | succ n => exact ⟨by show l5.length ≤ M; omega, fun k hk => (kidsM k hk).wm n⟩
        · cases n with
          | zero => exact Nat.zero_le _
          | succ n =>
            show 1 + (l2.map (cntP n)).sum ≤ M
            have := sum_pair (g := cntP n) l2 bs2 q2 fun i k hi => by
              obtain ⟨b, h1, h2⟩ := o2 i k hi
              exact ⟨b, h1, h2.cnt n⟩
            omega
set_option maxRecDepth 100000 in
theorem open_plan {v : Value} {d : DataW H} {p : List MemPlace} {r : Reach} {b0 : Nat} (hv : Value.okWide Try.prog w r b0 52 v) (h : DataW.Trod enc Try.prog w base spare held 52 v d p) : ∃ q : Px, v = q.val ∧ PAll (Rows.uptoBulk d) q w := by
  obtain ⟨cs, rfl, hsz⟩ := okWide_struct Try.underlying52 hv
  obtain ⟨fuel, hf⟩ := h
  obtain ⟨e, he, hok⟩ := trod_plan (fuel + 1) fuel (Nat.lt_succ_self _) hf
  refine ⟨e, ?_, hok⟩
  obtain ⟨l⟩ := cs
  simp only [Value.cells] at he
  unfold Px.val
  rw [show l = e.cells from by simpa using he]
  rfl
end
end Go.Proofs.Ytjidjpmdmcleoaa
namespace Go.Proofs.Ytjidjpmdmcleoaa
open Go Go.RowKit

theorem lies_own {α : Type} {size : Nat} {cells : α → List Value} (hcl : ∀ x, (cells x).length = size) {W : World} {G : Nat} {t : TypeId} {l : List α} (h : Own W G t (l.flatMap cells)) : Lies size cells W W.heap.size (some ⟨G, 0, none⟩) l := fun _ =>
  ⟨G, 0, rfl, h.inside, fun i x hi j u hj => by rw [show 0 + i * size + j = i * size + j by omega, h.at_]; exact flat_of hcl l i j x u hi hj⟩
theorem pcells_len (p : Px) : p.cells.length = 8 := rfl
theorem sum_most {g : Px → Nat} {M : Nat} : ∀ l : List Px, (∀ x ∈ l, g x ≤ M) → (l.map g).sum ≤ l.length * M
  | [], _ => Nat.zero_le _
  | x :: l, h => by
    have h1 := h x (by simp)
    have h2 := sum_most l fun y hy => h y (by simp [hy])
    rw [List.map_cons, List.sum_cons, List.length_cons, Nat.add_mul]
    omega
/-- a plan around others lies as it does -/
theorem pall_node {M M' : Nat} {k n a r : Int} {kA cA wA : Option Addr} {kc cc wc : Nat} {kids : List Px} {cols wit : List Int} {w : World}
    (hk : 0 ≤ k ∧ k ≤ 255) (hn : imin ≤ n ∧ n ≤ imax) (ha : 0 ≤ a ∧ a ≤ 255) (hr : imin ≤ r ∧ r ≤ imax) (hkids : ∀ x ∈ kids, PAll M x w) (hl : Lies 8 Px.cells w w.heap.size kA kids) (hc : Ints w w.heap.size cA cols) (hw : Ints w w.heap.size wA wit)
    (n0 : kids.length ≤ maxLen) (n1 : kids.length * M + 1 ≤ M') (n2 : cols.length + 1 ≤ M') (n3 : wit.length ≤ M') (hMM : M ≤ M') (hM : M' ≤ maxLen) : PAll M' (.mk k n kA kc kids none 0 [] cA cc cols wA wc wit a r) w := by
  have hkids' := fun x hx => (hkids x hx).mono hMM
  refine ⟨fun n => ?_, fun n => ?_, fun n => ?_, fun n => ?_, fun n => ?_⟩
  · cases n with
    | zero => trivial
    | succ m => exact ⟨⟨hk, ha, hn, hr⟩, ⟨n0, Nat.zero_le _, Nat.le_trans (Nat.le_of_succ_le n2) hM, Nat.le_trans n3 hM⟩, fun _ h => (by cases h), fun x hx => (hkids' x hx).ok m⟩
  · cases n with
    | zero => trivial
    | succ m => exact ⟨⟨hl, Lies.nil_, hc, hw⟩, fun _ h => (by cases h), fun x hx => (hkids' x hx).in_ m⟩
  · cases n with
    | zero => trivial
    | succ m => exact ⟨⟨Nat.zero_le _, n2⟩, fun x hx => (hkids' x hx).sm m⟩
  · cases n with
    | zero => trivial
    | succ m => exact ⟨n3, fun x hx => (hkids' x hx).wm m⟩
  · cases n with
    | zero => exact Nat.zero_le _
    | succ m =>
      show 1 + (kids.map (cntP m)).sum ≤ M'
      have := sum_most (g := cntP m) kids fun x hx => (hkids x hx).cnt m
      omega
theorem pall_leaf {M : Nat} {k n a r : Int} {w : World} (hk : 0 ≤ k ∧ k ≤ 255) (hn : imin ≤ n ∧ n ≤ imax) (ha : 0 ≤ a ∧ a ≤ 255) (hr : imin ≤ r ∧ r ≤ imax) (h1 : 1 ≤ M) (hM : M ≤ maxLen) : PAll M (.mk k n none 0 [] none 0 [] none 0 [] none 0 [] a r) w :=
  pall_node (M := 0) hk hn ha hr (fun _ h => by cases h) Lies.nil_ Ints.nil_ Ints.nil_ (Nat.zero_le _) (by simp; omega) (by simpa using h1) (Nat.zero_le _) (Nat.zero_le _) hM
theorem ifit {n : Int} (h : -9223372036854775808 ≤ n ∧ n ≤ 9223372036854775807) : imin ≤ n ∧ n ≤ imax := h
theorem u8z : (0 : Int) ≤ 0 ∧ (0 : Int) ≤ 255 := by decide
theorem i0fit : imin ≤ 0 ∧ 0 ≤ imax := by unfold imin imax; decide
def psrc (n : Int) : Px := .mk 1 n none 0 [] none 0 [] none 0 [] none 0 [] 0 0
def pjoin (G C W : Nat) (k : Int) : Px := .mk 7 0 (some ⟨G, 0, none⟩) 2 [psrc 0, psrc 1] none 0 [] (some ⟨C, 0, none⟩) 1 [0] (some ⟨W, 0, none⟩) 1 [k] 0 0
def piter (G : Nat) : Px := pwrap 10 (some ⟨G, 0, none⟩) 2 [psrc 0, pvar] 3
def pzero : Px := .mk 0 0 none 0 [] none 0 [] none 0 [] none 0 [] 0 0
theorem join_a (G C W : Nat) : inferP [[1, 2], [1]] (pjoin G C W 0) = ([1, 2, 1], 0) := by kernel_rfl
theorem join_b (G C W : Nat) : inferP [[1, 2], [1]] (pjoin G C W 1) = ([], 1) := by kernel_rfl
theorem iter_a (G : Nat) : inferP [[1, 2], [1]] (piter G) = ([1, 2], 0) := by kernel_rfl
theorem iter_b (G : Nat) : loopsP (piter G) = 1 := by kernel_rfl
theorem var_a : inferP [[1, 2], [1]] pvar = ([], 1) := by kernel_rfl
theorem zero_a : checkP pzero = 4 := by kernel_rfl
theorem psrc_all (n : Int) (h : imin ≤ n ∧ n ≤ imax) (w : World) : PAll 64 (psrc n) w := pall_leaf (by decide) h u8z i0fit (by decide) (by unfold maxLen; decide)
theorem pvar_all (M : Nat) (h1 : 1 ≤ M) (hM : M ≤ maxLen) (w : World) : PAll M pvar w := pall_leaf (by decide) i0fit u8z i0fit h1 hM
theorem pzero_all (w : World) : PAll 64 pzero w := pall_leaf (by decide) i0fit u8z i0fit (by decide) (by unfold maxLen; decide)
theorem ints_own {W : World} {G : Nat} {t : TypeId} {l : List Int} (h : Own W G t (l.flatMap icell)) : Ints W W.heap.size (some ⟨G, 0, none⟩) l := ints_lies.2 (lies_own (size := 1) (cells := icell) (fun _ => rfl) h)
theorem pjoin_all {G C W : Nat} {k : Int} {tg tc tw : TypeId} {w : World} (hk : imin ≤ k ∧ k ≤ imax) (h1 : Own w G tg ((psrc 0).cells ++ (psrc 1).cells)) (h2 : Own w C tc [.int .i64 0]) (h3 : Own w W tw [.int .i64 k]) : PAll 200 (pjoin G C W k) w :=
  pall_node (M := 64) (by decide) i0fit u8z i0fit (fun x hx => by
    rcases List.mem_cons.1 hx with rfl | hx
    · exact psrc_all 0 i0fit w
    · rcases List.mem_cons.1 hx with rfl | hx
      · exact psrc_all 1 (by unfold imin imax; decide) w
      · cases hx) (lies_own pcells_len (l := [psrc 0, psrc 1]) h1) (ints_own (l := [0]) h2) (ints_own (l := [k]) h3) (by unfold maxLen; simp) (by simp) (by simp) (by simp) (by decide) (by unfold maxLen; decide)
theorem piter_all {G : Nat} {tg : TypeId} {w : World} (h1 : Own w G tg ((psrc 0).cells ++ pvar.cells)) : PAll 200 (piter G) w :=
  pall_node (M := 64) (by decide) i0fit u8z (by unfold imin imax; decide) (fun x hx => by
    rcases List.mem_cons.1 hx with rfl | hx
    · exact psrc_all 0 i0fit w
    · rcases List.mem_cons.1 hx with rfl | hx
      · exact pvar_all 64 (by decide) (by unfold maxLen; decide) w
      · cases hx) (lies_own pcells_len (l := [psrc 0, pvar]) h1) Ints.nil_ Ints.nil_ (by unfold maxLen; simp) (by simp) (by simp) (by simp) (by decide) (by unfold maxLen; decide)
/-- the schemas that the laws ask about -/
def src0 (S T : Nat) : List (Sl Int) := [⟨some ⟨S, 0, none⟩, 2, [1, 2]⟩, ⟨some ⟨T, 0, none⟩, 1, [1]⟩]
theorem schs_src0 (S T : Nat) : schs (src0 S T) = [[1, 2], [1]] := rfl
theorem src0_fine {S T A : Nat} {ts tt ta : TypeId} {w : World} (h1 : Own w S ts [.int .u8 1, .int .u8 2]) (h2 : Own w T tt [.int .u8 1]) (h3 : Own w A ta [.slice (some ⟨S, 0, none⟩) 2 2, .slice (some ⟨T, 0, none⟩) 1 1]) : SFine 200 (src0 S T) (some ⟨A, 0, none⟩) w := by
  refine ⟨⟨lies_own scell_len (l := src0 S T) h3, fun s hs => ?_⟩, fun s hs => ?_, by simp [src0]⟩
  · rcases List.mem_cons.1 hs with rfl | hs
    · exact lies_own tcell_len (l := [1, 2]) h1
    · rcases List.mem_cons.1 hs with rfl | hs
      · exact lies_own tcell_len (l := [1]) h2
      · cases hs
  · rcases List.mem_cons.1 hs with rfl | hs
    · simp
    · rcases List.mem_cons.1 hs with rfl | hs
      · simp
      · cases hs
theorem psrc_val (n : Int) : (psrc n).val = .agg #[.int .u8 1, .int .i64 n, .slice none 0 0, .slice none 0 0, .slice none 0 0, .slice none 0 0, .int .u8 0, .int .i64 0] := rfl
set_option maxRecDepth 100000 in
set_option maxHeartbeats 1600000 in
theorem source_any (n : Int) (w : World) : Calls Try.prog 31 #[.int .i64 n] w fun x w' => x = .returned (psrc n).val ∧ Below w.heap.size w w' := by
  rw [psrc_val]
  go_enter Try.func31, Try.ntmps31
  go_wp2_with fail
  exact bodyPost_ret (v := .agg #[.int .u8 1, .int .i64 n, .slice none 0 0, .slice none 0 0, .slice none 0 0, .slice none 0 0, .int .u8 0, .int .i64 0]) (by simp [results, Try.results31, go_sem]) rfl ⟨rfl, (Below.refl _ _).alloc (Nat.le_refl _) _⟩
/-- what Infer tells of a plan that came in or was built -/
theorem infer_at {M : Nat} (hM : M ≤ 8388608) {p : Px} {L : List (Sl Int)} {A : Option Addr} {c : Nat} {w : World} {src : List (List Int)} {l : List Int} {e : Int} (hs : schs L = src) (hR : inferP src p = (l, e)) (hp : PAll M p w) (hf : SFine M L A w) :
    Calls Try.prog 20 #[p.val, .slice A L.length c] w fun x w' => ∃ A' c', x = .returned (.tuple #[.slice A' l.length c', .int .i64 e]) ∧ Tys w' w'.heap.size A' l ∧ Below w.heap.size w w' := by
  have h := inferP_any M hM p L A c w (hp.fine hM) hf
  rw [hs] at h
  refine h.mono fun x w' k => ?_
  unfold InferPost at k
  rw [hR] at k
  exact k
theorem check_at {M : Nat} {p : Px} {w : World} (hp : PAll M p w) : Calls Try.prog 23 #[p.val] w fun x w' => x = .returned (.int .i64 (checkP p)) ∧ Below w.heap.size w w' := checkP_any p w (hp.ok 17) (hp.in_ 17)
theorem loops_at {M : Nat} {p : Px} {w : World} (hp : PAll M p w) : Calls Try.prog 24 #[p.val] w fun x w' => x = .returned (.int .i64 (loopsP p)) ∧ Below w.heap.size w w' := loopsP_any p w (hp.ok 17) (hp.in_ 17)
end Go.Proofs.Ytjidjpmdmcleoaa
namespace Go.Proofs.Ytjidjpmdmcleoaa
open Go Go.RowKit

theorem own8 {w : World} {P : Nat} {t : TypeId} {a0 a1 a2 a3 a4 a5 a6 a7 : Value} (h : Own w P t [a0, a1, a2, a3, a4, a5, a6, a7]) :
    w.cell? ⟨P, 0, none⟩ = some a0 ∧ w.cell? ⟨P, 1, none⟩ = some a1 ∧ w.cell? ⟨P, 2, none⟩ = some a2 ∧ w.cell? ⟨P, 3, none⟩ = some a3 ∧ w.cell? ⟨P, 4, none⟩ = some a4 ∧ w.cell? ⟨P, 5, none⟩ = some a5 ∧ w.cell? ⟨P, 6, none⟩ = some a6 ∧ w.cell? ⟨P, 7, none⟩ = some a7 :=
  ⟨h.at_ 0, h.at_ 1, h.at_ 2, h.at_ 3, h.at_ 4, h.at_ 5, h.at_ 6, h.at_ 7⟩
theorem boxed (w : World) (l : List Value) (t : TypeId) : ∃ W, W = w.alloc (.cells l.toArray t) ∧ W.heap.size = w.heap.size + 1 ∧ Below w.heap.size w W ∧ Own W w.heap.size t l ∧ ∀ g t' l', Own w g t' l' → Own W g t' l' :=
  ⟨_, rfl, by simp, (Below.refl _ _).alloc (Nat.le_refl _) _, Own.made w t l, fun _ _ _ h => h.more _⟩
theorem box0 (w : World) : ∃ V, V = (((w.alloc (.cells #[.int .u8 1, .int .u8 2] 30)).alloc (.cells #[.int .u8 1] 30)).alloc (.cells #[.slice (some ⟨w.heap.size, 0, none⟩) 2 2, .slice (some ⟨(w.heap.size + 1), 0, none⟩) 1 1] 34)) ∧ Below w.heap.size w V ∧ SFine 200 (src0 w.heap.size (w.heap.size + 1)) (some ⟨w.heap.size + 1 + 1, 0, none⟩) V := by
  obtain ⟨W1, e1, s1, b1, o1, k1⟩ := boxed w [.int .u8 1, .int .u8 2] 30
  obtain ⟨W2, e2, s2, b2, o2, k2⟩ := boxed W1 [.int .u8 1] 30
  obtain ⟨W3, e3, s3, b3, o3, k3⟩ := boxed W2 [.slice (some ⟨w.heap.size, 0, none⟩) 2 2, .slice (some ⟨(w.heap.size + 1), 0, none⟩) 1 1] 34
  rw [s1] at o2
  rw [s2, s1] at o3
  refine ⟨W3, by rw [e3, e2, e1], (b1.trans (b2.mono (by omega))).trans (b3.mono (by omega)), ?_⟩
  exact src0_fine (k3 _ _ _ (k2 _ _ _ o1)) (k3 _ _ _ o2) o3
/-- the first plan, as it is built -/
structure Jn (G C W P : Nat) (k : Int) (w : World) : Prop where
  kids : Own w G 52 [.int .u8 1, .int .i64 0, .slice none 0 0, .slice none 0 0, .slice none 0 0, .slice none 0 0, .int .u8 0, .int .i64 0, .int .u8 1, .int .i64 1, .slice none 0 0, .slice none 0 0, .slice none 0 0, .slice none 0 0, .int .u8 0, .int .i64 0]
  cols : Own w C 3 [.int .i64 0]
  wit : Own w W 3 [.int .i64 k]
  box : Own w P 52 [.int .u8 7, .int .i64 0, .slice (some ⟨G, 0, none⟩) 2 2, .slice none 0 0, .slice (some ⟨C, 0, none⟩) 1 1, .slice (some ⟨W, 0, none⟩) 1 1, .int .u8 0, .int .i64 0]
theorem Jn.next {G C W P : Nat} {k : Int} {w w' : World} (h : Jn G C W P k w) (hb : Below w.heap.size w w') : Jn G C W P k w' :=
  ⟨h.kids.past hb h.kids.inside, h.cols.past hb h.cols.inside, h.wit.past hb h.wit.inside, h.box.past hb h.box.inside⟩
theorem box2 (w : World) : ∃ V, V = ((((w.alloc (.cells #[.int .u8 1, .int .i64 0, .slice none 0 0, .slice none 0 0, .slice none 0 0, .slice none 0 0, .int .u8 0, .int .i64 0, .int .u8 1, .int .i64 1, .slice none 0 0, .slice none 0 0, .slice none 0 0, .slice none 0 0, .int .u8 0, .int .i64 0] 52)).alloc (.cells #[.int .i64 0] 3)).alloc (.cells #[.int .i64 0] 3)).alloc (.cells #[.int .u8 7, .int .i64 0, .slice (some ⟨w.heap.size, 0, none⟩) 2 2, .slice none 0 0, .slice (some ⟨(w.heap.size + 1), 0, none⟩) 1 1, .slice (some ⟨(w.heap.size + 1 + 1), 0, none⟩) 1 1, .int .u8 0, .int .i64 0] 52)) ∧ Below w.heap.size w V ∧ V.heap.size = w.heap.size + 4 ∧ Jn w.heap.size (w.heap.size + 1) (w.heap.size + 1 + 1) (w.heap.size + 1 + 1 + 1) 0 V := by
  obtain ⟨W1, e1, s1, b1, o1, k1⟩ := boxed w [.int .u8 1, .int .i64 0, .slice none 0 0, .slice none 0 0, .slice none 0 0, .slice none 0 0, .int .u8 0, .int .i64 0, .int .u8 1, .int .i64 1, .slice none 0 0, .slice none 0 0, .slice none 0 0, .slice none 0 0, .int .u8 0, .int .i64 0] 52
  obtain ⟨W2, e2, s2, b2, o2, k2⟩ := boxed W1 [.int .i64 0] 3
  obtain ⟨W3, e3, s3, b3, o3, k3⟩ := boxed W2 [.int .i64 0] 3
  obtain ⟨W4, e4, s4, b4, o4, k4⟩ := boxed W3 [.int .u8 7, .int .i64 0, .slice (some ⟨w.heap.size, 0, none⟩) 2 2, .slice none 0 0, .slice (some ⟨(w.heap.size + 1), 0, none⟩) 1 1, .slice (some ⟨(w.heap.size + 1 + 1), 0, none⟩) 1 1, .int .u8 0, .int .i64 0] 52
  rw [s1] at o2
  rw [s2, s1] at o3
  rw [s3, s2, s1] at o4
  refine ⟨W4, by rw [e4, e3, e2, e1], ((b1.trans (b2.mono (by omega))).trans (b3.mono (by omega))).trans (b4.mono (by omega)), by omega, ?_⟩
  exact ⟨k4 _ _ _ (k3 _ _ _ (k2 _ _ _ o1)), k4 _ _ _ (k3 _ _ _ o2), k4 _ _ _ o3, o4⟩
theorem box7 (w : World) : ∃ V, V = ((w.alloc (.cells #[.int .u8 1, .int .i64 0, .slice none 0 0, .slice none 0 0, .slice none 0 0, .slice none 0 0, .int .u8 0, .int .i64 0, .int .u8 2, .int .i64 0, .slice none 0 0, .slice none 0 0, .slice none 0 0, .slice none 0 0, .int .u8 0, .int .i64 0] 52)).alloc (.cells #[.int .u8 10, .int .i64 0, .slice (some ⟨w.heap.size, 0, none⟩) 2 2, .slice none 0 0, .slice none 0 0, .slice none 0 0, .int .u8 0, .int .i64 3] 52)) ∧ Below w.heap.size w V ∧ Own V w.heap.size 52 [.int .u8 1, .int .i64 0, .slice none 0 0, .slice none 0 0, .slice none 0 0, .slice none 0 0, .int .u8 0, .int .i64 0, .int .u8 2, .int .i64 0, .slice none 0 0, .slice none 0 0, .slice none 0 0, .slice none 0 0, .int .u8 0, .int .i64 0] ∧ Own V (w.heap.size + 1) 52 [.int .u8 10, .int .i64 0, .slice (some ⟨w.heap.size, 0, none⟩) 2 2, .slice none 0 0, .slice none 0 0, .slice none 0 0, .int .u8 0, .int .i64 3] := by
  obtain ⟨W1, e1, s1, b1, o1, k1⟩ := boxed w [.int .u8 1, .int .i64 0, .slice none 0 0, .slice none 0 0, .slice none 0 0, .slice none 0 0, .int .u8 0, .int .i64 0, .int .u8 2, .int .i64 0, .slice none 0 0, .slice none 0 0, .slice none 0 0, .slice none 0 0, .int .u8 0, .int .i64 0] 52
  obtain ⟨W2, e2, s2, b2, o2, k2⟩ := boxed W1 [.int .u8 10, .int .i64 0, .slice (some ⟨w.heap.size, 0, none⟩) 2 2, .slice none 0 0, .slice none 0 0, .slice none 0 0, .int .u8 0, .int .i64 3] 52
  rw [s1] at o2
  exact ⟨W2, by rw [e2, e1], b1.trans (b2.mono (by omega)), k2 _ _ _ o1, o2⟩
theorem infer0 {p : Px} {S T : Nat} {A : Option Addr} {c : Nat} {w : World} {l : List Int} {n : Nat} {e : Int} {v : Value} (hv : p.val = v) (hn : l.length = n) (hR : inferP [[1, 2], [1]] p = (l, e)) (hp : PAll 200 p w) (hf : SFine 200 (src0 S T) A w) :
    Calls Try.prog 20 #[v, .slice A 2 c] w fun x w' => ∃ A' c', x = .returned (.tuple #[.slice A' n c', .int .i64 e]) ∧ Tys w' w'.heap.size A' l ∧ Below w.heap.size w w' := by
  subst hv hn
  exact infer_at (M := 200) (L := src0 S T) (c := c) (by omega) (schs_src0 S T) hR hp hf
theorem jn_call {S T G C W P : Nat} {k : Int} {A : Option Addr} {c : Nat} {w : World} {l : List Int} {n : Nat} {e : Int} (hk : imin ≤ k ∧ k ≤ imax) (hj : Jn G C W P k w) (hf : SFine 200 (src0 S T) A w) (hn : l.length = n) (hR : inferP [[1, 2], [1]] (pjoin G C W k) = (l, e)) :
    Calls Try.prog 20 #[.agg #[.int .u8 7, .int .i64 0, .slice (some ⟨G, 0, none⟩) 2 2, .slice none 0 0, .slice (some ⟨C, 0, none⟩) 1 1, .slice (some ⟨W, 0, none⟩) 1 1, .int .u8 0, .int .i64 0], .slice A 2 c] w fun x w' => ∃ A' c', x = .returned (.tuple #[.slice A' n c', .int .i64 e]) ∧ Tys w' w'.heap.size A' l ∧ Below w.heap.size w w' :=
  infer0 (p := pjoin G C W k) rfl hn hR ((pjoin_all hk hj.kids hj.cols hj.wit)) hf
theorem it_call {S T G : Nat} {A : Option Addr} {c : Nat} {w : World} (hk : Own w G 52 [.int .u8 1, .int .i64 0, .slice none 0 0, .slice none 0 0, .slice none 0 0, .slice none 0 0, .int .u8 0, .int .i64 0, .int .u8 2, .int .i64 0, .slice none 0 0, .slice none 0 0, .slice none 0 0, .slice none 0 0, .int .u8 0, .int .i64 0]) (hf : SFine 200 (src0 S T) A w) :
    Calls Try.prog 20 #[.agg #[.int .u8 10, .int .i64 0, .slice (some ⟨G, 0, none⟩) 2 2, .slice none 0 0, .slice none 0 0, .slice none 0 0, .int .u8 0, .int .i64 3], .slice A 2 c] w fun x w' => ∃ A' c', x = .returned (.tuple #[.slice A' 2 c', .int .i64 0]) ∧ Tys w' w'.heap.size A' [1, 2] ∧ Below w.heap.size w w' :=
  infer0 (p := piter G) rfl rfl (iter_a G) (piter_all hk) hf
theorem it_loops {G : Nat} {w : World} (hk : Own w G 52 [.int .u8 1, .int .i64 0, .slice none 0 0, .slice none 0 0, .slice none 0 0, .slice none 0 0, .int .u8 0, .int .i64 0, .int .u8 2, .int .i64 0, .slice none 0 0, .slice none 0 0, .slice none 0 0, .slice none 0 0, .int .u8 0, .int .i64 0]) :
    Calls Try.prog 24 #[.agg #[.int .u8 10, .int .i64 0, .slice (some ⟨G, 0, none⟩) 2 2, .slice none 0 0, .slice none 0 0, .slice none 0 0, .int .u8 0, .int .i64 3]] w fun x w' => x = .returned (.int .i64 1) ∧ Below w.heap.size w w' := by
  have h := loops_at (p := piter G) (piter_all hk)
  rw [iter_b] at h
  exact h
theorem var_call {S T : Nat} {A : Option Addr} {c : Nat} {w : World} (hf : SFine 200 (src0 S T) A w) :
    Calls Try.prog 20 #[.agg #[.int .u8 2, .int .i64 0, .slice none 0 0, .slice none 0 0, .slice none 0 0, .slice none 0 0, .int .u8 0, .int .i64 0], .slice A 2 c] w fun x w' => ∃ A' c', x = .returned (.tuple #[.slice A' 0 c', .int .i64 1]) ∧ Tys w' w'.heap.size A' [] ∧ Below w.heap.size w w' :=
  infer0 (p := pvar) rfl rfl var_a (pvar_all 200 (by decide) (by unfold maxLen; decide) w) hf
theorem zero_call {w : World} : Calls Try.prog 23 #[.agg #[.int .u8 0, .int .i64 0, .slice none 0 0, .slice none 0 0, .slice none 0 0, .slice none 0 0, .int .u8 0, .int .i64 0]] w fun x w' => x = .returned (.int .i64 4) ∧ Below w.heap.size w w' := by
  have h := check_at (p := pzero) (pzero_all w)
  rw [zero_a] at h
  exact h
/-- where the schema lies: not in the plan itself -/
theorem where_ {w : World} {G C W P : Nat} {k : Int} {A : Option Addr} (h : Tys w w.heap.size A [1, 2, 1]) (hj : Jn G C W P k w) : ∃ b o, A = some ⟨b, o, none⟩ ∧ b < w.heap.size ∧ b ≠ P ∧ w.cell? ⟨b, o + 1, none⟩ = some (.int .u8 2) := by
  obtain ⟨b, o, e, hb, hc⟩ := h (by simp)
  refine ⟨b, o, e, hb, fun hbP => ?_, hc 1 2 rfl⟩
  subst hbP
  have := hc 0 1 rfl
  rw [hj.box.at_] at this
  rcases o with _ | _ | _ | _ | _ | _ | _ | _ | o <;> simp at this
theorem put5 {G C W P : Nat} {w : World} (h : Jn G C W P 0 w) (hG : G ≠ P) (hC : C ≠ P) :
    (w.alloc (.cells #[.int .i64 1] 3)).frozen? ⟨P, 5, none⟩ = false ∧ (∃ x, (w.alloc (.cells #[.int .i64 1] 3)).cell? ⟨P, 5, none⟩ = some x) ∧
    ∃ V, V = (w.alloc (.cells #[.int .i64 1] 3)).setCell ⟨P, 5, none⟩ (.slice (some ⟨w.heap.size, 0, none⟩) 1 1) ∧ Jn G C w.heap.size P 1 V ∧ (∀ B u, Below B u w → B ≤ P → Below B u V) ∧
      ∀ b o x, b ≠ P → b < w.heap.size → w.cell? ⟨b, o, none⟩ = some x → V.cell? ⟨b, o, none⟩ = some x := by
  have hP := h.box.inside
  obtain ⟨W1, e1, s1, b1, o1, k1⟩ := boxed w [.int .i64 1] 3
  have hb := k1 _ _ _ h.box
  rw [show w.alloc (.cells #[.int .i64 1] 3) = W1 from e1.symm]
  refine ⟨hb.open_ 5, ⟨_, hb.at_ 5⟩, _, rfl, ⟨(k1 _ _ _ h.kids).other hG.symm _, (k1 _ _ _ h.cols).other hC.symm _, o1.other (by simp only; omega) _, own_of (hb.set_ 5 _) rfl⟩, fun B u hB hle => ?_, fun b o x hne hlt hx => ?_⟩
  · exact (hB.trans (b1.mono (by have := hB.size; omega))).setCell (p := ⟨P, 5, none⟩) hle _
  · have h1 := (b1.cell (p := ⟨b, o, none⟩) hlt).trans hx
    unfold World.cell? at h1 ⊢
    rw [Below.heap_setCell W1 ⟨P, 5, none⟩ _ b hne]
    exact h1
set_option maxRecDepth 100000 in
set_option maxHeartbeats 6400000 in
theorem plives_true (w : World) : Calls Try.prog 19 #[] w fun e w' => e = .returned (.bool true) ∧ Below w.heap.size w w' := by
  have y0 := fun W => Lib.hid (source_any 0 W)
  have y1 := fun W => Lib.hid (source_any 1 W)
  obtain ⟨V0, hV0, hb0, hf0⟩ := box0 w
  have H0 := Lib.hid (And.intro hb0 hf0)
  clear hb0 hf0
  go_enter Try.func19, Try.ntmps19
  go_upto_region 2 with fail
  rw [← hV0]
  clear hV0
  go_wp2_with fail
  refine (y0 _).out.mono ?_
  rintro _ w1 ⟨rfl, b1⟩
  go_wp2_with fail
  refine (y1 _).out.mono ?_
  rintro _ w2 ⟨rfl, b2⟩
  have H2 := Lib.hid (belows b1 b2)
  clear b1 b2
  rw [psrc_val, psrc_val]
  obtain ⟨V2, hV2, hb2, hs2, hj2⟩ := box2 w2
  have B2 := Lib.hid (And.intro (H2.out.trans (hb2.mono H2.out.size)) (And.intro hj2 (H2.out.size)))
  clear hb2 hj2
  have Z0 := Lib.hid (And.intro B2.out.2.1 (H0.out.2.next B2.out.1))
  have z1 := Lib.hid (jn_call i0fit Z0.out.1 Z0.out.2 (c := 2) rfl (join_a _ _ _))
  obtain ⟨c0, c1, c2, c3, c4, c5, c6, c7⟩ := own8 B2.out.2.1.box
  have HS := Lib.hid hs2
  clear hs2
  go_upto_region 3 with fail
  rw [← hV2]
  clear hV2
  go_wp2_with fail
  refine z1.out.mono ?_
  rintro _ w3 ⟨A3, k3, rfl, ht3, b3⟩
  have H3 := Lib.hid (And.intro (B2.out.1.trans (b3.mono B2.out.1.size)) (And.intro (B2.out.2.1.next b3) (where_ ht3 (B2.out.2.1.next b3))))
  clear c0 c1 c2 c3 c4 c5 c6 c7 b3 ht3 z1 Z0
  obtain ⟨f5, ⟨x5, d5⟩, V4, hV4, hj4, hb4, hc4⟩ := put5 H3.out.2.1 (by omega) (by omega)
  obtain ⟨ab, ao, rfl, hab, hne, hcell⟩ := H3.out.2.2
  have H4 := Lib.hid (And.intro (hb4 _ _ H3.out.1 (by have := B2.out.2.2; omega)) (And.intro hj4 (And.intro (hc4 _ _ _ hne hab hcell) (show ab < V4.heap.size by rw [hV4]; simp; omega))))
  have HN := Lib.hid hne
  clear hj4 hb4 hc4 hcell hne hab
  go_upto_region 5 with fail
  rw [← hV4]
  clear hV4 f5 d5
  have z2 := Lib.hid (jn_call (by unfold imin imax; decide) H4.out.2.1 (H0.out.2.next H4.out.1) (c := 2) rfl (join_b _ _ _))
  obtain ⟨c0, c1, c2, c3, c4, c5, c6, c7⟩ := own8 H4.out.2.1.box
  go_wp2_with fail
  refine z2.out.mono ?_
  rintro _ w5 ⟨A5, k5, rfl, _, b5⟩
  have H5 := Lib.hid (And.intro (H4.out.1.trans (b5.mono H4.out.1.size)) (And.intro ((b5.cell (p := ⟨ab, ao + 1, none⟩) H4.out.2.2.2).trans H4.out.2.2.1) (Nat.lt_of_lt_of_le H4.out.2.2.2 b5.size)))
  clear c0 c1 c2 c3 c4 c5 c6 c7 b5 z2 H4 H3
  go_wp2_with fail
  refine (y0 _).out.mono ?_
  rintro _ w6 ⟨rfl, b6⟩
  have H6 := Lib.hid (And.intro (H5.out.1.trans (b6.mono H5.out.1.size)) (And.intro ((b6.cell (p := ⟨ab, ao + 1, none⟩) H5.out.2.2).trans H5.out.2.1) (Nat.lt_of_lt_of_le H5.out.2.2 b6.size)))
  clear b6
  rw [psrc_val]
  obtain ⟨V7, hV7, hb7, hk7, hp7⟩ := box7 w6
  have H7 := Lib.hid (And.intro (H6.out.1.trans (hb7.mono H6.out.1.size)) (And.intro ((hb7.cell (p := ⟨ab, ao + 1, none⟩) H6.out.2.2).trans H6.out.2.1) (And.intro (Nat.lt_of_lt_of_le H6.out.2.2 hb7.size) (And.intro hk7 hp7))))
  clear hb7 hk7 hp7
  go_upto_region 7 with fail
  rw [← hV7]
  clear hV7
  have z3 := Lib.hid (it_call H7.out.2.2.2.1 (H0.out.2.next H7.out.1) (c := 2))
  obtain ⟨c0, c1, c2, c3, c4, c5, c6, c7⟩ := own8 H7.out.2.2.2.2
  go_wp2_with fail
  refine z3.out.mono ?_
  rintro _ w8 ⟨A8, k8, rfl, _, b8⟩
  have H8 := Lib.hid (And.intro (H7.out.1.trans (b8.mono H7.out.1.size)) (And.intro ((b8.cell (p := ⟨ab, ao + 1, none⟩) H7.out.2.2.1).trans H7.out.2.1) (And.intro (Nat.lt_of_lt_of_le H7.out.2.2.1 b8.size) (And.intro (H7.out.2.2.2.1.past b8 H7.out.2.2.2.1.inside) (H7.out.2.2.2.2.past b8 H7.out.2.2.2.2.inside)))))
  clear c0 c1 c2 c3 c4 c5 c6 c7 b8 z3
  have z4 := Lib.hid (var_call (c := 2) (H0.out.2.next H8.out.1))
  go_wp2_with fail
  refine z4.out.mono ?_
  rintro _ w9 ⟨A9, k9, rfl, _, b9⟩
  have H9 := Lib.hid (And.intro (H8.out.1.trans (b9.mono H8.out.1.size)) (And.intro ((b9.cell (p := ⟨ab, ao + 1, none⟩) H8.out.2.2.1).trans H8.out.2.1) (And.intro (H8.out.2.2.2.1.past b9 H8.out.2.2.2.1.inside) (H8.out.2.2.2.2.past b9 H8.out.2.2.2.2.inside))))
  clear b9 z4
  have hs1 := H9.out.2.1
  obtain ⟨c0, c1, c2, c3, c4, c5, c6, c7⟩ := own8 H9.out.2.2.2
  have z5 := Lib.hid (it_loops H9.out.2.2.1)
  go_wp2_with fail
  refine z5.out.mono ?_
  rintro _ w10 ⟨rfl, b10⟩
  have H10 := Lib.hid (H9.out.1.trans (b10.mono H9.out.1.size))
  clear b10 c0 c1 c2 c3 c4 c5 c6 c7 hs1
  have z6 := Lib.hid (zero_call (w := w10))
  go_wp2_with fail
  refine z6.out.mono ?_
  rintro _ w11 ⟨rfl, b11⟩
  have H11 := Lib.hid (H0.out.1.trans ((H10.out.trans (b11.mono H10.out.size)).mono H0.out.1.size))
  clear b11
  go_wp2_with fail
  go_ret
  exact ⟨rfl, H11.out⟩
end Go.Proofs.Ytjidjpmdmcleoaa
namespace Go.Proofs.Ytjidjpmdmcleoaa
open Go Go.RowKit

theorem SFine.mono {M M' : Nat} {L : List (Sl Int)} {A : Option Addr} {w : World} (h : SFine M L A w) (hM : M ≤ M') : SFine M' L A w := ⟨h.ll, fun s hs => Nat.le_trans (h.len s hs) hM, h.many⟩
theorem tys_keep {w w' : World} {A : Option Addr} {l : List Int} (h : Tys w w.heap.size A l) (hb : Below w.heap.size w w') : Tys w' w'.heap.size A l := tys_lies.2 (lies_keep (tys_lies.1 h) hb)
/-- the plan, its copy at block P, and the schemas -/
structure Came (M : Nat) (p : Px) (L : List (Sl Int)) (A : Option Addr) (P : Nat) (w : World) : Prop where
  all : PAll M p w
  src : SFine M L A w
  box : Own w P 52 [.int .u8 p.kind, .int .i64 p.n, .slice p.kA p.kids.length p.kc, .slice p.eA p.exprs.length p.ec, .slice p.cA p.cols.length p.cc, .slice p.wA p.wit.length p.wc, .int .u8 p.agg, .int .i64 p.rounds]
theorem Came.next {M : Nat} {p : Px} {L : List (Sl Int)} {A : Option Addr} {P : Nat} {w w' : World} (h : Came M p L A P w) (hb : Below w.heap.size w w') : Came M p L A P w' :=
  ⟨h.all.next hb, h.src.next hb, h.box.past hb h.box.inside⟩
theorem came_box {M : Nat} {p : Px} {L : List (Sl Int)} {A : Option Addr} (w : World) (hp : PAll M p w) (hs : SFine M L A w) : ∃ W, W = (w.alloc (.cells #[.int .u8 p.kind, .int .i64 p.n, .slice p.kA p.kids.length p.kc, .slice p.eA p.exprs.length p.ec, .slice p.cA p.cols.length p.cc, .slice p.wA p.wit.length p.wc, .int .u8 p.agg, .int .i64 p.rounds] 52)) ∧ Below w.heap.size w W ∧ Came M p L A w.heap.size W := by
  obtain ⟨W, e, s, b, o, _⟩ := boxed w [.int .u8 p.kind, .int .i64 p.n, .slice p.kA p.kids.length p.kc, .slice p.eA p.exprs.length p.ec, .slice p.cA p.cols.length p.cc, .slice p.wA p.wit.length p.wc, .int .u8 p.agg, .int .i64 p.rounds] 52
  exact ⟨W, e, b, hp.next b, hs.next b, o⟩
/-- a plan around some that lie in a row is as they are -/
theorem wrap_all {M M' : Nat} {k r : Int} {G n : Nat} {t : TypeId} {l : List Px} {w : World} (hk : 0 ≤ k ∧ k ≤ 255) (hr : imin ≤ r ∧ r ≤ imax) (h : ∀ x ∈ l, PAll M x w) (ho : Own w G t (l.flatMap Px.cells)) (n1 : l.length * M + 1 ≤ M') (n0 : l.length ≤ 4) (hMM : M ≤ M') (hM : M' ≤ maxLen) (h1 : 1 ≤ M') :
    PAll M' (pwrap k (some ⟨G, 0, none⟩) n l r) w :=
  pall_node hk i0fit u8z hr h (lies_own pcells_len ho) Ints.nil_ Ints.nil_ (by unfold maxLen; omega) n1 h1 (Nat.zero_le _) hMM hM
/-- how long a schema is, also that of a run that failed -/
theorem infer_len {M : Nat} {p : Px} {L : List (Sl Int)} {A : Option Addr} {w : World} (hp : PAll M p w) (hs : SFine M L A w) (hM : M ≤ 8388608) : (inferP (schs L) p).1.length ≤ maxLen := by
  unfold inferP
  split
  · split
    · rename_i hc
      have hg := (checkP_ok p (hp.fine hM).cnt).1.1 hc
      have hfu := pinf_fuel (schs L) 16 17 p [] 0 (by omega) hg.1
      have hlen := pinf_len (schs L) M 16 p [] 0 M (fun s h => by obtain ⟨y, hy, rfl⟩ := List.mem_map.1 h; exact hs.len y hy) (fun s h => by cases h) (Nat.le_refl _) (hp.sm 16) hg.1 hg.2.1
      have htb : tb (cntP 16 p) * M ≤ 1099511627776 := Nat.le_trans (Nat.mul_le_mul (Nat.le_trans (tb_mono hg.2.1 (Nat.le_refl _)) tb_most) hM) (by decide)
      rw [hfu]
      split
      · show (pinf (schs L) 16 p [] 0).1.length ≤ maxLen; unfold maxLen; omega
      · exact Nat.zero_le _
    · exact Nat.zero_le _
  · exact Nat.zero_le _
def InferSays (l : List Int) (e : Int) (w : World) (x : Ending) (w' : World) : Prop := ∃ A' c', x = .returned (.tuple #[.slice A' l.length c', .int .i64 e]) ∧ Tys w' w'.heap.size A' l ∧ Below w.heap.size w w'
theorem infer_says {M : Nat} (hM : M ≤ 8388608) {p : Px} {L : List (Sl Int)} {A : Option Addr} {c : Nat} {w : World} {l : List Int} {e : Int} {v : Value} (hv : p.val = v) (hR : inferP (schs L) p = (l, e)) (hp : PAll M p w) (hf : SFine M L A w) :
    Calls Try.prog 20 #[v, .slice A L.length c] w (InferSays l e w) := by
  subst hv
  exact infer_at hM rfl hR hp hf
theorem check_says {M : Nat} {p : Px} {w : World} {v : Value} {k : Int} (hv : p.val = v) (hk : checkP p = k) (hp : PAll M p w) : Calls Try.prog 23 #[v] w fun x w' => x = .returned (.int .i64 k) ∧ Below w.heap.size w w' := by
  subst hv hk
  exact check_at hp
theorem loops_says {M : Nat} {p : Px} {w : World} {v : Value} {k : Int} (hv : p.val = v) (hk : loopsP p = k) (hp : PAll M p w) : Calls Try.prog 24 #[v] w fun x w' => x = .returned (.int .i64 k) ∧ Below w.heap.size w w' := by
  subst hv hk
  exact loops_at hp
end Go.Proofs.Ytjidjpmdmcleoaa
