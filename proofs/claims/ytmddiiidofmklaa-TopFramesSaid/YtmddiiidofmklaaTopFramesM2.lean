/- Part 2 of the texts on which TopFrames rests: facts and contracts. -/
import Derived.Test.YtmddiiidofmklaaTopFramesM1
import Derived.Laws.OwnMore
import Derived.Deep.Draws
import Derived.Laws.CopyRow
import Derived.Laws.CopyOwn
import Derived.OwnWalk
import Derived.Lib.AppendZerosOnto
import Derived.Lib.Overlaps
import Derived.Laws.Externs
import Derived.Test.YtmddiiidofmklaaProg
import Derived.Deep.RegionLaw
import Derived.Outline
import Derived.Handy
import Derived.Test.YtmddiiidofmklaaShelf
import Derived.Deep.Cut
import Derived.Deep.DeepCutAuto
import Derived.BigQuiet
import Derived.Deep.RegionHeld3
import Derived.Lib.SlBuf
namespace Go.Proofs.Ytmddiiidofmklaa
open Go Go.RowKit

def woF (l : List Fl) (n : ByteArray) : List Fl := l.filter (fun f => decide (f.n ≠ n))
theorem woF_app (A B : List Fl) (n : ByteArray) : woF (A ++ B) n = woF A n ++ woF B n := by unfold woF; rw [List.filter_append]
theorem woF_all {l : List Fl} {n : ByteArray} (h : ∀ f ∈ l, f.n ≠ n) : woF l n = l := by
  unfold woF; rw [List.filter_eq_self]; intro f hf; simpa using h f hf
theorem woF_snoc {l : List Fl} {k : Nat} {f : Fl} (n : ByteArray) (h : l[k]? = some f) : woF (l.take (k + 1)) n = if f.n = n then woF (l.take k) n else woF (l.take k) n ++ [f] := by
  have hlt := (List.getElem?_eq_some_iff.1 h).1
  rw [List.take_succ_eq_append_getElem hlt, (List.getElem?_eq_some_iff.1 h).2, woF_app]
  by_cases hn : f.n = n
  · rw [if_pos hn]; unfold woF; simp [hn]
  · rw [if_neg hn]; unfold woF; simp [hn]
theorem woF_len (l : List Fl) (n : ByteArray) : (woF l n).length ≤ l.length := List.length_filter_le _ _
theorem lt_ne {a b : ByteArray} (h : cmpN a b < 0) : a ≠ b := fun e => by subst e; rw [cmpN_self] at h; omega
theorem gt_ne {a b : ByteArray} (h : cmpN b a < 0) : a ≠ b := fun e => by subst e; rw [cmpN_self] at h; omega
theorem woF_take {l : List Fl} {n : ByteArray} (hs : SortedF l) : woF l n = takeF l n := by
  by_cases h : hasF l n = true
  · obtain ⟨A, d, B, e, hp, ha, hb, _⟩ := parted hs h
    obtain ⟨e1, _, e3, _⟩ := take_of_parts e hp
    unfold takeF
    rw [if_pos h, e1, e3, e, woF_app, woF_all fun f hf => lt_ne (ha f hf), show (⟨n, d⟩ :: B : List Fl) = [⟨n, d⟩] ++ B from rfl, woF_app, woF_all (l := B) fun f hf => gt_ne (hb f hf)]
    simp [woF]
  · have h0 : hasF l n = false := by simpa using h
    unfold takeF
    rw [if_neg h]
    refine woF_all fun f hf e => ?_
    unfold hasF namesF at h0
    rw [hasN_not] at h0
    exact h0 (e ▸ List.mem_map_of_mem hf)
/-- where it is put -/
theorem pos_of {l : List Fl} {n : ByteArray} {p : Nat} (hs : SortedF l) (hp : p ≤ l.length) (h1 : ∀ (i : Nat) (f : Fl), i < p → l[i]? = some f → cmpN f.n n < 0) (h2 : ∀ f, l[p]? = some f → ¬ cmpN f.n n < 0) : p = posF l n := by
  have hat := posN_at (n := n) hs
  have hle := posF_le l n
  rcases Nat.lt_trichotomy p (posF l n) with h | h | h
  · exfalso
    have hlt : p < l.length := by omega
    have hx : l[p]? = some l[p] := List.getElem?_eq_getElem hlt
    exact h2 _ hx ((hat p l[p].n (by unfold namesF; rw [List.getElem?_map, hx]; rfl)).1 h)
  · exact h
  · exfalso
    have hlt : posF l n < l.length := by omega
    have hx : l[posF l n]? = some l[posF l n] := List.getElem?_eq_getElem hlt
    have := (hat (posF l n) l[posF l n].n (by unfold namesF; rw [List.getElem?_map, hx]; rfl)).2 (h1 _ _ h hx)
    unfold posF at this
    omega
def withF (l : List Fl) (x : Fl) : List Fl := putF (takeF l x.n) x
theorem sorted_with {l : List Fl} {x : Fl} (hs : SortedF l) : SortedF (withF l x) := sorted_put (sorted_take hs) (has_take hs)
theorem len_with (l : List Fl) (x : Fl) : (withF l x).length ≤ l.length + 1 := by unfold withF; rw [len_put]; have := len_take (l := l) (n := x.n); omega
theorem old_get {l : List Fl} {n : ByteArray} (hs : SortedF l) (h : hasF l n = true) : (oldF l n).n = n ∧ (oldF l n).d = (getF l n).getD ⟨#[]⟩ := by
  obtain ⟨A, d, B, e, hp, ha, hb, ho⟩ := parted hs h
  rw [get_old hs h, ho]; exact ⟨rfl, rfl⟩
theorem ext_with {l : List Fl} {n d : ByteArray} (hs : SortedF l) : withF l ⟨n, (getF l n).getD ⟨#[]⟩ ++ d⟩ = extF l n d := by
  refine files_ext (sorted_with hs) (sorted_ext hs) fun m => ?_
  unfold withF
  rw [get_put (f := ⟨n, _⟩) (has_take hs), get_ext hs, get_take hs]
  dsimp only
  split <;> rfl
/-- what find tells, of files that ascend -/
theorem found_get {l : List Fl} {n : ByteArray} {i : Nat} {f : Fl} (hs : SortedF l) (h : l[i]? = some f) (e : f.n = n) : hasF l n = true ∧ getF l n = some f.d ∧ oldF l n = f := by
  have hh : hasF l n = true := by unfold hasF namesF; rw [hasN_mem]; exact e ▸ List.mem_map_of_mem (List.mem_of_getElem? h)
  have hp := parted hs hh
  obtain ⟨A, d, B, el, hl, ha, hb, ho⟩ := hp
  have hf : f = ⟨n, d⟩ := by
    have hm : f ∈ l := List.mem_of_getElem? h
    rw [el] at hm
    rcases List.mem_append.1 hm with hm | hm
    · exact absurd e (lt_ne (ha f hm))
    · rcases List.mem_cons.1 hm with hm | hm
      · exact hm
      · exact absurd e (gt_ne (hb f hm))
  subst hf
  exact ⟨hh, by rw [get_old hs hh, ho], ho⟩
theorem not_found {l : List Fl} {n : ByteArray} (h : ∀ f ∈ l, f.n ≠ n) : hasF l n = false ∧ getF l n = none := by
  have hh : hasF l n = false := by
    unfold hasF namesF; rw [hasN_not]; intro hm
    obtain ⟨f, hf, rfl⟩ := List.mem_map.1 hm
    exact h f hf rfl
  exact ⟨hh, get_none.2 hh⟩
/-- emptied files: their names alone -/
def bareF (l : List Fl) : List Fl := l.map fun f => ⟨f.n, ⟨#[]⟩⟩
def bareW (w : Wr) : Wr := ⟨w.k, w.n, w.t, ⟨#[]⟩⟩
theorem bare_names (l : List Fl) : namesF (bareF l) = namesF l := by unfold bareF namesF; rw [List.map_map]; rfl
theorem bare_pos (l : List Fl) (n : ByteArray) : posF (bareF l) n = posF l n := by unfold posF; rw [bare_names]
theorem bare_has (l : List Fl) (n : ByteArray) : hasF (bareF l) n = hasF l n := by unfold hasF; rw [bare_names]
theorem bare_sorted {l : List Fl} (h : SortedF l) : SortedF (bareF l) := by unfold SortedF; rw [bare_names]; exact h
theorem bare_len (l : List Fl) : (bareF l).length = l.length := List.length_map _
theorem get_bare (l : List Fl) (m : ByteArray) : getF (bareF l) m = (getF l m).map fun _ => ⟨#[]⟩ := by
  induction l with
  | nil => rfl
  | cons f l ih =>
    show getF (⟨f.n, ⟨#[]⟩⟩ :: bareF l) m = _
    rw [get_cons, get_cons, ih]
    split <;> rfl
theorem get_ren' {l : List Fl} {n t : ByteArray} (hs : SortedF l) (m : ByteArray) : getF (renF l n t) m = if hasF l n = true then (if m = t then getF l n else if m = n then none else getF l m) else getF l m := by
  by_cases h : hasF l n = true
  · rw [if_pos h, get_ren hs h]
  · rw [if_neg h]; unfold renF; rw [if_neg h]
theorem bare_app {l : List Fl} (w : Wr) (hs : SortedF l) : appF (bareF l) (bareW w) = bareF (appF l w) := by
  refine files_ext (sorted_app (bare_sorted hs)) (bare_sorted (sorted_app hs)) fun m => ?_
  have hb := bare_sorted hs
  rw [get_bare]
  unfold appF bareW
  dsimp only
  split
  · rw [get_ext hb, get_ext hs, get_bare, get_bare]
    split
    · cases getF l w.n <;> rfl
    · rfl
  · split
    · rw [get_ren' hb, get_ren' hs, bare_has, get_bare, get_bare]
      split
      · split
        · rfl
        · split <;> rfl
      · rfl
    · split
      · rw [get_take hb, get_take hs, get_bare]
        split <;> rfl
      · rw [get_bare]
/-- the reference's walk over the waiting writes -/
def okN : List Fl → List Wr → Bool
  | _, [] => true
  | l, w :: ws => decide ((appF l (bareW w)).length ≤ 256) && okN (appF l (bareW w)) ws
theorem okN_eq : ∀ (ws : List Wr) {l : List Fl}, SortedF l → okW l ws = ((ws.all rightW) && okN (bareF l) ws)
  | [], _, _ => rfl
  | w :: ws, l, hs => by
    have ih := okN_eq ws (sorted_app (w := w) hs)
    unfold okW okN
    rw [bare_app w hs, bare_len, ih, List.all_cons]
    cases rightW w <;> cases (ws.all rightW) <;> cases decide ((appF l w).length ≤ 256) <;> simp
theorem okN_snoc : ∀ (ws : List Wr) (k : Nat) (w : Wr) (l : List Fl), ws[k]? = some w → okN l (ws.take (k + 1)) = (okN l (ws.take k) && decide ((appF ((ws.take k).foldl (fun a x => appF a (bareW x)) l) (bareW w)).length ≤ 256))
  | [], k, w, l, h => by simp at h
  | y :: ws, 0, w, l, h => by
    obtain rfl : y = w := by simpa using h
    show (decide _ && true) = (true && decide _)
    rw [Bool.and_true, Bool.true_and]; rfl
  | y :: ws, k + 1, w, l, h => by
    have ih := okN_snoc ws k w (appF l (bareW y)) (by simpa using h)
    rw [List.take_succ_cons, List.take_succ_cons, List.foldl_cons]
    unfold okN
    rw [ih, Bool.and_assoc]
theorem fold_snoc {α β : Type} (g : β → α → β) (l : List α) (k : Nat) (x : α) (b : β) (h : l[k]? = some x) : (l.take (k + 1)).foldl g b = g ((l.take k).foldl g b) x := by
  have hlt := (List.getElem?_eq_some_iff.1 h).1
  rw [List.take_succ_eq_append_getElem hlt, (List.getElem?_eq_some_iff.1 h).2, List.foldl_append]; rfl
theorem len_appF {l : List Fl} (w : Wr) (hs : SortedF l) : (appF l w).length ≤ l.length + 1 := by
  unfold appF
  split
  · rw [← ext_with hs]; exact len_with _ _
  · split
    · unfold renF
      split
      · rw [len_put]; have := len_take (l := takeF l w.n) (n := w.t); have := len_take (l := l) (n := w.n); omega
      · omega
    · split
      · have := len_take (l := l) (n := w.n); omega
      · omega
/-- files too great for a room -/
def greatF (l : List Fl) (r : Int) : Bool := decide (r < (szF l : Int)) || decide (256 < l.length)
theorem sz_snoc {l : List Fl} {k : Nat} {f : Fl} (h : l[k]? = some f) : szF (l.take (k + 1)) = szF (l.take k) + f.d.size := by
  have hlt := (List.getElem?_eq_some_iff.1 h).1
  rw [List.take_succ_eq_append_getElem hlt, (List.getElem?_eq_some_iff.1 h).2, szF_app, szF_cons]; rfl
theorem sz_take (l : List Fl) (k : Nat) : szF (l.take k) ≤ szF l := by
  have : szF l = szF (l.take k) + szF (l.drop k) := by rw [← szF_app, List.take_append_drop]
  omega
end Go.Proofs.Ytmddiiidofmklaa
namespace Go.Proofs.Ytmddiiidofmklaa
open Go Go.RowKit

def fr (p : ByteArray) : List UInt8 := txt p.data.toList ++ sealS p.data.toList
def frB (p : ByteArray) : ByteArray := ⟨(fr p).toArray⟩
def catR (P : List ByteArray) : List UInt8 := (P.map fr).flatten
theorem cat_snoc (P : List ByteArray) (p : ByteArray) : catR (P ++ [p]) = catR P ++ fr p := by simp [catR]
theorem cat_cons (P : List ByteArray) (p : ByteArray) : catR (p :: P) = fr p ++ catR P := by simp [catR]
theorem cat_app (P Q : List ByteArray) : catR (P ++ Q) = catR P ++ catR Q := by simp [catR]
def fN : ByteArray := ⟨#[102]⟩
def wrF (p : ByteArray) : Wr := ⟨1, fN, ⟨#[]⟩, frB p⟩
def oneF (l : List UInt8) : List Fl := [⟨fN, ⟨l.toArray⟩⟩]
theorem has_one (c : ByteArray) : hasF [⟨fN, c⟩] fN = true := by unfold hasF; rw [hasN_mem]; simp [namesF]
theorem pos_one (c : ByteArray) : posF [⟨fN, c⟩] fN = 0 := by
  unfold posF; exact posN_zero fun x hx => by
    obtain rfl : x = fN := by simpa [namesF] using hx
    rw [cmpN_self]; omega
theorem ext_one (a b : List UInt8) : extF (oneF a) fN ⟨b.toArray⟩ = oneF (a ++ b) := by
  unfold extF oneF oldF
  rw [if_pos (has_one _), pos_one]
  show [_] = [_]
  rw [← str_app]; rfl
theorem ext_none (b : List UInt8) : extF [] fN ⟨b.toArray⟩ = oneF b := by
  unfold extF oneF
  rw [if_neg (by simp [hasF, namesF, hasN])]
  unfold putF
  rw [empty_app]; rfl
/-- what is there of so many frames -/
def holdF (P : List ByteArray) : List Fl := if P = [] then [] else oneF (catR P)
theorem hold_snoc (P : List ByteArray) (p : ByteArray) : appF (holdF P) (wrF p) = holdF (P ++ [p]) := by
  have e : holdF (P ++ [p]) = oneF (catR P ++ fr p) := by unfold holdF; rw [if_neg (by simp), cat_snoc]
  rw [e]
  unfold appF wrF
  rw [if_pos rfl]
  dsimp only
  unfold holdF
  split
  · rename_i h
    subst h
    exact ext_none _
  · exact ext_one _ _
theorem hold_fold : ∀ (Q P : List ByteArray), (Q.map wrF).foldl appF (holdF P) = holdF (P ++ Q)
  | [], P => by simp
  | q :: Q, P => by
    rw [List.map_cons, List.foldl_cons, hold_snoc, hold_fold Q, List.append_assoc]; rfl
theorem hold_len (P : List ByteArray) : (holdF P).length ≤ 1 := by unfold holdF; split <;> simp [oneF]
theorem hold_sorted (P : List ByteArray) : SortedF (holdF P) := by
  unfold holdF SortedF SortedN namesF oneF
  split <;> simp
theorem fN_right : rightN fN = true := by decide
theorem hold_named (P : List ByteArray) : Named (holdF P) := by
  intro f hf
  unfold holdF at hf
  split at hf
  · simp at hf
  · obtain rfl : f = _ := by simpa [oneF] using hf
    exact fN_right
theorem wrF_right (p : ByteArray) : rightW (wrF p) = true := by
  unfold rightW wrF
  dsimp only
  rw [fN_right, if_pos rfl]; decide
theorem hold_ok : ∀ (Q P : List ByteArray), okW (holdF P) (Q.map wrF) = true
  | [], _ => rfl
  | q :: Q, P => by
    rw [List.map_cons]
    unfold okW
    rw [hold_snoc, wrF_right, hold_ok Q]
    have := hold_len (P ++ [q])
    simp; omega
def roomT : Int := 1099511627776
/-- the disk behind so many frames, some of them synced -/
def dsk (P : List ByteArray) (s : Nat) : Dk := ⟨holdF (P.take s), (P.drop s).map wrF, roomT, false, -1⟩
theorem dsk_good (P : List ByteArray) (s : Nat) (h : P.length ≤ 40) : goodD (dsk P s) = true := by
  rw [good_iff]
  have := hold_len (P.take s)
  refine ⟨by show (0 : Int) ≤ 1099511627776; decide, ⟨by show (holdF (P.take s)).length ≤ _; omega, hold_named _, hold_sorted _⟩, ?_, hold_ok _ _⟩
  show ((P.drop s).map wrF).length ≤ 4096
  simp; omega
theorem dsk_seen (P : List ByteArray) (s : Nat) (h : P.length ≤ 40) : seen (dsk P s) = holdF P := by
  rw [seen_good (dsk_good P s h)]
  show ((P.drop s).map wrF).foldl appF (holdF (P.take s)) = _
  rw [hold_fold, List.take_append_drop]
theorem hold_size (P : List ByteArray) : szF (holdF P) = (catR P).length := by
  unfold holdF
  split
  · rename_i h; subst h; rfl
  · simp [oneF, szF, sizeL]
theorem cat_len {P : List ByteArray} {m : Nat} (h : ∀ p ∈ P, (fr p).length ≤ m) : (catR P).length ≤ P.length * m := by
  induction P with
  | nil => simp [catR]
  | cons p P ih =>
    rw [cat_cons, List.length_append, List.length_cons, Nat.add_mul]
    have h1 := h p (by simp)
    have h2 := ih fun q hq => h q (List.mem_cons_of_mem _ hq)
    omega
theorem fr_len {p : ByteArray} (h : p.size ≤ 65536) : (fr p).length ≤ 65560 := by
  unfold fr
  rw [List.length_append, seal_len]
  have := txt_len (l := p.data.toList) (by rw [len_of]; omega)
  rw [len_of] at this
  omega
theorem dsk_do {P : List ByteArray} {s : Nat} {p : ByteArray} (h : P.length < 40) (hs : s ≤ P.length) (hp : ∀ q ∈ P, q.size ≤ 65536) (hq : p.size ≤ 65536) : doD (dsk P s) [wrF p] = (dsk (P ++ [p]) s, 0) := by
  have hg := dsk_good P s (by omega)
  unfold doD
  rw [if_pos hg, dsk_seen P s (by omega)]
  have hl := cat_len (P := P ++ [p]) (m := 65560) fun q hq' => by
    rcases List.mem_append.1 hq' with h1 | h1
    · exact fr_len (hp q h1)
    · obtain rfl : q = p := by simpa using h1
      exact fr_len hq
  have hz : (P ++ [p]).length ≤ 40 := by simp; omega
  have hl2 : (catR (P ++ [p])).length ≤ 40 * 65560 := Nat.le_trans hl (Nat.mul_le_mul_right _ hz)
  have hn := hold_len (P ++ [p])
  have e : writeD (dsk P s) (holdF P) (wrF p) = (dsk (P ++ [p]) s, holdF (P ++ [p]), 0) := by
    unfold writeD
    rw [if_neg (by simp [dsk]), if_neg (by rw [wrF_right]; simp), if_neg (by simp [wrF]), hold_snoc, if_neg, if_neg (by simp [dsk])]
    · congr 1
      unfold dsk
      rw [List.take_append_of_le_length hs, List.drop_append_of_le_length hs, List.map_append]
      rfl
    · rw [hold_size]
      have h1 : (dsk P s).waits.length ≤ 40 := by show ((P.drop s).map wrF).length ≤ _; simp; omega
      have h2 : (dsk P s).room = 1099511627776 := rfl
      rw [h2]
      omega
  show (if (writeD (dsk P s) (holdF P) (wrF p)).2.2 = 0 then doS _ _ [] else _) = _
  rw [e]; rfl
theorem dsk_sync {P : List ByteArray} {s : Nat} (h : P.length ≤ 40) : syncD (dsk P s) = (dsk P P.length, 0) := by
  unfold syncD
  rw [if_pos (dsk_good P s h), if_neg (by simp [dsk]), if_neg (by simp [dsk]), dsk_seen P s h]
  unfold dsk
  rw [List.take_length, List.drop_length]; rfl
/-- behind a crash -/
def stk (L : List Fl) : Dk := ⟨L, [], roomT, false, -1⟩
theorem stk_read {L : List Fl} (h1 : L.length ≤ 256) (h2 : Named L) (h3 : SortedF L) : readD (stk L) fN = readF L fN := by
  have hg : goodD (stk L) = true := by
    rw [good_iff]
    exact ⟨by show (0 : Int) ≤ 1099511627776; decide, ⟨h1, h2, h3⟩, by show (0 : Nat) ≤ 4096; omega, rfl⟩
  unfold readD
  rw [if_pos hg, if_neg (by simp [stk]), seen_good hg]
  rfl
theorem one_sorted (c : List UInt8) : SortedF (oneF c) := by unfold SortedF SortedN namesF oneF; simp
theorem one_named (c : List UInt8) : Named (oneF c) := by
  intro f hf
  obtain rfl : f = _ := by simpa [oneF] using hf
  exact fN_right
theorem read_one (c : List UInt8) : readD (stk (oneF c)) fN = (⟨c.toArray⟩, 0) := by
  rw [stk_read (by simp [oneF]) (one_named c) (one_sorted c)]
  unfold readF oneF getF
  simp
theorem read_none : readD (stk []) fN = (⟨#[]⟩, 5) := by
  rw [stk_read (by simp) (fun f hf => by cases hf) (by simp [SortedF, SortedN, namesF])]
  rfl
theorem ext_hold (P : List ByteArray) (b : List UInt8) : extF (holdF P) fN ⟨b.toArray⟩ = oneF (catR P ++ b) := by
  unfold holdF
  split
  · rename_i h; subst h; exact ext_none b
  · exact ext_one _ _
def PieceT (P : List ByteArray) (m : Nat) (c : List UInt8) : Prop := c = [] ∨ ∃ p j, P[m]? = some p ∧ c = (fr p).take j ∧ j < (fr p).length
def LeftT (P : List ByteArray) (s : Nat) (r : ByteArray × Int) : Prop := (r = (⟨#[]⟩, 5) ∧ s = 0) ∨ ∃ m c, s ≤ m ∧ m ≤ P.length ∧ PieceT P m c ∧ r = (⟨(catR (P.take m) ++ c).toArray⟩, 0)
theorem dsk_crash {P : List ByteArray} {s : Nat} (h : P.length ≤ 40) (hs : s ≤ P.length) (keep tear : Int) : ∃ k', crashD (dsk P s) keep tear = (k', 0) ∧ LeftT P s (readD k' fN) := by
  have hg := dsk_good P s h
  obtain ⟨q, hq⟩ : ∃ q, keepN keep (dsk P s).waits.length = q := ⟨_, rfl⟩
  have hwl : (dsk P s).waits.length = P.length - s := by show ((P.drop s).map wrF).length = _; simp
  have hql : q ≤ P.length - s := by rw [← hq, ← hwl]; unfold keepN; omega
  have hlook : lookF (dsk P s).files ((dsk P s).waits.take q) = holdF (P.take (s + q)) := by
    unfold lookF
    rw [base_sorted (show SortedF (dsk P s).files from hold_sorted _)]
    show ((((P.drop s).map wrF).take q).foldl appF (holdF (P.take s))) = _
    rw [← List.map_take, hold_fold, List.take_add]
  have hat : (dsk P s).waits[q]? = (P[s + q]?).map wrF := by
    show ((P.drop s).map wrF)[q]? = _
    rw [List.getElem?_map, List.getElem?_drop]
  refine ⟨stk (leftD (dsk P s) keep tear), by unfold crashD; rw [if_pos hg]; rfl, ?_⟩
  have hleft : leftD (dsk P s) keep tear = tornF (holdF (P.take (s + q))) ((P[s + q]?).map wrF) tear := by
    unfold leftD
    rw [hq, hlook, hat]
  rw [hleft]
  have plain : LeftT P s (readD (stk (holdF (P.take (s + q)))) fN) := by
    by_cases h0 : P.take (s + q) = []
    · left
      have e : holdF (P.take (s + q)) = [] := by unfold holdF; rw [if_pos h0]
      rw [e, read_none]
      refine ⟨rfl, ?_⟩
      have := congrArg List.length h0
      rw [List.length_take, List.length_nil] at this
      omega
    · right
      have e : holdF (P.take (s + q)) = oneF (catR (P.take (s + q))) := by unfold holdF; rw [if_neg h0]
      rw [e, read_one]
      exact ⟨s + q, [], by omega, by omega, .inl rfl, by rw [List.append_nil]⟩
  cases hx : P[s + q]? with
  | none => exact plain
  | some p =>
    have hlt := (List.getElem?_eq_some_iff.1 hx).1
    show LeftT P s (readD (stk (tornF (holdF (P.take (s + q))) (some (wrF p)) tear)) fN)
    by_cases ht : 1 ≤ tear
    · have e : tornF (holdF (P.take (s + q))) (some (wrF p)) tear = oneF (catR (P.take (s + q)) ++ (fr p).take (min tear.toNat (fr p).length)) := by
        unfold tornF
        dsimp only
        rw [if_pos ⟨rfl, ht⟩]
        show extF _ fN ((frB p).extract 0 (min tear.toNat (frB p).size)) = _
        rw [extract_upto, show (frB p).size = (fr p).length from sizeL _, show (frB p).data.toList = fr p from rfl, ext_hold]
      rw [e, read_one]
      right
      by_cases hj : min tear.toNat (fr p).length < (fr p).length
      · exact ⟨s + q, _, by omega, by omega, .inr ⟨p, _, hx, rfl, hj⟩, rfl⟩
      · refine ⟨s + q + 1, [], by omega, by omega, .inl rfl, ?_⟩
        rw [List.append_nil, List.take_succ_eq_append_getElem hlt, cat_snoc, (List.getElem?_eq_some_iff.1 hx).2, show (fr p).take (min tear.toNat (fr p).length) = fr p from List.take_of_length_le (by omega)]
    · have e : tornF (holdF (P.take (s + q))) (some (wrF p)) tear = holdF (P.take (s + q)) := by
        unfold tornF
        dsimp only
        rw [if_neg (fun h => ht h.2)]
      rw [e]; exact plain
/-- taken one by one -/
theorem take_next {P : List ByteArray} {n m : Nat} {c : List UInt8} {p : ByteArray} (hn : n < m) (hp : P[n]? = some p) (hs : p.size ≤ 65536) :
    tf (tt (tc 0 0 (catR ((P.take m).drop n) ++ c))) = (p.data.toList, catR ((P.take m).drop (n + 1)) ++ c, 0) := by
  have hlt := (List.getElem?_eq_some_iff.1 hp).1
  have hl : n < (P.take m).length := by rw [List.length_take]; omega
  rw [List.drop_eq_getElem_cons hl, cat_cons, List.getElem_take, (List.getElem?_eq_some_iff.1 hp).2]
  unfold fr
  rw [List.append_assoc]
  exact tf_back p.data.toList _ (by rw [len_of]; omega)
theorem take_end {P : List ByteArray} {m : Nat} {c : List UInt8} (hc : PieceT P m c) (hs : ∀ p ∈ P, p.size ≤ 65536) : tf (tt (tc 0 0 c)) = ([], [], 3) := by
  rcases hc with rfl | ⟨p, j, hp, rfl, hj⟩
  · exact tf_cut [] 0 (by simp) (by rw [List.length_append, seal_len]; omega)
  · exact tf_cut p.data.toList j (by have := hs p (List.mem_of_getElem? hp); rw [len_of]; omega) hj
end Go.Proofs.Ytmddiiidofmklaa
namespace Go.Proofs.Ytmddiiidofmklaa
open Go Go.RowKit

theorem ret_i64 {a b : Int} (h : a = b) : Ending.returned (.int .i64 a) = .returned (.int .i64 b) := by rw [h]
theorem ret_u64 {a b : Int} (h : a = b) : Ending.returned (.int .u64 a) = .returned (.int .u64 b) := by rw [h]
/-- behind a call that turns nothing older, every older cell and mark reads as before -/
theorem olds {W w1 : World} (h : Below W.heap.size W w1) : (∀ b o, b < W.heap.size → w1.cell? ⟨b, o, none⟩ = W.cell? ⟨b, o, none⟩) ∧ (∀ b o, b < W.heap.size → w1.frozen? ⟨b, o, none⟩ = W.frozen? ⟨b, o, none⟩) :=
  ⟨fun b o hb => h.cell (p := ⟨b, o, none⟩) hb, fun b o hb => h.frozen (p := ⟨b, o, none⟩) hb⟩
/-- block g holds just these cells, all of them open -/
def Own (w : World) (g : Nat) (t : TypeId) (l : List Value) : Prop := w.heap[g]? = some (.cells l.toArray t (0, 0))
section
variable {w w' : World} {g : Nat} {t : TypeId} {l : List Value}
theorem Own.inside (h : Own w g t l) : g < w.heap.size := by
  unfold Own at h
  exact (Array.getElem?_eq_some_iff.1 h).1
theorem Own.at_ (h : Own w g t l) (i : Nat) : w.cell? ⟨g, i, none⟩ = l[i]? := by
  unfold Own at h
  simp [World.cell?, h]
theorem Own.open_ (h : Own w g t l) (i : Nat) : w.frozen? ⟨g, i, none⟩ = false := by
  unfold Own at h
  simp [World.frozen?, h]
theorem Own.made (w : World) (t : TypeId) (l : List Value) : Own (w.alloc (.cells l.toArray t)) w.heap.size t l := heap_alloc_new w _
theorem Own.draws (h : Own w g t l) (n : Nat) : Own (w.drewN n) g t l := h
theorem Own.more (h : Own w g t l) (o : Obj) : Own (w.alloc o) g t l := (Below.heap_alloc w o g h.inside).trans h
theorem Own.set_ (h : Own w g t l) (i : Nat) (u : Value) : Own (w.setCell ⟨g, i, none⟩ u) g t (l.set i u) := by
  unfold Own at h ⊢
  have : (l.set i u).toArray = l.toArray.setIfInBounds i u := by apply Array.ext'; simp
  rw [this]
  simp [World.setCell, Array.getElem?_modify, h]
theorem Own.other (h : Own w g t l) {p : Addr} (hp : p.block ≠ g) (u : Value) : Own (w.setCell p u) g t l := (Below.heap_setCell w p u g (Ne.symm hp)).trans h
theorem Own.past {B : Nat} (h : Own w g t l) (hb : Below B w w') (hg : g < B) : Own w' g t l := (hb.block g hg).trans h
theorem own_of {l' : List Value} (h : Own w g t l) (e : l = l') : Own w g t l' := e ▸ h
theorem Own.stored3 {a b c : Value} (h : Own w g t [a, b, c]) (x y z : Value) :
    (w.setCell ⟨g, 0, none⟩ x).cell? ⟨g, 0, none⟩ = some x ∧ ((w.setCell ⟨g, 0, none⟩ x).setCell ⟨g, 1, none⟩ y).cell? ⟨g, 1, none⟩ = some y ∧
      (((w.setCell ⟨g, 0, none⟩ x).setCell ⟨g, 1, none⟩ y).setCell ⟨g, 2, none⟩ z).cell? ⟨g, 2, none⟩ = some z :=
  ⟨(h.set_ 0 x).at_ 0, ((h.set_ 0 x).set_ 1 y).at_ 1, (((h.set_ 0 x).set_ 1 y).set_ 2 z).at_ 2⟩
theorem below_set3 {B : Nat} {u : World} (h : Below B u w) (hg : B ≤ g) (x y z : Value) : Below B u (((w.setCell ⟨g, 0, none⟩ x).setCell ⟨g, 1, none⟩ y).setCell ⟨g, 2, none⟩ z) :=
  ((h.setCell (p := ⟨g, 0, none⟩) hg _).setCell (p := ⟨g, 1, none⟩) hg _).setCell (p := ⟨g, 2, none⟩) hg _
end
end Go.Proofs.Ytmddiiidofmklaa
namespace Go.Proofs.Ytmddiiidofmklaa
open Go Go.RowKit

/-- a slice at A of as many elements as l has, 'size' cells each, reads as l; it lies below block B -/
def Lies {α : Type} (size : Nat) (cells : α → List Value) (w : World) (B : Nat) (A : Option Addr) (l : List α) : Prop :=
  0 < l.length → ∃ b o, A = some ⟨b, o, none⟩ ∧ b < B ∧ ∀ (i : Nat) (x : α), l[i]? = some x → ∀ (j : Nat) (u : Value), (cells x)[j]? = some u → w.cell? ⟨b, o + i * size + j, none⟩ = some u
section
variable {α : Type} {size : Nat} {cells : α → List Value} {w w' : World} {B B' : Nat} {A : Option Addr} {l : List α}
theorem Lies.past (h : Lies size cells w B A l) (hb : Below B' w w') (hB : B ≤ B') : Lies size cells w' B A l := fun hn => by
  obtain ⟨b, o, e, hlt, hc⟩ := h hn
  exact ⟨b, o, e, hlt, fun i x hi j u hj => (hb.cell (p := ⟨b, o + i * size + j, none⟩) (show b < B' by omega)).trans (hc i x hi j u hj)⟩
theorem Lies.wide (h : Lies size cells w B A l) (hB : B ≤ B') : Lies size cells w B' A l := fun hn => by
  obtain ⟨b, o, e, hlt, hc⟩ := h hn
  exact ⟨b, o, e, by omega, hc⟩
theorem Lies.nil_ : Lies size cells w B A [] := fun h => absurd h (by simp)
theorem lies_keep {a b : World} (h : Lies size cells a a.heap.size A l) (hb : Below a.heap.size a b) : Lies size cells b b.heap.size A l := (h.past hb (Nat.le_refl _)).wide hb.size
theorem flat_size (hcl : ∀ x, (cells x).length = size) (l : List α) : (l.flatMap cells).length = l.length * size := by
  induction l with
  | nil => simp
  | cons x l ih => rw [List.flatMap_cons, List.length_append, ih, List.length_cons, hcl, Nat.add_mul]; omega
theorem flat_of (hcl : ∀ x, (cells x).length = size) : ∀ (l : List α) (i r : Nat) (x : α) (u : Value), l[i]? = some x → (cells x)[r]? = some u → (l.flatMap cells)[i * size + r]? = some u
  | [], i, r, x, u, h, _ => by simp at h
  | y :: l, 0, r, x, u, h, hu => by
    obtain rfl : y = x := by simpa using h
    have hr : r < (cells y).length := (List.getElem?_eq_some_iff.1 hu).1
    rw [List.flatMap_cons, Nat.zero_mul, Nat.zero_add, List.getElem?_append_left hr, hu]
  | y :: l, i + 1, r, x, u, h, hu => by
    have ih := flat_of hcl l i r x u (by simpa using h) hu
    rw [List.flatMap_cons, List.getElem?_append_right (by rw [hcl, Nat.add_mul]; omega), hcl, show (i + 1) * size + r - size = i * size + r by rw [Nat.add_mul]; omega]
    exact ih
theorem flat_back (hpos : 0 < size) (hcl : ∀ x, (cells x).length = size) (l : List α) (j : Nat) (u : Value) (h : (l.flatMap cells)[j]? = some u) : ∃ i r x, j = i * size + r ∧ l[i]? = some x ∧ (cells x)[r]? = some u := by
  have hj : j < l.length * size := by have := (List.getElem?_eq_some_iff.1 h).1; rwa [flat_size hcl] at this
  have hi : j / size < l.length := (Nat.div_lt_iff_lt_mul hpos).2 hj
  have hr : j % size < size := Nat.mod_lt _ hpos
  have hd : j = j / size * size + j % size := by rw [Nat.mul_comm]; exact (Nat.div_add_mod j size).symm
  have hc : j % size < (cells l[j / size]).length := by rw [hcl]; exact hr
  refine ⟨j / size, j % size, l[j / size], hd, List.getElem?_eq_getElem hi, ?_⟩
  have := flat_of hcl l (j / size) (j % size) l[j / size] _ (List.getElem?_eq_getElem hi) (List.getElem?_eq_getElem hc)
  rw [← hd, h] at this
  rw [List.getElem?_eq_getElem hc]
  exact this.symm
/-- a row of the call's own reads as its list -/
theorem lies_of_own {base n : Nat} {e : TypeId} {v : Value} (hpos : 0 < size) (hcl : ∀ x, (cells x).length = size) (hn : n = l.length) (h : w.ownsRow base e size v n (l.flatMap cells)) :
    ∃ A c, v = .slice A l.length c ∧ l.length ≤ c ∧ c ≤ maxLen ∧ Lies size cells w w.heap.size A l := by
  subst hn
  rcases h.2 with ⟨rfl, h0⟩ | ⟨g, cap, cur, rfl, hb, hg, h1, h2, h3, h4⟩
  · exact ⟨none, 0, by rw [h0], by omega, by omega, fun h => by omega⟩
  · refine ⟨_, cap, rfl, h1, h2, fun _ => ⟨g, 0, rfl, (Array.getElem?_eq_some_iff.1 hg).1, fun i x hi j u hj => ?_⟩⟩
    have hf := flat_of hcl l i j x u hi hj
    have hlt : i * size + j < l.length * size := by have := (List.getElem?_eq_some_iff.1 hf).1; rwa [flat_size hcl] at this
    rw [Nat.zero_add, h.cellAt _ hlt]
    exact hf
theorem run_append_none {P : Program} (w : World) (base : Nat) (t ty e : TypeId) (i : TypeInfo) (size : Nat) (ht : P.underlying t = some (.slice e)) (hi : P.info? e = some i) (v : Value) (n : Nat) (xs : List Value) (h : w.ownsRow base e size v n xs) (c : Nat) :
    (Builtin.append_ #[t, t] ty #[v, .slice none 0 c]).run P w = .ok v w := by
  rcases h.2 with ⟨rfl, _⟩ | ⟨g, cap, cur, rfl, _, _, hnc, _⟩
  · simp [Builtin.append_, run_underlying ht, typeInfo, hi, sizeOf, Builtin.firstCells, Builtin.lenOf]
  · simp [Builtin.append_, run_underlying ht, typeInfo, hi, sizeOf, Builtin.firstCells, Builtin.lenOf, storeCells, hnc]
/-- 'append(v, s...)', s a slice that reads as a list, nil or not -/
theorem wpList_append_lies {P : Program} (w : World) {ops : Array Oper} {rest : List Oper} {o : Oper} {a : Act} {Q : Exit → Act → World → Prop} (hgd : o.guard = none) (s x : Operand) (t e : TypeId)
    (ho : o.op = .call { callee := .builtin .append, args := #[s, x], argTypes := #[t, t] })
    (i0 : TypeInfo) (z : Value) (bytes : Nat) (ht : P.underlying t = some (.slice e)) (hi : P.info? e = some i0) (hz0 : i0.zero = some z) (hz1 : i0.size = size) (hz2 : i0.bytes = bytes) (hzs : z.cells.size = size) (hpos : 0 < size) (hcl : ∀ x, (cells x).length = size) (hone : ∀ x, ∀ u ∈ cells x, u.oneCell' = true)
    (base : Nat) (v : Value) (n : Nat) (xs : List Value) (hs : a.eval s = v) (hown : w.ownsRow base e size v n xs)
    (c : Nat) (hx : a.eval x = .slice A l.length c) (hl : Lies size cells w B A l) (h63 : n + l.length ≤ maxLen) (hn : (n + l.length) * bytes ≤ 140737488355328) (hbase : base ≤ w.heap.size)
    (h : ∀ v' w', w'.ownsRow base e size v' (n + l.length) (xs ++ l.flatMap cells) → Below base w w' → wpList P ops Q rest (a.put o.dst v') w') :
    wpList P ops Q (o :: rest) a w := by
  refine wpList_plain hgd fun K hK => ?_
  obtain ⟨v', w', hrun, ho', hb⟩ : ∃ v' w', (Builtin.append_ #[t, t] o.type #[v, .slice A l.length c]).run P w = .ok v' w' ∧ w'.ownsRow base e size v' (n + l.length) (xs ++ l.flatMap cells) ∧ Below base w w' := by
    cases A with
    | none =>
      have h0 : l = [] := by
        cases l with
        | nil => rfl
        | cons x l => obtain ⟨_, _, e, _⟩ := hl (by simp); cases e
      subst h0
      exact ⟨v, w, run_append_none w base _ _ _ i0 size ht hi v n xs hown c, by simpa using hown, Below.refl _ _⟩
    | some ad =>
      have hnews : ∀ j u, (l.flatMap cells)[j]? = some u → w.cell? (ad.add j) = some u := by
        intro j u hu
        obtain ⟨i, r, y, rfl, hi, hr⟩ := flat_back hpos hcl l j u hu
        have hp : 0 < l.length := by have := (List.getElem?_eq_some_iff.1 hi).1; omega
        obtain ⟨b, o, e, _, hc⟩ := hl hp
        obtain rfl : ad = ⟨b, o, none⟩ := by injection e
        have ea : (⟨b, o, none⟩ : Addr).add (i * size + r) = ⟨b, o + i * size + r, none⟩ := by unfold Addr.add; split <;> simp_all <;> omega
        rw [ea]
        exact hc i y hi r u hr
      obtain ⟨v', w', hr, h2, h3, _, _⟩ := run_append_own_at (P := P) w base t o.type e i0 _ size bytes ht hi hz0 hz1 hz2 hzs hpos v n xs hown ad l.length c (l.flatMap cells) (flat_size hcl l) hnews
        (fun u hu => by obtain ⟨y, _, hy⟩ := List.mem_flatMap.1 hu; exact hone y u hy) h63 hn hbase
      exact ⟨v', w', hr, h2, (Below.refl base w).grown h3 hbase (fun k hk => (hown.lt k hk).1)⟩
  unfold Oper.wp execOp
  simp only [ho, resolve, invoke, builtin, Sem.run_bind, Sem.run_pure, Result.andThen_ok, List.map_toArray, List.map_cons, List.map_nil, hs, hx, hrun]
  exact hK _ _ (h v' w' ho' hb)
/-- the same as a step of a region that draws its order; and where the row lies behind it -/
theorem step_append_lies {P : Program} (w : World) {ops : Array Oper} {o : Oper} {a : Act} {K : Act → World → Prop} {Q : Exit → Act → World → Prop} {E : Prop} (hgd : o.guard = none) (s x : Operand) (t e : TypeId)
    (ho : o.op = .call { callee := .builtin .append, args := #[s, x], argTypes := #[t, t] })
    (i0 : TypeInfo) (z : Value) (bytes : Nat) (ht : P.underlying t = some (.slice e)) (hi : P.info? e = some i0) (hz0 : i0.zero = some z) (hz1 : i0.size = size) (hz2 : i0.bytes = bytes) (hzs : z.cells.size = size) (hpos : 0 < size) (hcl : ∀ x, (cells x).length = size) (hone : ∀ x, ∀ u ∈ cells x, u.oneCell' = true)
    (base : Nat) (v : Value) (n : Nat) (xs : List Value) (hs : a.eval s = v) (hown : w.ownsRow base e size v n xs)
    (c : Nat) (b off : Nat) (hx : a.eval x = .slice (some ⟨b, off, none⟩) l.length c) (hl : Lies size cells w B (some ⟨b, off, none⟩) l) (h63 : n + l.length ≤ maxLen) (hn : (n + l.length) * bytes ≤ 140737488355328) (hbase : base ≤ w.heap.size)
    (h : ∀ v' w', w'.ownsRow base e size v' (n + l.length) (xs ++ l.flatMap cells) → Below base w w' → (v'.ownBlock = v.ownBlock ∨ v'.ownBlock = some w.heap.size) → w.grownBy w' v.ownBlock → K (a.put o.dst v') w') :
    if Region.wanted o (yielded ops a.tmps) = true then Oper.wp P o a w K Q else E := by
  have hw : Region.wanted o (yielded ops a.tmps) = true := by simp [Region.wanted, hgd]
  rw [if_pos hw]
  have hnews : ∀ j u, (l.flatMap cells)[j]? = some u → w.cell? ((⟨b, off, none⟩ : Addr).add j) = some u := by
    intro j u hu
    obtain ⟨i, r, y, rfl, hi, hr⟩ := flat_back hpos hcl l j u hu
    have hp : 0 < l.length := by have := (List.getElem?_eq_some_iff.1 hi).1; omega
    obtain ⟨b', o', e, _, hc⟩ := hl hp
    simp only [Option.some.injEq, Addr.mk.injEq, and_true] at e
    obtain ⟨rfl, rfl⟩ := e
    have ea : (⟨b, off, none⟩ : Addr).add (i * size + r) = ⟨b, off + i * size + r, none⟩ := by unfold Addr.add; split <;> simp_all <;> omega
    rw [ea]
    exact hc i y hi r u hr
  obtain ⟨v', w', hrun, h2, h3, _, h5⟩ := run_append_own_at (P := P) w base t o.type e i0 _ size bytes ht hi hz0 hz1 hz2 hzs hpos v n xs hown ⟨b, off, none⟩ l.length c (l.flatMap cells) (flat_size hcl l) hnews
    (fun u hu => by obtain ⟨y, _, hy⟩ := List.mem_flatMap.1 hu; exact hone y u hy) h63 hn hbase
  unfold Oper.wp execOp
  simp only [ho, resolve, invoke, builtin, Sem.run_bind, Sem.run_pure, Result.andThen_ok, List.map_toArray, List.map_cons, List.map_nil, hs, hx, hrun]
  exact h v' w' h2 ((Below.refl base w).grown h3 hbase (fun k hk => (hown.lt k hk).1)) h5 h3
end
end Go.Proofs.Ytmddiiidofmklaa
namespace Go.Proofs.Ytmddiiidofmklaa
open Go Go.RowKit

/-- l with vs from place o on -/
def splice (l : List Value) (o : Nat) (vs : List Value) : List Value := l.take o ++ vs ++ l.drop (o + vs.length)
theorem splice_len {l : List Value} {o : Nat} {vs : List Value} (h : o + vs.length ≤ l.length) : (splice l o vs).length = l.length := by
  unfold splice; simp; omega
theorem own_row {w : World} {g : Nat} {t : TypeId} {cur cs : List Value} (h : Own w g t cur) : Own (w.setRow g cs.toArray) g t cs := by
  unfold Own at *
  simp [World.setRow, Array.getElem?_modify, h]
theorem row_other {w : World} {g k : Nat} {cs : Array Value} (h : k ≠ g) : (w.setRow g cs).heap[k]? = w.heap[k]? := setRow_other w g k cs h
/-- only the blocks of S have turned, of those that were there -/
structure Kept (w w' : World) (S : Nat → Prop) : Prop where
  os : w'.os = w.os
  tape : w'.tape = w.tape
  output : w'.output = w.output
  size : w.heap.size ≤ w'.heap.size
  block : ∀ k, k < w.heap.size → ¬ S k → w'.heap[k]? = w.heap[k]?
section
variable {w w' w'' : World} {S T : Nat → Prop}
theorem Kept.refl (w : World) (S : Nat → Prop) : Kept w w S := ⟨rfl, rfl, rfl, Nat.le_refl _, fun _ _ _ => rfl⟩
theorem Kept.trans (h : Kept w w' S) (k : Kept w' w'' T) (hs : ∀ b, b < w.heap.size → T b → S b) : Kept w w'' S :=
  ⟨k.os.trans h.os, k.tape.trans h.tape, k.output.trans h.output, Nat.le_trans h.size k.size,
    fun b hb hn => (k.block b (Nat.lt_of_lt_of_le hb h.size) (fun ht => hn (hs b hb ht))).trans (h.block b hb hn)⟩
theorem Kept.more (h : Kept w w' S) (hs : ∀ b, S b → T b) : Kept w w' T := ⟨h.os, h.tape, h.output, h.size, fun b hb hn => h.block b hb (fun x => hn (hs b x))⟩
theorem Kept.of_below {B : Nat} (h : Below B w w') (hB : w.heap.size ≤ B) (S : Nat → Prop) : Kept w w' S := ⟨h.os, h.tape, h.output, h.size, fun b hb _ => h.block b (by omega)⟩
theorem Kept.of_grown {o : Option Nat} (h : w.grownBy w' o) (hs : ∀ b, o = some b → S b) : Kept w w' S :=
  ⟨h.os, h.tape, h.output, h.size, fun b hb hn => h.block b hb (fun e => hn (hs b e.symm))⟩
theorem Kept.below {B : Nat} (h : Kept w w' S) (hB : ∀ b, S b → B ≤ b) (hs : B ≤ w.heap.size) : Below B w w' := ⟨h.os, h.tape, h.output, h.size, fun b hb => h.block b (by omega) (fun x => by have := hB b x; omega)⟩
theorem Kept.row {base : Nat} {e : TypeId} {size : Nat} {v : Value} {n : Nat} {xs : List Value} (h : Kept w w' S) (ho : w.ownsRow base e size v n xs) (hn : ∀ k, v.ownBlock = some k → ¬ S k) : w'.ownsRow base e size v n xs := by
  refine ⟨ho.1, ?_⟩
  rcases ho.2 with h0 | ⟨g, cap, cur, rfl, hb, hg, rest⟩
  · exact .inl h0
  · refine .inr ⟨g, cap, cur, rfl, hb, ?_, rest⟩
    rw [h.block g (Array.getElem?_eq_some_iff.1 hg).1 (hn g rfl)]
    exact hg
theorem Kept.own {g : Nat} {t : TypeId} {l : List Value} (h : Kept w w' S) (ho : Own w g t l) (hn : ¬ S g) : Own w' g t l := (h.block g ho.inside hn).trans ho
theorem Kept.set_ (h : Kept w w' S) {g o : Nat} (hg : S g ∨ w.heap.size ≤ g) (u : Value) : Kept w (w'.setCell ⟨g, o, none⟩ u) S :=
  ⟨h.os, h.tape, h.output, by simpa using h.size, fun b hb hn => (Below.heap_setCell w' ⟨g, o, none⟩ u b (by intro e; dsimp only at e; subst e; rcases hg with h1 | h1; exact hn h1; omega)).trans (h.block b hb hn)⟩
theorem Kept.alloc (h : Kept w w' S) (o : Obj) : Kept w (w'.alloc o) S := ⟨h.os, h.tape, h.output, Nat.le_trans h.size (by simp), fun b hb hn => (Below.heap_alloc w' o b (Nat.lt_of_lt_of_le hb h.size)).trans (h.block b hb hn)⟩
theorem Kept.drew (h : Kept w w' S) : Kept w w'.drew S := ⟨h.os, h.tape, h.output, h.size, h.block⟩
end
/-- a row by the block in which it lies -/
theorem row_own {w : World} {base c n size : Nat} {e : TypeId} {A : Option Addr} {xs : List Value} (h : w.ownsRow base e size (.slice A n c) n xs) :
    (A = none ∧ n = 0 ∧ c = 0 ∧ xs = []) ∨ ∃ g cur, A = some ⟨g, 0, none⟩ ∧ base ≤ g ∧ Own w g e cur ∧ n ≤ c ∧ c ≤ maxLen ∧ cur.length = c * size ∧ cur.take (n * size) = xs := by
  rcases h.2 with ⟨h0, h1⟩ | ⟨g, cap, cur, hv, hb, hg, h1, h2, h3, h4⟩
  · simp only [Value.slice.injEq] at h0
    refine .inl ⟨h0.1, h1, h0.2.2, ?_⟩
    have := h.1
    rw [h1] at this
    exact List.length_eq_zero_iff.1 (by omega)
  · simp only [Value.slice.injEq] at hv
    obtain ⟨rfl, _, rfl⟩ := hv
    exact .inr ⟨g, cur.toList, rfl, hb, by unfold Own; simpa using hg, h1, h2, by simpa using h3, h4⟩
theorem own_to_row {w : World} {base g c n size : Nat} {e : TypeId} {cur : List Value} (h : Own w g e cur) (hb : base ≤ g) (hn : n ≤ c) (hm : c ≤ maxLen) (hl : cur.length = c * size) :
    w.ownsRow base e size (.slice (some ⟨g, 0, none⟩) n c) n (cur.take (n * size)) :=
  ⟨by rw [List.length_take, hl]; exact Nat.min_eq_left (Nat.mul_le_mul_right _ hn), .inr ⟨g, c, cur.toArray, rfl, hb, h, hn, hm, by simpa using hl, by simp⟩⟩
/-- 'copy' into a block of the call's own -/
theorem run_copy_into {P : Program} (w : World) (dT sT ty elem : TypeId) (g o dLen dCap : Nat) (a : Addr) (sLen sCap k : Nat) (cur cs : List Value) (t : TypeId) (hu : P.underlying dT = some (.slice elem)) (hs : (P.info? elem).map (·.size) = some k)
    (hg : Own w g t cur) (hn : cs.length = Nat.min sLen dLen * k) (hsrc : ∀ j v, cs[j]? = some v → w.cell? (a.add j) = some v) (hfit : o + cs.length ≤ cur.length) (h1 : ∀ v ∈ cs, v.oneCell' = true) :
    (Builtin.copy_ #[dT, sT] ty #[.slice (some ⟨g, o, none⟩) dLen dCap, .slice (some a) sLen sCap]).run P w = .ok (goInt (Nat.min sLen dLen)) (w.setRow g (splice cur o cs).toArray) := by
  have hl := run_loadCells_list (P := P) w a cs hsrc
  have hst := run_storeCells_at P g o t cs 0 cur.toArray w hg (by simpa using hfit) h1
  simp only [Nat.add_zero] at hst
  cases hq : P.info? elem with
  | none => simp [hq] at hs
  | some i =>
    have hi : i.size = k := by simpa [hq] using hs
    simp [Builtin.copy_, run_underlying hu, Builtin.lenOf, Builtin.firstCells, sizeOf, typeInfo, hq, hi, ← hn, hl, hst, splice]
/-- 'clear' of one element in a block of the call's own -/
theorem run_clear_one {P : Program} (w : World) (t e ty tt : TypeId) (z : Value) (ht : P.underlying t = some (.slice e)) (hv : ∀ w, (zeroValue e).run P w = .ok z w) (h1 : ∀ u ∈ z.cells.toList, u.oneCell' = true) (g o c : Nat) (cur : List Value) (hg : Own w g tt cur)
    (hfit : o + z.cells.size ≤ cur.length) :
    (Builtin.clear_ #[t] ty #[.slice (some ⟨g, o, none⟩) 1 c]).run P w = .ok (.tuple #[]) (w.setRow g (splice cur o z.cells.toList).toArray) := by
  have hz : (Builtin.zeroCells z.cells 1).toList = z.cells.toList := by
    unfold Builtin.zeroCells
    apply List.ext_getElem
    · simp
    · intro i h1 h2
      simp at h1 h2 ⊢
      rw [getElem!_pos z.cells (i % z.cells.size) (by rw [Nat.mod_eq_of_lt h1]; exact h1)]
      simp [Nat.mod_eq_of_lt h1]
  have hst := run_storeCells_at P g o tt z.cells.toList 0 cur.toArray w hg (by simpa using hfit) h1
  simp only [Nat.add_zero] at hst
  simp [Builtin.clear_, run_underlying ht, hv, hz, hst, splice]
/-- a builtin of two arguments whose run is known, as a step of a region that draws its order -/
theorem step_append_known {P : Program} {ops : Array Oper} {o : Oper} {a : Act} {w : World} {K : Act → World → Prop} {Q : Exit → Act → World → Prop} {E : Prop}
    (hg : o.guard = none) (d x : Operand) (dT sT : TypeId) (hop : o.op = Op.call { callee := Callee.builtin Builtin.append, args := #[d, x], argTypes := #[dT, sT] })
    (v u : Value) (hd : a.eval d = v) (hx : a.eval x = u) {v' : Value} {w' : World} (hr : (Builtin.append_ #[dT, sT] o.type #[v, u]).run P w = .ok v' w') (hK : K (a.put o.dst v') w') :
    if Region.wanted o (yielded ops a.tmps) = true then Oper.wp P o a w K Q else E := by
  have hw : Region.wanted o (yielded ops a.tmps) = true := by simp [Region.wanted, hg]
  rw [if_pos hw]
  unfold Oper.wp
  simp [execOp, hop, resolve, invoke, builtin, hd, hx, hr, Result.andThen]
  exact hK
theorem step_copy_known {P : Program} {ops : Array Oper} {o : Oper} {a : Act} {w : World} {K : Act → World → Prop} {Q : Exit → Act → World → Prop} {E : Prop}
    (hg : o.guard = none) (d x : Operand) (dT sT : TypeId) (hop : o.op = Op.call { callee := Callee.builtin Builtin.copy, args := #[d, x], argTypes := #[dT, sT] })
    (v u : Value) (hd : a.eval d = v) (hx : a.eval x = u) {v' : Value} {w' : World} (hr : (Builtin.copy_ #[dT, sT] o.type #[v, u]).run P w = .ok v' w') (hK : K (a.put o.dst v') w') :
    if Region.wanted o (yielded ops a.tmps) = true then Oper.wp P o a w K Q else E := by
  have hw : Region.wanted o (yielded ops a.tmps) = true := by simp [Region.wanted, hg]
  rw [if_pos hw]
  unfold Oper.wp
  simp [execOp, hop, resolve, invoke, builtin, hd, hx, hr, Result.andThen]
  exact hK
theorem list_append_known {P : Program} (w : World) {ops : Array Oper} {rest : List Oper} {o : Oper} {a : Act} {Q : Exit → Act → World → Prop} (hgd : o.guard = none) (d s : Operand) (t t' : TypeId)
    (ho : o.op = .call { callee := .builtin .append, args := #[d, s], argTypes := #[t, t'] }) (v u : Value) (hd : a.eval d = v) (hs : a.eval s = u) {v' : Value} {w' : World}
    (hr : (Builtin.append_ #[t, t'] o.type #[v, u]).run P w = .ok v' w') (h : wpList P ops Q rest (a.put o.dst v') w') : wpList P ops Q (o :: rest) a w := by
  refine wpList_plain hgd fun K hK => ?_
  unfold Oper.wp execOp
  simp only [ho, resolve, invoke, builtin, Sem.run_bind, Sem.run_pure, Result.andThen_ok, List.map_toArray, List.map_cons, List.map_nil, hd, hs, hr]
  exact hK _ _ h
theorem list_copy_known {P : Program} (w : World) {ops : Array Oper} {rest : List Oper} {o : Oper} {a : Act} {Q : Exit → Act → World → Prop} (hgd : o.guard = none) (d s : Operand) (t t' : TypeId)
    (ho : o.op = .call { callee := .builtin .copy, args := #[d, s], argTypes := #[t, t'] }) (v u : Value) (hd : a.eval d = v) (hs : a.eval s = u) {v' : Value} {w' : World}
    (hr : (Builtin.copy_ #[t, t'] o.type #[v, u]).run P w = .ok v' w') (h : wpList P ops Q rest (a.put o.dst v') w') : wpList P ops Q (o :: rest) a w := by
  refine wpList_plain hgd fun K hK => ?_
  unfold Oper.wp execOp
  simp only [ho, resolve, invoke, builtin, Sem.run_bind, Sem.run_pure, Result.andThen_ok, List.map_toArray, List.map_cons, List.map_nil, hd, hs, hr]
  exact hK _ _ h
theorem list_clear_known {P : Program} (w : World) {ops : Array Oper} {rest : List Oper} {o : Oper} {a : Act} {Q : Exit → Act → World → Prop} (hgd : o.guard = none) (d : Operand) (t : TypeId)
    (ho : o.op = .call { callee := .builtin .clear, args := #[d], argTypes := #[t] }) (v : Value) (hd : a.eval d = v) {v' : Value} {w' : World}
    (hr : (Builtin.clear_ #[t] o.type #[v]).run P w = .ok v' w') (h : wpList P ops Q rest (a.put o.dst v') w') : wpList P ops Q (o :: rest) a w := by
  refine wpList_plain hgd fun K hK => ?_
  unfold Oper.wp execOp
  simp only [ho, resolve, invoke, builtin, Sem.run_bind, Sem.run_pure, Result.andThen_ok, List.map_toArray, List.map_cons, List.map_nil, hd, hr]
  exact hK _ _ h
end Go.Proofs.Ytmddiiidofmklaa
namespace Go.Proofs.Ytmddiiidofmklaa
open Go Go.RowKit

/-- a file as it lies: its name, and the row of its parts -/
structure Vf where
  n : ByteArray
  A : Option Addr
  c : Nat
  ps : List ByteArray
instance : Inhabited Vf := ⟨⟨⟨#[]⟩, none, 0, []⟩⟩
namespace Vf
def pv (f : Vf) : Value := .slice f.A f.ps.length f.c
def cells (f : Vf) : List Value := [.string f.n, .slice f.A f.ps.length f.c]
def val (f : Vf) : Value := .agg #[.string f.n, .slice f.A f.ps.length f.c]
end Vf
theorem vf_one (f : Vf) : ∀ u ∈ f.cells, u.oneCell' = true := by
  intro u hu
  simp [Vf.cells] at hu
  rcases hu with rfl | rfl <;> rfl
theorem vfs_one (l : List Vf) : ∀ u ∈ l.flatMap Vf.cells, u.oneCell' = true := by
  intro u hu
  obtain ⟨f, _, hf⟩ := List.mem_flatMap.1 hu
  exact vf_one f u hf
def zeroVf : Value := .agg #[.string ⟨#[]⟩, .slice none 0 0]
theorem infoVf : (Try.prog.info? 76).map (fun i => (i.zero, i.size, i.bytes)) = some (some zeroVf, 2, 40) := by kernel_rfl
theorem zeroOfVf (w : World) : (zeroValue 76).run Try.prog w = .ok zeroVf w := by
  obtain ⟨i0, hi, hz0, _⟩ := info_parts infoVf
  simp [zeroValue, typeInfo, hi, hz0]

theorem splice_take {l : List Value} {o : Nat} {vs : List Value} (h : o ≤ l.length) : (splice l o vs).take o = l.take o := by
  unfold splice
  rw [List.append_assoc, List.take_append_of_le_length (by simp; omega), List.take_take]
  simp
set_option maxRecDepth 100000 in
set_option maxHeartbeats 1600000 in
theorem delete_own (g n c i j : Nat) (cur : List Value) (w : World) (ho : Own w g 76 cur) (hn : n ≤ c) (hm : c ≤ maxLen) (hl : cur.length = c * 2) (hij : j = i + 1) (hj : j ≤ n) (h1 : ∀ u ∈ cur.take (n * 2), u.oneCell' = true) :
    Calls Try.prog 53 #[.slice (some ⟨g, 0, none⟩) n c, .int .i64 (i : Int), .int .i64 (j : Int)] w fun e w' => e = .returned (.slice (some ⟨g, 0, none⟩) (n - 1) c) ∧
      ∃ cur', Own w' g 76 cur' ∧ cur'.length = c * 2 ∧ cur'.take ((n - 1) * 2) = (cur.take (n * 2)).take (i * 2) ++ (cur.take (n * 2)).drop (j * 2) ∧ w.grownBy w' (some g) := by
  obtain ⟨i0, hi0, hz0, hz1, hz2⟩ := info_parts infoVf
  have hU := Try.underlying47
  unfold maxLen at hm
  obtain ⟨news, hnews⟩ : ∃ news, news = (cur.take (n * 2)).drop (j * 2) := ⟨_, rfl⟩
  have hlen : news.length = (n - j) * 2 := by rw [hnews]; simp; omega
  have ho1 : ∀ j, w.cell? ⟨g, j, none⟩ = cur[j]? := ho.at_
  obtain ⟨A, hA, hsrc⟩ : ∃ A : Addr, (if c = j then some (⟨g, 0, none⟩ : Addr) else some ⟨g, j * 2, none⟩) = some A ∧ Hid (∀ t u, news[t]? = some u → w.drew.cell? (A.add t) = some u) := by
    by_cases h : c = j
    · refine ⟨⟨g, 0, none⟩, by simp [h], Lib.hid (fun t u hu => ?_)⟩
      have h0 : news.length = 0 := by rw [hlen]; omega
      rw [List.length_eq_zero_iff.1 h0] at hu
      simp at hu
    · refine ⟨⟨g, j * 2, none⟩, by simp [h], Lib.hid (fun t u hu => ?_)⟩
      have ht : t < (n - j) * 2 := by
        have := (List.getElem?_eq_some_iff.1 hu).1
        rwa [hlen] at this
      have ea : (⟨g, j * 2, none⟩ : Addr).add t = ⟨g, j * 2 + t, none⟩ := by unfold Addr.add; split <;> simp_all
      rw [ea]
      show w.cell? _ = _
      rw [ho1]
      rw [hnews, List.getElem?_drop, List.getElem?_take] at hu
      split at hu
      · exact hu
      · cases hu
  have hone : ∀ u ∈ news, u.oneCell' = true := fun u hu => h1 u (by rw [hnews] at hu; exact List.mem_of_mem_drop hu)
  have happ : ∀ ty sc, Hid ((Builtin.append_ #[47, 47] ty #[.slice (some ⟨g, 0, none⟩) i c, .slice (some A) (n - j) sc]).run Try.prog w.drew = .ok (.slice (some ⟨g, 0, none⟩) (i + (n - j)) c) (w.drew.setRow g (splice cur (i * 2) news).toArray)) := fun ty sc => by
    have hl2 : news.length = (n - j) * i0.size := by rw [hlen, hz1]
    have hfit : i * i0.size + news.length ≤ cur.toArray.size := by rw [hz1, hlen]; simp; omega
    have hroom : i + (n - j) ≤ c := by omega
    have := run_append_room (P := Try.prog) w.drew 47 ty 76 i0 hU hi0 g i c cur.toArray ho A (n - j) sc news hl2 hsrc.out hone hroom hfit
    rw [hz1] at this
    exact Lib.hid (by simpa [splice] using this)
  obtain ⟨W1, hW1⟩ : ∃ W1, W1 = w.drew.setRow g (splice cur (i * 2) news).toArray := ⟨_, rfl⟩
  rw [← hW1] at happ
  have oW1 : Own W1 g 76 (splice cur (i * 2) news) := by rw [hW1]; exact own_row (w := w.drew) ho
  have hs1 : (splice cur (i * 2) news).length = cur.length := splice_len (by rw [hlen, hl]; omega)
  have hclr := fun ty cc => Lib.hid (run_clear_one (P := Try.prog) W1 47 76 ty 76 zeroVf hU zeroOfVf (by intro u hu; simp [zeroVf, Value.cells] at hu; rcases hu with rfl | rfl <;> rfl) g ((i + (n - j)) * 2) cc _ oW1 (by rw [hs1, hl]; simp [zeroVf, Value.cells]; omega))
  have HW := Lib.hid hW1
  have HO := Lib.hid oW1
  have hA2 := Lib.hid hA
  have q1 : n - (i + (n - j)) = 1 := by omega
  have q2 : i + (n - j) = n - 1 := by omega
  rw [q2] at hclr
  have hic : i ≤ c := by omega
  have hin : i ≤ n := by omega
  have hjc : j ≤ c := by omega
  have hlt : i < j := by omega
  have HJ := Lib.hid hij
  clear hW1 oW1 hsrc ho1 hij
  go_enter Try.func53, Try.ntmps53
  go_wp2_with fail
  go_region_law (refine step_append_known rfl (.tmp 22) (.tmp 25) 47 47 rfl (.slice (some ⟨g, 0, none⟩) i c) (.slice (some A) (n - j) (c - j)) (by simp [Act.eval, Act.put]) (by simp [Act.eval, Act.put]) (happ _ _).out ?_)
  have hn1 : (i : Int) + ((n - j : Nat) : Int) = ((n - 1 : Nat) : Int) := by have := HJ.out; omega
  have hq1 : n - (n - 1) = 1 := by omega
  obtain ⟨W2, hW2⟩ : ∃ W2, W2 = W1.setRow g (splice (splice cur (i * 2) news) ((n - 1) * 2) zeroVf.cells.toList).toArray := ⟨_, rfl⟩
  have hcl2 : ∀ ty, (Builtin.clear_ #[47] ty #[.slice (some ⟨g, (n - 1) * 2, none⟩) (n - (n - 1)) (c - (n - 1))]).run Try.prog W1 = .ok (.tuple #[]) W2 := fun ty => by rw [hq1, hW2]; exact (hclr ty _).out
  have HW2 := Lib.hid hW2
  clear hW2 hq1
  go_wp2_with fail
  go_ret
  have hsp := HO.out
  rw [HW2.out]
  refine ⟨rfl, _, own_row HO.out, ?_, ?_, ?_⟩
  · rw [splice_len (by rw [hs1, hl]; simp [zeroVf, Value.cells]; omega), hs1, hl]
  · have e1 : (splice (splice cur (i * 2) news) ((n - 1) * 2) zeroVf.cells.toList).take ((n - 1) * 2) = (splice cur (i * 2) news).take ((n - 1) * 2) := splice_take (by rw [hs1, hl]; omega)
    have e2 : (splice cur (i * 2) news).take ((n - 1) * 2) = cur.take (i * 2) ++ news := by
      have h3 : (cur.take (i * 2) ++ news).length = (n - 1) * 2 := by rw [List.length_append, List.length_take, hlen]; have := HJ.out; omega
      unfold splice
      rw [← h3, List.take_left']
      rfl
    rw [e1, e2, hnews, List.take_take]
    congr 2
    omega
  · rw [HW.out]
    exact ⟨rfl, rfl, rfl, by simp, fun k _ hk => (row_other (fun e => hk (by rw [e]))).trans (row_other (w := w.drew) (fun e => hk (by rw [e])))⟩
/-- .. as rows -/
theorem delete_any (base n c i : Nat) (A : Option Addr) (xs : List Value) (w : World) (ho : w.ownsRow base 76 2 (.slice A n c) n xs) (hi : i < n) (h1 : ∀ u ∈ xs, u.oneCell' = true) :
    Calls Try.prog 53 #[.slice A n c, .int .i64 (i : Int), .int .i64 ((i : Int) + 1)] w fun e w' => e = .returned (.slice A (n - 1) c) ∧
      w'.ownsRow base 76 2 (.slice A (n - 1) c) (n - 1) (xs.take (i * 2) ++ xs.drop ((i + 1) * 2)) ∧ w.grownBy w' (Value.slice A n c).ownBlock := by
  rcases row_own ho with ⟨_, h0, _⟩ | ⟨g, cur, rfl, hb, hg, hn, hm, hl, rfl⟩
  · omega
  · have := delete_own g n c i (i + 1) cur w hg hn hm hl rfl (by omega) h1
    rw [show ((i + 1 : Nat) : Int) = (i : Int) + 1 by omega] at this
    refine this.mono ?_
    rintro e w' ⟨rfl, cur', o', l', t', g'⟩
    exact ⟨rfl, by rw [← t']; exact own_to_row o' hb (by omega) hm l', g'⟩
end Go.Proofs.Ytmddiiidofmklaa
namespace Go.Proofs.Ytmddiiidofmklaa
open Go Go.RowKit

def namesV (l : List Vf) : List ByteArray := l.map Vf.n
theorem kcmp_any (a b : ByteArray) (w : World) :
    Calls Try.prog 48 #[.string a, .string b] w fun e w' => e = .returned (.int .i64 (cmpN a b)) ∧ w = w' :=
  (Try.strings_Compare a b w).mono fun _ _ ⟨h, k⟩ => ⟨h, k.symm⟩
set_option maxRecDepth 100000 in
set_option maxHeartbeats 400000 in
/-- the closure that compares -/
theorem fcmp_any (f : Vf) (n : ByteArray) (w : World) :
    Calls Try.prog 47 #[f.val, .string n] w fun e w' => e = .returned (.int .i64 (cmpN f.n n)) ∧ Below w.heap.size w w' := by
  unfold Vf.val
  go_enter Try.func47, Try.ntmps47
  go_wp2_with fail
  refine (kcmp_any _ _ _).mono ?_
  rintro e w1 ⟨rfl, rfl⟩
  go_wp2_with fail
  go_ret
  exact ⟨rfl, (Below.refl _ _).alloc (Nat.le_refl _) _⟩
/-- a row of files, and what it holds at a place -/
theorem vf_at {w : World} {base : Nat} {A : Option Addr} {c : Nat} {l : List Vf} (ho : w.ownsRow base 76 2 (.slice A l.length c) l.length (l.flatMap Vf.cells)) {i : Nat} {f : Vf} (hi : l[i]? = some f) :
    ∃ g, A = some ⟨g, 0, none⟩ ∧ w.cell? ⟨g, i * 2, none⟩ = some (.string f.n) ∧ w.cell? ⟨g, i * 2 + 1, none⟩ = some (.slice f.A f.ps.length f.c) ∧ g < w.heap.size := by
  have hlt := (List.getElem?_eq_some_iff.1 hi).1
  rcases row_own ho with ⟨_, h0, _⟩ | ⟨g, cur, rfl, hb, hg, hn, hm, hl, ht⟩
  · omega
  · have h0 := flat_of (cells := Vf.cells) (size := 2) (fun _ => rfl) l i 0 f (.string f.n) hi rfl
    have h1 := flat_of (cells := Vf.cells) (size := 2) (fun _ => rfl) l i 1 f (.slice f.A f.ps.length f.c) hi rfl
    rw [← ht, List.getElem?_take] at h0 h1
    have e0 : i * 2 + 0 < l.length * 2 := by omega
    have e1 : i * 2 + 1 < l.length * 2 := by omega
    rw [if_pos e0] at h0
    rw [if_pos e1] at h1
    exact ⟨g, rfl, by rw [hg.at_]; exact h0, by rw [hg.at_]; exact h1, hg.inside⟩
theorem names_at {l : List Vf} {i : Nat} {f : Vf} (h : l[i]? = some f) : (namesV l)[i]? = some f.n := by unfold namesV; rw [List.getElem?_map, h]; rfl
theorem half {i j : Nat} (h : i < j) (hb : j ≤ 4611686018427387904) : (((i : Int) + (j : Int)).toNat : Nat) / 2 = (i + j) / 2 ∧ i ≤ (i + j) / 2 ∧ (i + j) / 2 < j := by omega
set_option maxRecDepth 100000 in
set_option maxHeartbeats 1600000 in
theorem search_any (base : Nat) (A : Option Addr) (c : Nat) (l : List Vf) (n : ByteArray) (w : World) (ho : w.ownsRow base 76 2 (.slice A l.length c) l.length (l.flatMap Vf.cells)) (hs : SortedN (namesV l)) (hn : l.length ≤ 4611686018427387904) :
    Calls Try.prog 46 #[.slice A l.length c, .string n, .func (.func 47) #[] #[]] w fun e w' =>
      e = .returned (.tuple #[.int .i64 (posN (namesV l) n : Int), .bool (hasN (namesV l) n)]) ∧ Below w.heap.size w w' := by
  have hat := Lib.hid (posN_at (n := n) hs)
  have hle := Lib.hid (posN_le (namesV l) n)
  have hlen : (namesV l).length = l.length := by simp [namesV]
  have HO := Lib.hid ho
  have HN := Lib.hid (And.intro hs hlen)
  clear ho hs
  go_enter Try.func46, Try.ntmps46
  go_wp2_with fail
  go_loopw [9, 10] (fun i j wr => ∃ a b : Nat, i = .int .i64 (a : Int) ∧ j = .int .i64 (b : Int) ∧ a ≤ b ∧ b ≤ l.length ∧ a ≤ posN (namesV l) n ∧ posN (namesV l) n ≤ b ∧ Below w.heap.size w wr) (fun i j _ => (intOf j - intOf i).toNat)
  case atStart => exact ⟨0, l.length, rfl, rfl, by omega, by omega, by omega, by rw [← hlen]; exact hle.out, Below.refl _ _⟩
  case round =>
    obtain ⟨a, b, rfl, rfl, hab, hbl, hap, hpb, hb⟩ := hrel
    by_cases hlt : a < b
    · have hh : (a + b) / 2 < l.length := by omega
      have hx : l[(a + b) / 2]? = some l[(a + b) / 2] := List.getElem?_eq_getElem hh
      have hord := Lib.hid (hat.out _ _ (names_at hx))
      obtain ⟨g, rfl, c0, c1, hg⟩ := vf_at HO.out hx
      have d0 := (hb.cell (p := ⟨g, (a + b) / 2 * 2, none⟩) hg).trans c0
      have d1 := (hb.cell (p := ⟨g, (a + b) / 2 * 2 + 1, none⟩) hg).trans c1
      generalize l[(a + b) / 2] = f at *
      have hy := fun W => Lib.hid (fcmp_any f n W)
      unfold Vf.val at hy
      clear c0 c1
      have HB := Lib.hid (And.intro hb (And.intro hap hpb))
      clear hb hap hpb
      by_cases hz : cmpN f.n n < 0
      · go_wp2_with fail
        refine (hy _).out.mono ?_
        rintro e w1 ⟨rfl, b1⟩
        go_wp2_with fail
        go_roundw
        case rel =>
          have := hord.out.2 hz
          exact ⟨(a + b) / 2 + 1, b, by rw [show ((a : Int) + (b : Int)) / 2 + 1 = (((a + b) / 2 + 1 : Nat) : Int) by omega], rfl, by omega, by omega, by omega, HB.out.2.2, HB.out.1.trans (b1.mono HB.out.1.size)⟩
        case measure => simp [intOf]; omega
      · go_wp2_with fail
        refine (hy _).out.mono ?_
        rintro e w1 ⟨rfl, b1⟩
        go_wp2_with fail
        go_roundw
        case rel =>
          have h2 : ¬ (a + b) / 2 < posN (namesV l) n := fun h => by have := hord.out.1 h; omega
          exact ⟨a, (a + b) / 2, rfl, by rw [show ((a : Int) + (b : Int)) / 2 = (((a + b) / 2 : Nat) : Int) by omega], by omega, by omega, HB.out.2.1, by omega, HB.out.1.trans (b1.mono HB.out.1.size)⟩
        case measure => simp [intOf]; omega
    · obtain rfl : b = a := by omega
      have ep : posN (namesV l) n = b := by omega
      have EP := Lib.hid ep
      have HB := Lib.hid hb
      clear hap hpb hb ep
      by_cases hin : b < l.length
      · have hx : l[b]? = some l[b] := List.getElem?_eq_getElem hin
        obtain ⟨g, rfl, c0, c1, hg⟩ := vf_at HO.out hx
        have d0 := (HB.out.cell (p := ⟨g, b * 2, none⟩) hg).trans c0
        have d1 := (HB.out.cell (p := ⟨g, b * 2 + 1, none⟩) hg).trans c1
        have hnm := Lib.hid (names_at hx)
        generalize l[b] = f at *
        have hy := fun W => Lib.hid (fcmp_any f n W)
        unfold Vf.val at hy
        clear c0 c1
        have hres : Hid (hasN (namesV l) n = decide (cmpN f.n n = 0)) := by
          refine Lib.hid ?_
          by_cases hq : f.n = n
          · have := hnm.out
            rw [hq] at this
            rw [hasN_mem.2 (List.mem_of_getElem? this), cmpN_zero.2 hq]; rfl
          · have h1 : cmpN f.n n ≠ 0 := fun h => hq (cmpN_zero.1 h)
            rw [decide_eq_false h1]
            cases hh : hasN (namesV l) n
            · rfl
            · have := posN_has HN.out.1 hh
              rw [EP.out, hnm.out] at this
              exact absurd (Option.some.inj this) hq
        generalize cmpN f.n n = r at *
        go_wp2_with fail
        refine (hy _).out.mono ?_
        rintro e w1 ⟨rfl, b1⟩
        go_wp2_with fail
        go_ret2
        refine ⟨?_, HB.out.trans (b1.mono HB.out.size)⟩
        rw [EP.out, hres.out]
        rfl
      · have hf : Hid (hasN (namesV l) n = false) := by
          refine Lib.hid ?_
          cases hh : hasN (namesV l) n
          · rfl
          · have := posN_has HN.out.1 hh
            rw [EP.out] at this
            have := (List.getElem?_eq_some_iff.1 this).1
            omega
        go_wp2_with fail
        go_ret2
        refine ⟨?_, HB.out⟩
        rw [EP.out, hf.out]
        rfl
set_option maxRecDepth 100000 in
set_option maxHeartbeats 800000 in
/-- find: the struct lies at cell o of block G -/
theorem find_any (G o base : Nat) (t : TypeId) (cs : List Value) (A : Option Addr) (c : Nat) (l : List Vf) (n : ByteArray) (w : World) (hG : Own w G t cs) (h0 : cs[o]? = some (.slice A l.length c)) (ho : w.ownsRow base 76 2 (.slice A l.length c) l.length (l.flatMap Vf.cells)) (hs : SortedN (namesV l)) (hn : l.length ≤ 4611686018427387904) :
    Calls Try.prog 37 #[.pointer (some ⟨G, o, none⟩), .string n] w fun e w' =>
      e = .returned (.tuple #[.int .i64 (posN (namesV l) n : Int), .bool (hasN (namesV l) n)]) ∧ Below w.heap.size w w' := by
  have c0 : w.cell? ⟨G, o, none⟩ = some (.slice A l.length c) := by rw [hG.at_]; exact h0
  have hy := fun W h => Lib.hid (search_any base A c l n W h hs hn)
  have HO := Lib.hid ho
  clear ho hG h0
  go_enter Try.func37, Try.ntmps37
  go_wp2_with fail
  refine (hy _ HO.out).out.mono ?_
  rintro e w1 ⟨rfl, b1⟩
  go_wp2_with fail
  go_ret2
  exact ⟨rfl, b1⟩
set_option maxRecDepth 100000 in
set_option maxHeartbeats 800000 in
theorem has_any (G o base : Nat) (t : TypeId) (cs : List Value) (A : Option Addr) (c : Nat) (l : List Vf) (n : ByteArray) (w : World) (hG : Own w G t cs) (h0 : cs[o]? = some (.slice A l.length c)) (ho : w.ownsRow base 76 2 (.slice A l.length c) l.length (l.flatMap Vf.cells)) (hs : SortedN (namesV l)) (hn : l.length ≤ 4611686018427387904) :
    Calls Try.prog 31 #[.pointer (some ⟨G, o, none⟩), .string n] w fun e w' => e = .returned (.bool (hasN (namesV l) n)) ∧ Below w.heap.size w w' := by
  have hy := Lib.hid (find_any G o base t cs A c l n w hG h0 ho hs hn)
  clear hG h0 ho hs
  generalize posN (namesV l) n = p at *
  generalize hasN (namesV l) n = h at *
  go_enter Try.func31, Try.ntmps31
  go_wp2_with fail
  refine hy.out.mono ?_
  rintro e w1 ⟨rfl, b1⟩
  go_wp2_with fail
  go_ret
  exact ⟨rfl, b1⟩
set_option maxRecDepth 100000 in
set_option maxHeartbeats 800000 in
theorem many_any (G o : Nat) (t : TypeId) (cs : List Value) (A : Option Addr) (c n : Nat) (w : World) (hG : Own w G t cs) (h0 : cs[o]? = some (.slice A n c)) :
    Calls Try.prog 33 #[.pointer (some ⟨G, o, none⟩)] w fun e w' => e = .returned (.bool (decide ((256 : Int) < (n : Int)))) ∧ w = w' := by
  have c0 : w.cell? ⟨G, o, none⟩ = some (.slice A n c) := by rw [hG.at_]; exact h0
  clear hG h0
  go_enter Try.func33, Try.ntmps33
  go_wp2_with fail
  go_ret
  exact ⟨rfl, rfl⟩
end Go.Proofs.Ytmddiiidofmklaa
namespace Go.Proofs.Ytmddiiidofmklaa
open Go Go.RowKit

def catB (ps : List ByteArray) : ByteArray := ⟨(ps.flatMap (fun p => p.data.toList)).toArray⟩
theorem catB_nil : catB [] = ⟨#[]⟩ := rfl
theorem catB_more (ps : List ByteArray) (d : ByteArray) : catB (ps ++ [d]) = catB ps ++ d := by
  apply str_ext; simp [catB]
theorem catB_size (ps : List ByteArray) : (catB ps).size = (ps.map ByteArray.size).sum := by
  unfold catB
  rw [sizeL]
  induction ps with
  | nil => rfl
  | cons p ps ih => rw [List.flatMap_cons, List.length_append, ih, List.map_cons, List.sum_cons, len_of]
theorem join_cat (ps : List ByteArray) : Lib.join (ps.map (·.data.toList)) [] = ps.flatMap (fun p => p.data.toList) := by
  have h : ∀ xs : List (List UInt8), Lib.join xs [] = xs.flatten := fun xs => by
    cases xs with
    | nil => rfl
    | cons x r =>
      rw [Lib.join_cons]
      unfold Lib.joinTail
      simp
  rw [h, List.flatMap_def]
def Parts (w : World) (base : Nat) (f : Vf) : Prop := w.ownsRow base 9 1 (.slice f.A f.ps.length f.c) f.ps.length (f.ps.map Value.string)
theorem parts_at {w : World} {base : Nat} {f : Vf} (h : Parts w base f) (h0 : 0 < f.ps.length) : ∃ g, f.A = some ⟨g, 0, none⟩ ∧ g < w.heap.size ∧ f.ps.length ≤ f.c ∧ ∀ (j : Nat) x, f.ps[j]? = some x → w.cell? ⟨g, j, none⟩ = some (.string x) := by
  rcases row_own h with ⟨_, h1, _⟩ | ⟨g, cur, e, hb, hg, hn, hm, hl, ht⟩
  · omega
  · refine ⟨g, e, hg.inside, hn, fun j x hx => ?_⟩
    rw [hg.at_]
    have hlt := (List.getElem?_eq_some_iff.1 hx).1
    have h2 : (f.ps.map Value.string)[j]? = some (.string x) := by rw [List.getElem?_map, hx]; rfl
    rw [← ht, List.getElem?_take] at h2
    rw [if_pos (by omega)] at h2
    exact h2
set_option maxRecDepth 100000 in
set_option maxHeartbeats 800000 in
theorem data_any (base : Nat) (f : Vf) (w : World) (hp : Parts w base f) (hn : f.ps.length ≤ 140737488355328) (hs : (catB f.ps).size ≤ 140737488355328) :
    Calls Try.prog 34 #[f.val] w fun e w' => e = .returned (.string (catB f.ps)) ∧ Below w.heap.size w w' := by
  obtain ⟨V, hV⟩ : ∃ V, V = w.alloc (.cells #[.string f.n, .slice f.A f.ps.length f.c] 76) := ⟨_, rfl⟩
  have hVb : Below w.heap.size w V := by rw [hV]; exact (Below.refl _ _).alloc (Nat.le_refl _) _
  have hy : Hid (Calls Try.prog 26 #[.slice f.A f.ps.length f.c, .string ⟨#[]⟩] V fun e w' => e = .returned (.string (catB f.ps)) ∧ Below V.heap.size V w') := by
    by_cases h0 : 0 < f.ps.length
    · obtain ⟨g, hA, hg, hc, hat⟩ := parts_at hp h0
      rw [hA]
      have hl : (Lib.join (f.ps.map (·.data.toList)) []).length ≤ 140737488355328 := by
        rw [join_cat]; unfold catB at hs; rw [sizeL] at hs; exact hs
      refine Lib.hid ((Try.strings_Join g 0 f.c f.ps ⟨#[]⟩ V (fun j x hx => ?_) (Nat.lt_of_lt_of_le hg hVb.size) hn hc hl).mono ?_)
      · rw [Nat.zero_add]; exact (hVb.cell (p := ⟨g, j, none⟩) hg).trans (hat j x hx)
      · rintro e w' ⟨rfl, h⟩
        refine ⟨?_, h⟩
        have : (Lib.join (f.ps.map (·.data.toList)) ([] : List UInt8)).toArray = (f.ps.flatMap (fun p => p.data.toList)).toArray := by rw [join_cat]
        show Ending.returned (Value.string ⟨(Lib.join (f.ps.map (·.data.toList)) ([] : List UInt8)).toArray⟩) = _
        rw [this]; rfl
    · have hz : f.ps = [] := List.length_eq_zero_iff.1 (by omega)
      rw [hz]
      exact Lib.hid ((Try.strings_Join_none f.A f.c ⟨#[]⟩ V).mono fun e w' ⟨h1, h2⟩ => ⟨h1, by rw [h2]; exact Below.refl _ _⟩)
  have HB := Lib.hid hVb
  unfold Vf.val
  clear hp hVb
  go_enter Try.func34, Try.ntmps34
  go_wp2_with fail
  rw [← hV]
  clear hV
  refine hy.out.mono ?_
  rintro e w1 ⟨rfl, b1⟩
  go_wp2_with fail
  go_ret
  exact ⟨rfl, HB.out.trans (b1.mono HB.out.size)⟩
theorem sum_take {ps : List ByteArray} {k : Nat} {x : ByteArray} (h : ps[k]? = some x) : ((ps.take (k + 1)).map ByteArray.size).sum = ((ps.take k).map ByteArray.size).sum + x.size := by
  rw [List.take_add_one, h]
  simp
theorem sum_take_le (ps : List ByteArray) (k : Nat) : ((ps.take k).map ByteArray.size).sum ≤ (ps.map ByteArray.size).sum := by
  have : ps.map ByteArray.size = (ps.take k).map ByteArray.size ++ (ps.drop k).map ByteArray.size := by rw [← List.map_append, List.take_append_drop]
  rw [this, List.sum_append]; omega
set_option maxRecDepth 100000 in
set_option maxHeartbeats 800000 in
theorem size_any (base : Nat) (f : Vf) (w : World) (hp : Parts w base f) (hn : f.ps.length ≤ 140737488355328) (hs : (catB f.ps).size ≤ 140737488355328) :
    Calls Try.prog 50 #[f.val] w fun e w' => e = .returned (.int .i64 ((catB f.ps).size : Int)) ∧ Below w.heap.size w w' := by
  obtain ⟨V, hV⟩ : ∃ V, V = w.alloc (.cells #[.string f.n, .slice f.A f.ps.length f.c] 76) := ⟨_, rfl⟩
  have hVb : Below w.heap.size w V := by rw [hV]; exact (Below.refl _ _).alloc (Nat.le_refl _) _
  have hat : Hid (∀ (j : Nat) x, f.ps[j]? = some x → ∃ g, f.A = some ⟨g, 0, none⟩ ∧ V.cell? ⟨g, j, none⟩ = some (.string x)) := by
    refine Lib.hid (fun j x hx => ?_)
    obtain ⟨g, hA, hg, hc, hat⟩ := parts_at hp (by have := (List.getElem?_eq_some_iff.1 hx).1; omega)
    exact ⟨g, hA, (hVb.cell (p := ⟨g, j, none⟩) hg).trans (hat j x hx)⟩
  have HB := Lib.hid hVb
  rw [catB_size] at hs ⊢
  unfold Vf.val
  clear hp hVb
  go_enter Try.func50, Try.ntmps50
  go_wp2_with fail
  rw [← hV]
  clear hV
  go_loopw [3, 9] (fun s i wr => ∃ k : Nat, i = .int .i64 (k : Int) ∧ k ≤ f.ps.length ∧ s = .int .i64 (((f.ps.take k).map ByteArray.size).sum : Int) ∧ V = wr) (fun _ i _ => f.ps.length - (intOf i).toNat)
  case atStart => exact ⟨0, rfl, by omega, rfl, rfl⟩
  case round =>
    obtain ⟨k, rfl, hk, rfl, rfl⟩ := hrel
    by_cases hlt : k < f.ps.length
    · have hx : f.ps[k]? = some f.ps[k] := List.getElem?_eq_getElem hlt
      obtain ⟨g, hA, hc⟩ := hat.out k _ hx
      have hs1 := sum_take hx
      have hs2 := sum_take_le f.ps (k + 1)
      rw [hs1] at hs2
      generalize f.ps[k] = x at *
      rw [hA]
      generalize ((f.ps.take k).map ByteArray.size).sum = S at *
      have HS := Lib.hid hs1
      have hw : IntKind.i64.wrap ((S : Int) + (x.size : Int)) = (S : Int) + (x.size : Int) := by rw [IntKind.wrap_i64]; omega
      clear hs1 hx hs2 hs
      go_wp2_with fail
      go_roundw
      case rel => exact ⟨k + 1, by go_num, by omega, by rw [HS.out]; simp, trivial⟩
      case measure => simp [intOf]; omega
    · have hk2 : k = f.ps.length := by omega
      subst hk2
      rw [List.take_length]
      go_wp2_with fail
      go_ret
      exact ⟨rfl, HB.out⟩
end Go.Proofs.Ytmddiiidofmklaa
namespace Go.Proofs.Ytmddiiidofmklaa
open Go Go.RowKit

theorem growslice_ok {n c : Nat} (h : c < n) (hb : n * 40 ≤ 140737488355328) : Builtin.nextslicecap n c * 40 ≤ 281474976710656 := growslice_fits h hb
set_option maxRecDepth 100000 in
set_option maxHeartbeats 1600000 in
theorem insert_end (base n c vb : Nat) (A : Option Addr) (xs : List Value) (f : Vf) (w : World) (ho : w.ownsRow base 76 2 (.slice A n c) n xs) (hv : Own w vb 76 f.cells) (hn : (n + 1) * 40 ≤ 140737488355328) (hbase : base ≤ w.heap.size) :
    Calls Try.prog 49 #[.slice A n c, .int .i64 (n : Int), .slice (some ⟨vb, 0, none⟩) 1 1] w fun e w' => ∃ v', e = .returned v' ∧
      w'.ownsRow base 76 2 v' (n + 1) (xs ++ f.cells) ∧ w.grownBy w' (Value.slice A n c).ownBlock ∧ (v'.ownBlock = (Value.slice A n c).ownBlock ∨ v'.ownBlock = some w.heap.size) := by
  obtain ⟨i0, hi, hz0, hz1, hz2⟩ := info_parts infoVf
  have hU := Try.underlying47
  have hl : Lies 2 Vf.cells w w.heap.size (some ⟨vb, 0, none⟩) [f] := fun _ => by
    refine ⟨vb, 0, rfl, hv.inside, fun i x hx j u hu => ?_⟩
    match i, hx with
    | 0, hx =>
      obtain rfl : f = x := by simpa using hx
      rw [show 0 + 0 * 2 + j = j by omega, hv.at_ j]
      exact hu
  have hnews : ∀ j u, (Vf.cells f)[j]? = some u → w.cell? ((⟨vb, 0, none⟩ : Addr).add j) = some u := fun j u hu => by
    have ea : (⟨vb, 0, none⟩ : Addr).add j = ⟨vb, j, none⟩ := by unfold Addr.add; split <;> simp_all
    rw [ea, hv.at_ j]; exact hu
  obtain ⟨v', w', hrun, h2, h3, _, h5⟩ := run_append_own_at (P := Try.prog) w base 47 47 76 i0 _ 2 40 hU hi hz0 hz1 hz2 rfl (by decide) (.slice A n c) n xs ho ⟨vb, 0, none⟩ 1 1 f.cells rfl hnews (vf_one f) (by unfold maxLen; omega) hn hbase
  have hr2 : ∀ ty, Hid ((Builtin.append_ #[47, 47] ty #[.slice A n c, .slice (some ⟨vb, 0, none⟩) 1 1]).run Try.prog w = .ok v' w') := fun _ => Lib.hid hrun
  have HX := Lib.hid (And.intro h2 (And.intro h3 h5))
  clear hrun h2 h3 h5 hnews hl
  have hnc : n ≤ c := by
    rcases row_own ho with ⟨_, h0, _⟩ | ⟨g, cur, _, _, _, h0, _⟩ <;> omega
  clear ho hv
  rcases A with _ | ⟨ab, ao, asp⟩
  all_goals
    go_enter Try.func49, Try.ntmps49
    go_wp2_with (at_builtin; refine list_append_known _ rfl (.tmp 23) (.tmp 24) 47 47 rfl _ _ rfl rfl (hr2 _).out ?_)
    all_goals
      go_ret
      exact ⟨_, rfl, HX.out.1, HX.out.2.1, HX.out.2.2⟩
theorem own_drew {w : World} {g : Nat} {t : TypeId} {l : List Value} (h : Own w g t l) : Own w.drew g t l := h
/-- no room: a new row -/
theorem splice_parts {A B C vs : List Value} {o : Nat} (ho : A.length = o) (hb : B.length = vs.length) : splice (A ++ (B ++ C)) o vs = A ++ (vs ++ C) := by
  subst ho
  unfold splice
  rw [List.take_left' rfl, List.append_assoc, List.append_cancel_left_eq, List.append_cancel_left_eq, ← hb, ← List.append_assoc, ← List.length_append, List.drop_left' rfl]
theorem splice3 {l news rest z : List Value} {i n : Nat} (hl : l.length = n * 2) (hi : i < n) (hn : news.length = 2) (hz : z.length = (n + 1 - i) * 2) :
    (splice (splice (l.take (i * 2) ++ z ++ rest) (i * 2) news) ((i + 1) * 2) (l.drop (i * 2))).take ((n + 1) * 2) = l.take (i * 2) ++ news ++ l.drop (i * 2) := by
  have h1 : (l.take (i * 2)).length = i * 2 := by rw [List.length_take]; omega
  have hz2 : z = z.take 2 ++ z.drop 2 := (List.take_append_drop 2 z).symm
  have e1 : splice (l.take (i * 2) ++ z ++ rest) (i * 2) news = l.take (i * 2) ++ (news ++ (z.drop 2 ++ rest)) := by
    have e0 : l.take (i * 2) ++ z ++ rest = l.take (i * 2) ++ (z.take 2 ++ (z.drop 2 ++ rest)) := by
      rw [List.append_assoc, ← List.append_assoc (z.take 2), List.take_append_drop]
    rw [e0]
    exact splice_parts h1 (by rw [List.length_take]; omega)
  have h2 : (l.take (i * 2) ++ news).length = (i + 1) * 2 := by rw [List.length_append, h1, hn]; omega
  have h3 : ((l.take (i * 2) ++ news) ++ l.drop (i * 2)).length = (n + 1) * 2 := by rw [List.length_append, h2, List.length_drop, hl]; omega
  rw [e1, ← List.append_assoc, splice_parts h2 (by rw [List.length_drop, List.length_drop, hl]; omega), ← List.append_assoc, ← h3, List.take_left' rfl]
set_option maxRecDepth 100000 in
set_option maxHeartbeats 3200000 in
theorem insert_grow (g n i vb : Nat) (cur : List Value) (f : Vf) (w : World) (ho : Own w g 76 cur) (hl : cur.length = n * 2) (hv : Own w vb 76 f.cells) (hi : i < n) (hn : (n + 1) * 40 ≤ 140737488355328) (h1 : ∀ u ∈ cur, u.oneCell' = true) :
    Calls Try.prog 49 #[.slice (some ⟨g, 0, none⟩) n n, .int .i64 (i : Int), .slice (some ⟨vb, 0, none⟩) 1 1] w fun e w' => ∃ G cur', e = .returned (.slice (some ⟨w.heap.size, 0, none⟩) (n + 1) G) ∧
      Own w' w.heap.size 76 cur' ∧ n + 1 ≤ G ∧ G ≤ maxLen ∧ cur'.length = G * 2 ∧ cur'.take ((n + 1) * 2) = cur.take (i * 2) ++ f.cells ++ cur.drop (i * 2) ∧ Below w.heap.size w w' := by
  obtain ⟨i0, hi0, hz0, hzs, hzb⟩ := info_parts infoVf
  have hU := Try.underlying47
  have hUi := Try.underlying3
  have hsz : (Try.prog.info? 76).map (·.size) = some 2 := by rw [hi0]; simp [hzs]
  have hbw := ho.inside
  have hvw := hv.inside
  have hkk : (n : Int) + 1 - (i : Int) = ((n + 1 - i : Nat) : Int) := by omega
  have hik : i + (n + 1 - i) = n + 1 := by omega
  have hold : (Builtin.firstCells i0.size i (.slice (some ⟨g, 0, none⟩) i n)).run Try.prog w.drew = .ok (cur.take (i * 2)).toArray w.drew := by
    rw [hzs]
    refine run_firstCells_some w.drew 2 i ⟨g, 0, none⟩ i n (cur.take (i * 2)) (by rw [List.length_take]; omega) (fun j v hj => ?_)
    have ea : (⟨g, 0, none⟩ : Addr).add j = ⟨g, j, none⟩ := by unfold Addr.add; split <;> simp_all
    rw [ea, (own_drew ho).at_ j]
    rw [List.getElem?_take] at hj
    split at hj
    · exact hj
    · cases hj
  obtain ⟨G, hG⟩ : ∃ G, G = grownCap w (n + 1) n 76 := ⟨_, rfl⟩
  have hGn : n + 1 ≤ G := by rw [hG]; exact grownCap_ge w _ _ _
  have hG63 : G ≤ maxLen := by rw [hG]; exact grownCap_le_maxLen w (n + 1) n 76 (by unfold maxLen; omega)
  obtain ⟨ROW, hROW⟩ : ∃ ROW : Array Value, ROW = (cur.take (i * 2)).toArray ++ Builtin.zeroCells zeroVf.cells (n + 1 - i) ++ Builtin.zeroCells zeroVf.cells (G - (n + 1)) := ⟨_, rfl⟩
  have hz2 : zeroVf.cells.size = 2 := rfl
  have hRl : ROW.size = G * 2 := by
    rw [hROW, Array.size_append, Array.size_append, size_zeroCells, size_zeroCells, hz2, List.size_toArray, List.length_take]
    omega
  obtain ⟨W1, hW1⟩ : ∃ W1, W1 = w.drew.alloc (.cells ROW 76) := ⟨_, rfl⟩
  have hrz : ∀ ty, (Builtin.append_ #[47, 3] ty #[.slice (some ⟨g, 0, none⟩) i n, .int .i64 ((n : Int) + 1 - (i : Int))]).run Try.prog w = .ok (.slice (some ⟨w.heap.size, 0, none⟩) (n + 1) G) W1 := fun ty => by
    have h := Lib.run_append_grow_zeros w 47 3 ty 76 i0 _ .i64 .i64 hU hUi hi0 hz0 (some ⟨g, 0, none⟩) i n (cur.take (i * 2)) hold (n + 1 - i) (by omega) (by omega) (by omega) (by omega) (by rw [hzb]; omega) (by rw [hzb, hik]; exact growslice_ok (by omega) hn)
    rw [hik] at h
    rw [hkk, hW1, hROW, hG]
    exact h
  have oR : Own W1 w.heap.size 76 ROW.toList := by
    rw [hW1]
    have := Own.made w.drew 76 ROW.toList
    simpa using this
  have oG : Own W1 g 76 cur := by rw [hW1]; exact (own_drew ho).more _
  have oV : Own W1 vb 76 f.cells := by rw [hW1]; exact (own_drew hv).more _
  have bW : Below w.heap.size w W1 := by rw [hW1]; exact (Below.drew (Below.refl _ _)).alloc (Nat.le_refl _) _
  have hRlen : ROW.toList.length = G * 2 := by simpa using hRl
  obtain ⟨W2, hW2⟩ : ∃ W2, W2 = W1.setRow w.heap.size (splice ROW.toList (i * 2) f.cells).toArray := ⟨_, rfl⟩
  have hcA : ∀ ty dc, (Builtin.copy_ #[47, 47] ty #[.slice (some ⟨w.heap.size, i * 2, none⟩) (n + 1 - i) dc, .slice (some ⟨vb, 0, none⟩) 1 1]).run Try.prog W1 = .ok (goInt (Nat.min 1 (n + 1 - i))) W2 := fun ty dc => by
    rw [hW2]
    refine run_copy_into W1 _ _ ty 76 w.heap.size (i * 2) (n + 1 - i) dc ⟨vb, 0, none⟩ 1 1 2 ROW.toList f.cells 76 hU hsz oR ?_ (fun j v hj => ?_) (by rw [hRlen]; simp [Vf.cells]; omega) (vf_one f)
    · have : Nat.min 1 (n + 1 - i) = 1 := Nat.min_eq_left (by omega)
      rw [this]; rfl
    · have ea : (⟨vb, 0, none⟩ : Addr).add j = ⟨vb, j, none⟩ := by unfold Addr.add; split <;> simp_all
      rw [ea, oV.at_ j]; exact hj
  have oR2 : Own W2 w.heap.size 76 (splice ROW.toList (i * 2) f.cells) := by rw [hW2]; exact own_row oR
  have oG2 : Own W2 g 76 cur := by
    rw [hW2]; unfold Own; rw [row_other (by omega)]; exact oG
  have hl2 : (splice ROW.toList (i * 2) f.cells).length = G * 2 := by rw [splice_len (by rw [hRlen]; simp [Vf.cells]; omega), hRlen]
  have hcl : (cur.drop (i * 2)).length = (n - i) * 2 := by rw [List.length_drop, hl]; omega
  obtain ⟨W3, hW3⟩ : ∃ W3, W3 = W2.drew.setRow w.heap.size (splice (splice ROW.toList (i * 2) f.cells) ((i + 1) * 2) (cur.drop (i * 2))).toArray := ⟨_, rfl⟩
  have hcB : ∀ ty dc sc, (Builtin.copy_ #[47, 47] ty #[.slice (some ⟨w.heap.size, (i + 1) * 2, none⟩) (n + 1 - (i + 1)) dc, .slice (some ⟨g, i * 2, none⟩) (n - i) sc]).run Try.prog W2.drew = .ok (goInt (Nat.min (n - i) (n + 1 - (i + 1)))) W3 := fun ty dc sc => by
    rw [hW3]
    refine run_copy_into W2.drew _ _ ty 76 w.heap.size ((i + 1) * 2) (n + 1 - (i + 1)) dc ⟨g, i * 2, none⟩ (n - i) sc 2 _ (cur.drop (i * 2)) 76 hU hsz oR2 ?_ (fun j v hj => ?_) (by rw [hl2, hcl]; omega) (fun u hu => h1 u (List.mem_of_mem_drop hu))
    · have : Nat.min (n - i) (n + 1 - (i + 1)) = n - i := Nat.min_eq_left (by omega)
      rw [this, hcl]
    · have ea : (⟨g, i * 2, none⟩ : Addr).add j = ⟨g, i * 2 + j, none⟩ := by unfold Addr.add; split <;> simp_all
      rw [ea, (own_drew oG2).at_ (i * 2 + j)]
      rw [List.getElem?_drop] at hj; exact hj
  have oR3 : Own W3 w.heap.size 76 (splice (splice ROW.toList (i * 2) f.cells) ((i + 1) * 2) (cur.drop (i * 2))) := by rw [hW3]; exact own_row (w := W2.drew) oR2
  have b3 : Below w.heap.size w W3 := by
    rw [hW3, hW2]
    exact ⟨bW.os, bW.tape, bW.output, by simpa using bW.size, fun k hk => (row_other (by omega)).trans ((row_other (w := W1) (by omega)).trans (bW.block k hk))⟩
  have hfin : (splice (splice ROW.toList (i * 2) f.cells) ((i + 1) * 2) (cur.drop (i * 2))).take ((n + 1) * 2) = cur.take (i * 2) ++ f.cells ++ cur.drop (i * 2) := by
    have : ROW.toList = cur.take (i * 2) ++ (Builtin.zeroCells zeroVf.cells (n + 1 - i)).toList ++ (Builtin.zeroCells zeroVf.cells (G - (n + 1))).toList := by rw [hROW]; simp
    rw [this]
    exact splice3 hl hi rfl (by rw [Array.length_toList, size_zeroCells, hz2])
  have hlen3 : (splice (splice ROW.toList (i * 2) f.cells) ((i + 1) * 2) (cur.drop (i * 2))).length = G * 2 := by rw [splice_len (by rw [hl2, hcl]; omega), hl2]
  have HX := Lib.hid (And.intro oR3 (And.intro hGn (And.intro hG63 (And.intro hlen3 (And.intro hfin b3)))))
  have hB3 := fun ty dc sc => Lib.hid (hcB ty dc sc)
  unfold maxLen at hG63
  clear oR3 hlen3 hfin b3 hcB hl2 hcl oG2 oR2 hRlen bW oV oG oR hRl hROW hG hold hik hkk hz0 hzs hzb hsz hi0 hW1 hW2 hW3 h1 hl
  have hGi : ¬ (G = i) := by omega
  have hGim : ¬ (G = i + 1) := by omega
  have hci : ¬ (n = i) := by omega
  have hni : ¬ ((i : Int) = (n : Int)) := by omega
  have htn : ((i : Int) + 1).toNat = i + 1 := by omega
  have hb1 : (0 : Int) ≤ (i : Int) + 1 := by omega
  have hw1 : IntKind.i64.wrap ((i : Int) + 1) = (i : Int) + 1 := by rw [IntKind.wrap_i64]; omega
  have hb4 : (i : Int) + 1 ≤ (n : Int) + 1 := by omega
  have hb3 : (i : Int) ≤ (n : Int) := by omega
  have hin : i ≤ n := by omega
  have hgr : (n : Int) < (n : Int) + 1 := by omega
  go_enter Try.func49, Try.ntmps49
  go_wp2_with (first
    | (at_builtin; refine list_append_known _ rfl (.tmp 34) (.tmp 39) 47 3 rfl _ _ rfl rfl (hrz _) ?_)
    | (at_builtin; refine list_copy_known _ rfl (.tmp 43) (.tmp 44) 47 47 rfl _ _ rfl rfl (hcA _ _) ?_))
  go_region_law (refine step_copy_known rfl (.tmp 50) (.tmp 53) 47 47 rfl (.slice (some ⟨w.heap.size, (i + 1) * 2, none⟩) (n + 1 - (i + 1)) (G - (i + 1))) (.slice (some ⟨g, i * 2, none⟩) (n - i) (n - i)) (by simp [Act.eval, Act.put]) (by simp [Act.eval, Act.put]) (hB3 _ _ _).out ?_)
  go_wp2_with fail
  go_ret
  exact ⟨G, _, rfl, HX.out.1, HX.out.2.1, HX.out.2.2.1, HX.out.2.2.2.1, HX.out.2.2.2.2.1, HX.out.2.2.2.2.2⟩
end Go.Proofs.Ytmddiiidofmklaa
namespace Go.Proofs.Ytmddiiidofmklaa
open Go Go.RowKit

set_option maxRecDepth 100000 in
theorem overlaps_no (w : World) (g vb o1 lb cb la ca : Nat) (cur vs : List Value) (hg : Own w g 76 cur) (hv : Own w vb 76 vs) (hne : vb ≠ g) (hc : cur.length ≠ 0) :
    (callFunc 55 #[.slice (some ⟨vb, 0, none⟩) la ca, .slice (some ⟨g, o1, none⟩) lb cb]).run Try.prog w = .ok (.value (.bool false)) w := by
  have hs1 : w.shape? vb = some (76, vs.length) := by
    unfold World.shape?; have := hv; unfold Own at this; rw [this]; simp
  have hs2 : w.shape? g = some (76, cur.length) := by
    unfold World.shape?; have := hg; unfold Own at this; rw [this]; simp
  rw [run_callFunc_extern Try.func55 (by kernel_rfl) (by kernel_rfl) (by kernel_rfl) (e := Extern.SlicesOverlaps.overlaps #[47, 47] #[4]) (by kernel_rfl),
    Lib.run_overlaps_apart w 47 4 76 Try.underlying47 2 Try.sizeOf76 ⟨vb, 0, none⟩ ⟨g, o1, none⟩ la ca lb cb hne _ _ _ _ hs1 hs2 hc (hv.open_ 0) (hv.open_ _)]
  rfl
theorem splice4 {cur news : List Value} {i n c : Nat} (hl : cur.length = c * 2) (hc : n + 1 ≤ c) (hi : i < n) (hn : news.length = 2) :
    (splice (splice cur ((i + 1) * 2) ((cur.take (n * 2)).drop (i * 2))) (i * 2) news).take ((n + 1) * 2) = (cur.take (n * 2)).take (i * 2) ++ news ++ (cur.take (n * 2)).drop (i * 2) := by
  have h0 : (cur.take (n * 2)).length = n * 2 := by rw [List.length_take]; omega
  have hd : ((cur.take (n * 2)).drop (i * 2)).length = (n - i) * 2 := by rw [List.length_drop, h0]; omega
  have e1 : splice cur ((i + 1) * 2) ((cur.take (n * 2)).drop (i * 2)) = cur.take (i * 2) ++ ((cur.drop (i * 2)).take 2 ++ ((cur.take (n * 2)).drop (i * 2) ++ cur.drop ((n + 1) * 2))) := by
    unfold splice
    rw [hd, show (i + 1) * 2 + (n - i) * 2 = (n + 1) * 2 by omega, show (i + 1) * 2 = i * 2 + 2 by omega, List.take_add, List.append_assoc, List.append_assoc]
  rw [e1, splice_parts (by rw [List.length_take]; omega) (by rw [List.length_take, List.length_drop, hn]; omega)]
  have e2 : (cur.take (n * 2)).take (i * 2) = cur.take (i * 2) := by rw [List.take_take]; congr 1; omega
  rw [e2, ← List.append_assoc, ← List.append_assoc]
  have h3 : (cur.take (i * 2) ++ news ++ (cur.take (n * 2)).drop (i * 2)).length = (n + 1) * 2 := by rw [List.length_append, List.length_append, hd, hn, List.length_take]; omega
  rw [← h3, List.take_left' rfl]
set_option maxRecDepth 100000 in
set_option maxHeartbeats 3200000 in
theorem insert_shift (g n c i vb : Nat) (cur : List Value) (f : Vf) (w : World) (ho : Own w g 76 cur) (hl : cur.length = c * 2) (hm : c ≤ maxLen) (hc : n + 1 ≤ c) (hv : Own w vb 76 f.cells) (hne : vb ≠ g) (hi : i < n) (h1 : ∀ u ∈ cur.take (n * 2), u.oneCell' = true) :
    Calls Try.prog 49 #[.slice (some ⟨g, 0, none⟩) n c, .int .i64 (i : Int), .slice (some ⟨vb, 0, none⟩) 1 1] w fun e w' => e = .returned (.slice (some ⟨g, 0, none⟩) (n + 1) c) ∧ ∃ cur',
      Own w' g 76 cur' ∧ cur'.length = c * 2 ∧ cur'.take ((n + 1) * 2) = (cur.take (n * 2)).take (i * 2) ++ f.cells ++ (cur.take (n * 2)).drop (i * 2) ∧ w.grownBy w' (some g) := by
  obtain ⟨i0, hi0, hz0, hzs, hzb⟩ := info_parts infoVf
  have hU := Try.underlying47
  have hsz : (Try.prog.info? 76).map (·.size) = some 2 := by rw [hi0]; simp [hzs]
  have h0 : (cur.take (n * 2)).length = n * 2 := by rw [List.length_take]; omega
  have hd : ((cur.take (n * 2)).drop (i * 2)).length = (n - i) * 2 := by rw [List.length_drop, h0]; omega
  have hov : ∀ lb cb, (callFunc 55 #[.slice (some ⟨vb, 0, none⟩) 1 1, .slice (some ⟨g, (i + 1) * 2, none⟩) lb cb]).run Try.prog w = .ok (.value (.bool false)) w := fun lb cb => by
    exact overlaps_no w g vb _ lb cb 1 1 cur f.cells ho hv hne (by omega)
  obtain ⟨W1, hW1⟩ : ∃ W1, W1 = w.drew.setRow g (splice cur ((i + 1) * 2) ((cur.take (n * 2)).drop (i * 2))).toArray := ⟨_, rfl⟩
  have hcA : ∀ ty dc sc, (Builtin.copy_ #[47, 47] ty #[.slice (some ⟨g, (i + 1) * 2, none⟩) (n + 1 - (i + 1)) dc, .slice (some ⟨g, i * 2, none⟩) (n + 1 - i) sc]).run Try.prog w.drew = .ok (goInt (Nat.min (n + 1 - i) (n + 1 - (i + 1)))) W1 := fun ty dc sc => by
    rw [hW1]
    refine run_copy_into w.drew _ _ ty 76 g ((i + 1) * 2) (n + 1 - (i + 1)) dc ⟨g, i * 2, none⟩ (n + 1 - i) sc 2 cur _ 76 hU hsz ho ?_ (fun j v hj => ?_) (by rw [hd, hl]; omega) (fun u hu => h1 u (List.mem_of_mem_drop hu))
    · have : Nat.min (n + 1 - i) (n + 1 - (i + 1)) = n - i := by show min _ _ = _; omega
      rw [this, hd]
    · have ea : (⟨g, i * 2, none⟩ : Addr).add j = ⟨g, i * 2 + j, none⟩ := by unfold Addr.add; split <;> simp_all
      rw [ea, (own_drew ho).at_ (i * 2 + j)]
      rw [List.getElem?_drop, List.getElem?_take] at hj
      split at hj
      · exact hj
      · cases hj
  have o1 : Own W1 g 76 (splice cur ((i + 1) * 2) ((cur.take (n * 2)).drop (i * 2))) := by rw [hW1]; exact own_row (w := w.drew) ho
  have v1 : Own W1 vb 76 f.cells := by rw [hW1]; unfold Own; rw [row_other hne]; exact hv
  have l1 : (splice cur ((i + 1) * 2) ((cur.take (n * 2)).drop (i * 2))).length = c * 2 := by rw [splice_len (by rw [hd, hl]; omega), hl]
  obtain ⟨W2, hW2⟩ : ∃ W2, W2 = W1.setRow g (splice (splice cur ((i + 1) * 2) ((cur.take (n * 2)).drop (i * 2))) (i * 2) f.cells).toArray := ⟨_, rfl⟩
  have hcB : ∀ ty dc, (Builtin.copy_ #[47, 47] ty #[.slice (some ⟨g, i * 2, none⟩) (n + 1 - i) dc, .slice (some ⟨vb, 0, none⟩) 1 1]).run Try.prog W1 = .ok (goInt (Nat.min 1 (n + 1 - i))) W2 := fun ty dc => by
    rw [hW2]
    refine run_copy_into W1 _ _ ty 76 g (i * 2) (n + 1 - i) dc ⟨vb, 0, none⟩ 1 1 2 _ f.cells 76 hU hsz o1 ?_ (fun j v hj => ?_) (by rw [l1]; simp [Vf.cells]; omega) (vf_one f)
    · have : Nat.min 1 (n + 1 - i) = 1 := Nat.min_eq_left (by omega)
      rw [this]; rfl
    · have ea : (⟨vb, 0, none⟩ : Addr).add j = ⟨vb, j, none⟩ := by unfold Addr.add; split <;> simp_all
      rw [ea, v1.at_ j]; exact hj
  have o2 : Own W2 g 76 (splice (splice cur ((i + 1) * 2) ((cur.take (n * 2)).drop (i * 2))) (i * 2) f.cells) := by rw [hW2]; exact own_row o1
  have l2 : (splice (splice cur ((i + 1) * 2) ((cur.take (n * 2)).drop (i * 2))) (i * 2) f.cells).length = c * 2 := by rw [splice_len (by rw [l1]; simp [Vf.cells]; omega), l1]
  have gr : w.grownBy W2 (some g) := by
    rw [hW2, hW1]
    exact ⟨rfl, rfl, rfl, by simp, fun k _ hk => (row_other (fun e => hk (by rw [e]))).trans (row_other (w := w.drew) (fun e => hk (by rw [e])))⟩
  have HX := Lib.hid (And.intro o2 (And.intro l2 (And.intro (splice4 hl hc hi (rfl : f.cells.length = 2)) gr)))
  have hB1 := fun ty dc sc => Lib.hid (hcA ty dc sc)
  unfold maxLen at hm
  clear o2 l2 gr hcA o1 v1 l1 hW1 hW2 hd h0 hsz hi0 hz0 hzs hzb h1 hl ho hv
  have hci : ¬ (c = i) := by omega
  have hci1 : ¬ (c = i + 1) := by omega
  have hni : ¬ ((i : Int) = (n : Int)) := by omega
  have htn : ((i : Int) + 1).toNat = i + 1 := by omega
  have htn2 : ((n : Int) + 1).toNat = n + 1 := by omega
  have hb1 : (0 : Int) ≤ (i : Int) + 1 := by omega
  have hb5 : (0 : Int) ≤ (n : Int) + 1 := by omega
  have hw1 : IntKind.i64.wrap ((i : Int) + 1) = (i : Int) + 1 := by rw [IntKind.wrap_i64]; omega
  have hw2 : IntKind.i64.wrap ((n : Int) + 1) = (n : Int) + 1 := by rw [IntKind.wrap_i64]; omega
  have hb4 : (i : Int) + 1 ≤ (n : Int) + 1 := by omega
  have hb3 : (i : Int) ≤ (n : Int) := by omega
  have hb6 : (i : Int) ≤ (n : Int) + 1 := by omega
  have hin : i ≤ n := by omega
  have hgr : ¬ ((c : Int) < (n : Int) + 1) := by omega
  have hgr2 : (n : Int) + 1 ≤ (c : Int) := by omega
  go_enter Try.func49, Try.ntmps49
  go_wp2_with (simp only [hov])
  go_region_law (refine step_copy_known rfl (.tmp 73) (.tmp 76) 47 47 rfl (.slice (some ⟨g, (i + 1) * 2, none⟩) (n + 1 - (i + 1)) (c - (i + 1))) (.slice (some ⟨g, i * 2, none⟩) (n + 1 - i) (c - i)) (by simp [Act.eval, Act.put]) (by simp [Act.eval, Act.put]) (hB1 _ _ _).out ?_)
  go_wp2_with (at_builtin; refine list_copy_known _ rfl (.tmp 80) (.tmp 81) 47 47 rfl _ _ rfl rfl (hcB _ _) ?_)
  go_ret
  exact ⟨rfl, _, HX.out.1, HX.out.2.1, HX.out.2.2.1, HX.out.2.2.2⟩
/-- slices.Insert of one file, wherever -/
theorem insert_any (base n c i vb : Nat) (A : Option Addr) (xs : List Value) (f : Vf) (w : World) (ho : w.ownsRow base 76 2 (.slice A n c) n xs) (hv : Own w vb 76 f.cells) (hne : (Value.slice A n c).ownBlock ≠ some vb) (hi : i ≤ n) (hn : (n + 1) * 40 ≤ 140737488355328) (hbase : base ≤ w.heap.size) (h1 : ∀ u ∈ xs, u.oneCell' = true) :
    Calls Try.prog 49 #[.slice A n c, .int .i64 (i : Int), .slice (some ⟨vb, 0, none⟩) 1 1] w fun e w' => ∃ A' c', e = .returned (.slice A' (n + 1) c') ∧
      w'.ownsRow base 76 2 (.slice A' (n + 1) c') (n + 1) (xs.take (i * 2) ++ f.cells ++ xs.drop (i * 2)) ∧ w.grownBy w' (Value.slice A n c).ownBlock ∧ ((Value.slice A' (n + 1) c').ownBlock = (Value.slice A n c).ownBlock ∨ (Value.slice A' (n + 1) c').ownBlock = some w.heap.size) := by
  by_cases hin : i = n
  · subst hin
    refine (insert_end base i c vb A xs f w ho hv hn hbase).mono ?_
    rintro e w' ⟨v', rfl, h2, h3, h4⟩
    have hx : xs.take (i * 2) = xs ∧ xs.drop (i * 2) = [] := ⟨List.take_of_length_le (by rw [ho.1]; omega), List.drop_of_length_le (by rw [ho.1]; omega)⟩
    rw [hx.1, hx.2, List.append_nil]
    rcases h2.2 with ⟨rfl, h0⟩ | ⟨g, cap, cur, rfl, hb, rest⟩
    · omega
    · exact ⟨_, _, rfl, h2, h3, h4⟩
  · rcases row_own ho with ⟨_, h0, _⟩ | ⟨g, cur, rfl, hb, hg, hnc, hm, hl, rfl⟩
    · omega
    · by_cases hr : n + 1 ≤ c
      · refine (insert_shift g n c i vb cur f w hg hl hm hr hv (fun e => hne (by rw [← e]; rfl)) (by omega) h1).mono ?_
        rintro e w' ⟨rfl, cur', o', l', t', g'⟩
        exact ⟨_, _, rfl, by rw [← t']; exact own_to_row o' hb hr hm l', g', .inl rfl⟩
      · obtain rfl : c = n := by omega
        have ht : cur.take (c * 2) = cur := List.take_of_length_le (by omega)
        rw [ht] at h1 ⊢
        refine (insert_grow g c i vb cur f w hg hl hv (by omega) hn h1).mono ?_
        rintro e w' ⟨G, cur', rfl, o', g1, g2, l', t', b'⟩
        exact ⟨_, _, rfl, by rw [← t']; exact own_to_row o' hbase g1 g2 l', ⟨b'.os, b'.tape, b'.output, b'.size, fun k hk _ => b'.block k hk⟩, .inr rfl⟩
end Go.Proofs.Ytmddiiidofmklaa
namespace Go.Proofs.Ytmddiiidofmklaa
open Go Go.RowKit

def Vf.fl (f : Vf) : Fl := ⟨f.n, catB f.ps⟩
def flV (l : List Vf) : List Fl := l.map Vf.fl
theorem names_fl (l : List Vf) : namesF (flV l) = namesV l := by unfold namesF flV namesV; rw [List.map_map]; rfl
def blk (A : Option Addr) : Option Nat := A.map (·.block)
theorem blk_own (A : Option Addr) (n c : Nat) : (Value.slice A n c).ownBlock = blk A := by cases A <;> rfl
def Fp (A : Option Addr) (l : List Vf) (k : Nat) : Prop := blk A = some k ∨ ∃ f ∈ l, blk f.A = some k
def wtV (l : List Vf) : Nat := l.length + (l.map (fun f => f.ps.length)).sum + szF (flV l)
structure Vis (w : World) (base : Nat) (A : Option Addr) (c : Nat) (l : List Vf) : Prop where
  row : w.ownsRow base 76 2 (.slice A l.length c) l.length (l.flatMap Vf.cells)
  parts : ∀ f ∈ l, Parts w base f
  apart : l.Pairwise (fun f g => ∀ k, blk f.A = some k → blk g.A ≠ some k)
  row_apart : ∀ f ∈ l, ∀ k, blk f.A = some k → blk A ≠ some k
theorem Vis.lt {w : World} {base : Nat} {A : Option Addr} {c : Nat} {l : List Vf} (h : Vis w base A c l) : ∀ k, Fp A l k → base ≤ k ∧ k < w.heap.size := by
  intro k hk
  rcases hk with hk | ⟨f, hf, hk⟩
  · exact h.row.lt k (by rw [blk_own]; exact hk)
  · exact (h.parts f hf).lt k (by rw [blk_own]; exact hk)
theorem Vis.kept {w w' : World} {base : Nat} {A : Option Addr} {c : Nat} {l : List Vf} {S : Nat → Prop} (h : Vis w base A c l) (hk : Kept w w' S) (hs : ∀ k, Fp A l k → ¬ S k) : Vis w' base A c l :=
  ⟨hk.row h.row (fun k e => hs k (.inl (by rw [← blk_own]; exact e))), fun f hf => hk.row (h.parts f hf) (fun k e => hs k (.inr ⟨f, hf, by rw [← blk_own]; exact e⟩)), h.apart, h.row_apart⟩
structure VisAt (w : World) (base G o : Nat) (t : TypeId) (cs : List Value) (A : Option Addr) (c : Nat) (l : List Vf) : Prop where
  own : Own w G t cs
  c0 : cs[o]? = some (.slice A l.length c)
  c1 : cs[o + 1]? = some (.int .i64 (szF (flV l) : Int))
  vis : Vis w base A c l
  out : ¬ Fp A l G
  sorted : SortedN (namesV l)
  wt : wtV l ≤ 1099511627776
  le : base ≤ w.heap.size
def setV (cs : List Value) (o : Nat) (A : Option Addr) (c : Nat) (l : List Vf) : List Value := (cs.set o (.slice A l.length c)).set (o + 1) (.int .i64 (szF (flV l) : Int))
theorem setV_again (cs : List Value) (o : Nat) (A A' : Option Addr) (c c' : Nat) (l l' : List Vf) : setV (setV cs o A c l) o A' c' l' = setV cs o A' c' l' := by
  unfold setV
  apply List.ext_getElem?
  intro i
  simp only [List.getElem?_set, List.length_set]
  split
  · rfl
  · split
    · rfl
    · rfl
structure VisTo (w w' : World) (base G o : Nat) (t : TypeId) (cs : List Value) (F : Nat → Prop) (A' : Option Addr) (c' : Nat) (l' : List Vf) : Prop where
  at_ : VisAt w' base G o t (setV cs o A' c' l') A' c' l'
  kept : Kept w w' (fun k => k = G ∨ F k)
  fp : ∀ k, Fp A' l' k → F k ∨ w.heap.size ≤ k
theorem VisAt.inside {w : World} {base G o : Nat} {t : TypeId} {cs : List Value} {A : Option Addr} {c : Nat} {l : List Vf} (h : VisAt w base G o t cs A c l) : G < w.heap.size := h.own.inside
theorem VisAt.below {w w' : World} {base G o : Nat} {t : TypeId} {cs : List Value} {A : Option Addr} {c : Nat} {l : List Vf} (h : VisAt w base G o t cs A c l) (hb : Below w.heap.size w w') : VisAt w' base G o t cs A c l :=
  ⟨h.own.past hb h.own.inside, h.c0, h.c1, h.vis.kept (Kept.of_below hb (Nat.le_refl _) (fun _ => False)) (fun _ _ h => h), h.out, h.sorted, h.wt, Nat.le_trans h.le hb.size⟩
theorem VisAt.self {w : World} {base G o : Nat} {t : TypeId} {cs : List Value} {A : Option Addr} {c : Nat} {l : List Vf} (h : VisAt w base G o t cs A c l) : setV cs o A c l = cs := by
  unfold setV
  apply List.ext_getElem?
  intro i
  rw [List.getElem?_set]
  split
  · rename_i hi; subst hi
    rw [h.c1]
    have := (List.getElem?_eq_some_iff.1 h.c1).1
    simp [this]
  · rw [List.getElem?_set]
    split
    · rename_i hi; subst hi
      rw [h.c0]
      have := (List.getElem?_eq_some_iff.1 h.c0).1
      simp [this]
    · rfl
theorem VisTo.refl {w w' : World} {base G o : Nat} {t : TypeId} {cs : List Value} {A : Option Addr} {c : Nat} {l : List Vf} (h : VisAt w base G o t cs A c l) (hb : Below w.heap.size w w') : VisTo w w' base G o t cs (Fp A l) A c l :=
  ⟨by rw [h.self]; exact h.below hb, Kept.of_below hb (Nat.le_refl _) _, fun k hk => .inl hk⟩
theorem VisTo.trans {w w1 w2 : World} {base G o : Nat} {t : TypeId} {cs : List Value} {A1 A2 : Option Addr} {c1 c2 : Nat} {F F1 : Nat → Prop} {l1 l2 : List Vf}
    (h : VisTo w w1 base G o t cs F A1 c1 l1) (k : VisTo w1 w2 base G o t (setV cs o A1 c1 l1) F1 A2 c2 l2) (hF : ∀ k, F1 k → F k ∨ w.heap.size ≤ k) : VisTo w w2 base G o t cs F A2 c2 l2 :=
  ⟨by have := k.at_; rwa [setV_again] at this,
    h.kept.trans k.kept (fun b hb hx => by
      rcases hx with rfl | hx
      · exact .inl rfl
      · rcases hF b hx with h1 | h1
        · exact .inr h1
        · omega),
    fun b hx => by
      rcases k.fp b hx with h1 | h1
      · exact hF b h1
      · exact .inr (Nat.le_trans h.kept.size h1)⟩
theorem VisTo.after {w w1 w2 : World} {base G o : Nat} {t : TypeId} {cs : List Value} {A1 : Option Addr} {c1 : Nat} {F : Nat → Prop} {l1 : List Vf} (hb : Below w.heap.size w w1) (k : VisTo w1 w2 base G o t cs F A1 c1 l1) : VisTo w w2 base G o t cs F A1 c1 l1 :=
  ⟨k.at_, (Kept.of_below hb (Nat.le_refl _) (fun b => b = G ∨ F b)).trans k.kept (fun b _ hx => hx), fun b hx => by
    rcases k.fp b hx with h1 | h1
    · exact .inl h1
    · exact .inr (Nat.le_trans hb.size h1)⟩
theorem VisTo.then_ {w w1 w2 : World} {base G o : Nat} {t : TypeId} {cs : List Value} {A1 : Option Addr} {c1 : Nat} {F : Nat → Prop} {l1 : List Vf} (k : VisTo w w1 base G o t cs F A1 c1 l1) (hb : Below w1.heap.size w1 w2) : VisTo w w2 base G o t cs F A1 c1 l1 :=
  ⟨k.at_.below hb, k.kept.trans (Kept.of_below hb (Nat.le_refl _) (fun _ => False)) (fun _ _ h => h.elim), k.fp⟩
theorem VisTo.wider {w w1 : World} {base G o : Nat} {t : TypeId} {cs : List Value} {A1 : Option Addr} {c1 : Nat} {F F' : Nat → Prop} {l1 : List Vf} (k : VisTo w w1 base G o t cs F A1 c1 l1) (hF : ∀ k, F k → F' k) : VisTo w w1 base G o t cs F' A1 c1 l1 :=
  ⟨k.at_, k.kept.more (fun b hx => by rcases hx with h | h; exact .inl h; exact .inr (hF b h)), fun b hx => by
    rcases k.fp b hx with h1 | h1
    · exact .inl (hF b h1)
    · exact .inr h1⟩
theorem len_le_wt (l : List Vf) : l.length ≤ wtV l := by unfold wtV; omega
theorem parts_le_wt {l : List Vf} {f : Vf} (h : f ∈ l) : f.ps.length ≤ wtV l := by
  have : f.ps.length ≤ (l.map (fun f => f.ps.length)).sum := by
    induction l with
    | nil => cases h
    | cons x l ih =>
      rw [List.map_cons, List.sum_cons]
      rcases List.mem_cons.1 h with rfl | h
      · omega
      · have := ih h; omega
  unfold wtV; omega
theorem size_le_wt {l : List Vf} {f : Vf} (h : f ∈ l) : (catB f.ps).size ≤ szF (flV l) := by
  induction l with
  | nil => cases h
  | cons x l ih =>
    unfold flV at *
    rw [List.map_cons, szF_cons]
    rcases List.mem_cons.1 h with rfl | h
    · exact Nat.le_add_right _ _
    · have := ih h; omega
end Go.Proofs.Ytmddiiidofmklaa
