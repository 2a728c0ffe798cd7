/- Part 2 of the texts on which TopStamped rests: facts and contracts. -/
import Derived.Test.YtammngncmkhokaaTopStampedM1
import Derived.Outline
import Derived.WalkSpells
import Derived.WalkLawsBesides
import Derived.BigQuiet
import Derived.Deep.Onto
import Derived.Test.YtammngncmkhokaaProg
import Derived.Deep.RegionHeld3
import Derived.Deep.DrawnRows
import Derived.StillTailTactics
import Derived.Handy
import Derived.Deep.AppendLies
import Derived.Deep.DeepCutAuto
import Derived.Sort.Grow
import Derived.Shelf.SlSortCmp.NoneTotal
import Derived.Test.YtammngncmkhokaaSort
import Derived.Laws.StructEq
namespace Go.Proofs.Ytammngncmkhokaa
open Go Go.RowKit

/-- the value that bytes begin with, and what is behind it -/
def oneS : List UInt8 → Option (Vl × List UInt8)
  | [] => none
  | b :: r => if b = 0 then (if (tn (tc 0 0 r)).2.2 = 0 then some (⟨false, (tn (tc 0 0 r)).1, ⟨#[]⟩⟩, (tn (tc 0 0 r)).2.1) else none)
    else if b = 1 then (if (tt (tc 0 0 r)).2.2 = 0 then some (⟨true, 0, ⟨(tt (tc 0 0 r)).1.toArray⟩⟩, (tt (tc 0 0 r)).2.1) else none) else none
def takeS : Nat → List UInt8 → Option (List Vl × List UInt8)
  | 0, s => some ([], s)
  | n + 1, s => match takeS n s with
    | none => none
    | some (l, r) => match oneS r with
      | none => none
      | some (v, r') => some (l ++ [v], r')
/-- the row that bytes begin with, and what is behind it -/
def takeR (s : List UInt8) : Option (List Vl × List UInt8) :=
  if (tc 0 0 s).2.2 = 0 ∧ (tc 0 0 s).1 ≤ 8 then
    match takeS (tc 0 0 s).1 (tc 0 0 s).2.1 with
    | none => none
    | some (l, r) => if l.all Vl.right then some (l, r) else none
  else none
theorem takeS_len : ∀ {n : Nat} {s : List UInt8} {l : List Vl} {r : List UInt8}, takeS n s = some (l, r) → l.length = n
  | 0, s, l, r, h => by
    simp [takeS] at h
    rw [h.1]; rfl
  | n + 1, s, l, r, h => by
    unfold takeS at h
    cases h1 : takeS n s with
    | none => rw [h1] at h; cases h
    | some x =>
      obtain ⟨l1, r1⟩ := x
      rw [h1] at h
      simp only at h
      cases h2 : oneS r1 with
      | none => rw [h2] at h; cases h
      | some y =>
        obtain ⟨v, r2⟩ := y
        rw [h2] at h
        simp only [Option.some.injEq, Prod.mk.injEq] at h
        rw [← h.1, List.length_append, takeS_len h1]; rfl
theorem takeS_fell {s : List UInt8} : ∀ {k n : Nat}, k ≤ n → takeS k s = none → takeS n s = none
  | k, 0, h, e => by obtain rfl : k = 0 := by omega
                     exact e
  | k, n + 1, h, e => by
    by_cases hk : k = n + 1
    · subst hk; exact e
    · unfold takeS
      rw [takeS_fell (show k ≤ n by omega) e]
theorem takeS_right {s : List UInt8} {k : Nat} {l : List Vl} {r : List UInt8} (h : takeS k s = some (l, r)) (hr : l.all Vl.right = false) : ∀ {n : Nat} {l' : List Vl} {r' : List UInt8}, k ≤ n → takeS n s = some (l', r') → l'.all Vl.right = false
  | 0, l', r', hk, e => by
    obtain rfl : k = 0 := by omega
    rw [h] at e
    simp only [Option.some.injEq, Prod.mk.injEq] at e
    rw [← e.1]; exact hr
  | n + 1, l', r', hk, e => by
    by_cases hkn : k = n + 1
    · subst hkn
      rw [h] at e
      simp only [Option.some.injEq, Prod.mk.injEq] at e
      rw [← e.1]; exact hr
    · unfold takeS at e
      cases h1 : takeS n s with
      | none => rw [h1] at e; cases e
      | some x =>
        obtain ⟨l1, r1⟩ := x
        rw [h1] at e
        simp only at e
        cases h2 : oneS r1 with
        | none => rw [h2] at e; cases e
        | some y =>
          obtain ⟨v, r2⟩ := y
          rw [h2] at e
          simp only [Option.some.injEq, Prod.mk.injEq] at e
          rw [← e.1, List.all_append, takeS_right h hr (show k ≤ n by omega) h1]; rfl
theorem tn_bound {s : List UInt8} : -9223372036854775808 ≤ (tn (tc 0 0 s)).1 ∧ (tn (tc 0 0 s)).1 ≤ 9223372036854775807 := by
  have h := (tc_ok s 0 0 (by omega) (by omega)).1
  unfold tn
  split
  · split <;> constructor <;> simp only <;> omega
  · simp
theorem rest_len {s : List UInt8} : (tc 0 0 s).2.1.length ≤ s.length := by
  rcases (tc_ok s 0 0 (by omega) (by omega)).2 with ⟨_, h⟩ | h | h
  · exact h
  · rw [h]; simp
  · rw [h]; simp
theorem tt_len {s : List UInt8} : (tt (tc 0 0 s)).1.length ≤ s.length ∧ (tt (tc 0 0 s)).2.1.length ≤ s.length := by
  have h := rest_len (s := s)
  unfold tt
  split
  · split
    · simp
    · split
      · simp
      · simp only [List.length_take, List.length_drop]; omega
  · simp
theorem tn_len {s : List UInt8} : (tn (tc 0 0 s)).2.1.length ≤ s.length := by
  have h := rest_len (s := s)
  unfold tn
  split
  · exact h
  · simp
theorem oneS_ok {s : List UInt8} {v : Vl} {r : List UInt8} (h : oneS s = some (v, r)) (hs : s.length ≤ maxLen) : VOk v ∧ r.length ≤ s.length := by
  cases s with
  | nil => cases h
  | cons b t =>
    simp only [oneS] at h
    rw [List.length_cons] at hs
    split at h
    · split at h
      · simp only [Option.some.injEq, Prod.mk.injEq] at h
        rw [← h.1, ← h.2]
        have := tn_len (s := t)
        exact ⟨⟨Nat.zero_le _, tn_bound⟩, by rw [List.length_cons]; omega⟩
      · cases h
    · split at h
      · split at h
        · simp only [Option.some.injEq, Prod.mk.injEq] at h
          rw [← h.1, ← h.2]
          have := tt_len (s := t)
          exact ⟨⟨by rw [sizeL]; omega, by simp, by simp⟩, by rw [List.length_cons]; omega⟩
        · cases h
      · cases h
end Go.Proofs.Ytammngncmkhokaa
namespace Go.Proofs.Ytammngncmkhokaa
open Go Go.RowKit

/-- what takeValue hands back: the value and the rest; or anything, and why not -/
def TvPost (o : Option (Vl × List UInt8)) (w : World) (e : Ending) (w' : World) : Prop :=
  (∃ (x : Vl) (r : List UInt8) (y : Int), e = .returned (.tuple #[x.val, .string ⟨r.toArray⟩, .int .i64 y]) ∧ ((o = some (x, r) ∧ y = 0) ∨ (o = none ∧ y ≠ 0))) ∧ Below w.heap.size w w'
theorem tv_mk {o : Option (Vl × List UInt8)} {w w' : World} {t : Bool} {n : Int} {s : ByteArray} {r : List UInt8} {y : Int} (h : (o = some (⟨t, n, s⟩, r) ∧ y = 0) ∨ (o = none ∧ y ≠ 0)) (hb : Below w.heap.size w w') :
    TvPost o w (.returned (.tuple #[.agg #[.bool t, .int .i64 n, .string s], .string ⟨r.toArray⟩, .int .i64 y])) w' := ⟨⟨⟨t, n, s⟩, r, y, rfl, h⟩, hb⟩
theorem list_ne {s : ByteArray} (h : 0 < s.size) : s.toList.isEmpty = false ∧ s.data.toList = s[0] :: s.data.toList.drop 1 := by
  have h1 := drop_at s 0 h
  rw [List.drop_zero] at h1
  refine ⟨?_, h1⟩
  rw [ByteArray.toList_eq, h1]
  rfl
theorem byte_is {b c : UInt8} (h : b.toNat = c.toNat) : b = c := UInt8.toNat_inj.1 h
set_option maxRecDepth 100000 in
set_option maxHeartbeats 3200000 in
theorem takeValue_any (s : ByteArray) (w : World) (hs : s.size ≤ maxLen) :
    Calls Try.prog 25 #[.string s] w (TvPost (oneS s.data.toList) w) := by
  by_cases h0 : s.size = 0
  · have hl : s.data.toList = [] := List.eq_nil_of_length_eq_zero (by rw [len_of]; exact h0)
    have fe : s.toList.isEmpty = true := by rw [ByteArray.toList_eq, hl]; rfl
    rw [hl]
    clear hl h0
    go_enter Try.func25, Try.ntmps25
    go_wp2_with fail
    exact bodyPost_ret (v := .tuple #[.agg #[.bool false, .int .i64 0, .string ⟨#[]⟩], .string ⟨#[]⟩, .int .i64 3]) (by simp [results, Try.results25, go_sem]) rfl (tv_mk (r := []) (.inr ⟨rfl, by decide⟩) ((Below.refl _ _).alloc (Nat.le_refl _) _))
  · have hp : 0 < s.size := by omega
    obtain ⟨fe, hl⟩ := list_ne hp
    have hx : s.extract 1 s.size = ⟨(s.data.toList.drop 1).toArray⟩ := extract_from s 1
    have hxl : (s.extract 1 s.size).data.toList = s.data.toList.drop 1 := by rw [hx]
    have hxs : (s.extract 1 s.size).size ≤ maxLen := by rw [hx, sizeL, List.length_drop, len_of]; omega
    have hn := fun W => Lib.hid (takeNumber_any (s.extract 1 s.size) W hxs)
    have ht := fun W => Lib.hid (takeText_any (s.extract 1 s.size) W hxs)
    rw [hxl] at hn ht
    unfold maxLen at hs
    have hl := Lib.hid hl
    clear h0 hx hxl hxs
    generalize s.data.toList.drop 1 = R at *
    by_cases hb0 : s[0].toNat = 0
    · have t1 : ((s[0].toNat : Int) == 0) = true := by simp; omega
      obtain ⟨q, hq⟩ : ∃ q, tn (tc 0 0 R) = q := ⟨_, rfl⟩
      have hO : ∃ o, oneS (s[0] :: R) = o ∧ ((o = some (⟨false, q.1, ⟨#[]⟩⟩, q.2.1) ∧ q.2.2 = 0) ∨ (o = none ∧ q.2.2 ≠ 0)) := by
        refine ⟨_, rfl, ?_⟩
        simp only [oneS]
        rw [if_pos (byte_is (c := 0) hb0)]
        rw [hq]
        by_cases hy : q.2.2 = 0
        · rw [if_pos hy]; exact .inl ⟨rfl, hy⟩
        · rw [if_neg hy]; exact .inr ⟨rfl, hy⟩
      obtain ⟨O, hO1, hO2⟩ := hO
      rw [hl.out, hO1]
      rw [hq] at hn
      obtain ⟨q1, q2, q3⟩ := q
      have HO := Lib.hid hO2
      unfold tripleI at hn
      dsimp only at hn
      clear hO1 hO2 hl hq ht
      go_enter Try.func25, Try.ntmps25
      go_wp2_with fail
      refine (hn _).out.mono ?_
      rintro e w1 ⟨rfl, b1⟩
      have o1 := (Own.made w 64 [.bool false, .int .i64 0, .string ⟨#[]⟩]).past b1 (by simp)
      have f0 := o1.open_ 0
      have f1 := o1.open_ 1
      have f2 := o1.open_ 2
      have d0 := o1.at_ 0
      have d1 := o1.at_ 1
      have d2 := o1.at_ 2
      have hg := o1.inside
      simp only [List.getElem?_cons_zero, List.getElem?_cons_succ] at d0 d1 d2
      have B1 := Lib.hid (((Below.refl w.heap.size w).alloc (Nat.le_refl _) (.cells #[.bool false, .int .i64 0, .string ⟨#[]⟩] 64)).trans (b1.mono (by simp)))
      have HO1 := Lib.hid o1
      clear b1 o1
      go_wp2_with fail
      have a2 := (HO1.out.set_ 1 (.int .i64 q1)).set_ 0 (.bool false)
      have a3 := a2.set_ 1 (.int .i64 q1)
      have a4 := a3.set_ 2 (.string ⟨#[]⟩)
      have e0 := a2.at_ 0
      have e1 := a3.at_ 1
      have e2 := a4.at_ 2
      simp only [List.set_cons_succ, List.set_cons_zero, List.getElem?_cons_zero, List.getElem?_cons_succ] at e0 e1 e2
      exact bodyPost_ret (v := .tuple #[.agg #[.bool false, .int .i64 q1, .string ⟨#[]⟩], .string ⟨q2.toArray⟩, .int .i64 q3]) (by simp [results, Try.results25, go_sem, e0, e1, e2]) rfl
        (tv_mk HO.out ((((B1.out.setCell (Nat.le_refl _) _).setCell (Nat.le_refl _) _).setCell (Nat.le_refl _) _).setCell (Nat.le_refl _) _))
    · by_cases hb1 : s[0].toNat = 1
      · have t1 : ((s[0].toNat : Int) == 0) = false := by simp; omega
        have t2 : ((s[0].toNat : Int) == 1) = true := by simp; omega
        obtain ⟨q, hq⟩ : ∃ q, tt (tc 0 0 R) = q := ⟨_, rfl⟩
        have hO : ∃ o, oneS (s[0] :: R) = o ∧ ((o = some (⟨true, 0, ⟨q.1.toArray⟩⟩, q.2.1) ∧ q.2.2 = 0) ∨ (o = none ∧ q.2.2 ≠ 0)) := by
          refine ⟨_, rfl, ?_⟩
          simp only [oneS]
          rw [if_neg (fun e => hb0 (by rw [e]; rfl)), if_pos (byte_is (c := 1) hb1)]
          rw [hq]
          by_cases hy : q.2.2 = 0
          · rw [if_pos hy]; exact .inl ⟨rfl, hy⟩
          · rw [if_neg hy]; exact .inr ⟨rfl, hy⟩
        obtain ⟨O, hO1, hO2⟩ := hO
        rw [hl.out, hO1]
        rw [hq] at ht
        obtain ⟨q1, q2, q3⟩ := q
        have HO := Lib.hid hO2
        unfold tripleS at ht
        dsimp only at ht
        clear hO1 hO2 hl hq hn
        go_enter Try.func25, Try.ntmps25
        go_wp2_with fail
        refine (ht _).out.mono ?_
        rintro e w1 ⟨rfl, b1⟩
        have o1 := (Own.made w 64 [.bool true, .int .i64 0, .string ⟨#[]⟩]).past b1 (by simp)
        have f0 := o1.open_ 0
        have f1 := o1.open_ 1
        have f2 := o1.open_ 2
        have d0 := o1.at_ 0
        have d1 := o1.at_ 1
        have d2 := o1.at_ 2
        have hg := o1.inside
        simp only [List.getElem?_cons_zero, List.getElem?_cons_succ] at d0 d1 d2
        have B1 := Lib.hid (((Below.refl w.heap.size w).alloc (Nat.le_refl _) (.cells #[.bool true, .int .i64 0, .string ⟨#[]⟩] 64)).trans (b1.mono (by simp)))
        have HO1 := Lib.hid o1
        clear b1 o1
        go_wp2_with fail
        have a2 := (HO1.out.set_ 2 (.string ⟨q1.toArray⟩)).set_ 0 (.bool true)
        have a3 := a2.set_ 1 (.int .i64 0)
        have a4 := a3.set_ 2 (.string ⟨q1.toArray⟩)
        have e0 := a2.at_ 0
        have e1 := a3.at_ 1
        have e2 := a4.at_ 2
        simp only [List.set_cons_succ, List.set_cons_zero, List.getElem?_cons_zero, List.getElem?_cons_succ] at e0 e1 e2
        exact bodyPost_ret (v := .tuple #[.agg #[.bool true, .int .i64 0, .string ⟨q1.toArray⟩], .string ⟨q2.toArray⟩, .int .i64 q3]) (by simp [results, Try.results25, go_sem, e0, e1, e2]) rfl
          (tv_mk HO.out ((((B1.out.setCell (Nat.le_refl _) _).setCell (Nat.le_refl _) _).setCell (Nat.le_refl _) _).setCell (Nat.le_refl _) _))
      · have t1 : ((s[0].toNat : Int) == 0) = false := by simp; omega
        have t2 : ((s[0].toNat : Int) == 1) = false := by simp; omega
        have hO : oneS (s[0] :: R) = none := by
          simp only [oneS]
          rw [if_neg (fun e => hb0 (by rw [e]; rfl)), if_neg (fun e => hb1 (by rw [e]; rfl))]
        rw [hl.out, hO]
        clear hO hl hn ht hb0 hb1
        go_enter Try.func25, Try.ntmps25
        go_wp2_with fail
        exact bodyPost_ret (v := .tuple #[.agg #[.bool false, .int .i64 0, .string ⟨#[]⟩], .string ⟨#[]⟩, .int .i64 4]) (by simp [results, Try.results25, go_sem]) rfl (tv_mk (r := []) (.inr ⟨rfl, by decide⟩) ((Below.refl _ _).alloc (Nat.le_refl _) _))
end Go.Proofs.Ytammngncmkhokaa
namespace Go.Proofs.Ytammngncmkhokaa
open Go Go.RowKit

theorem zero_size (z : Array Value) (n : Nat) : (Builtin.zeroCells z n).size = n * z.size := by simp [Builtin.zeroCells]
theorem bytesVl : Try.t64.bytes = 32 := by kernel_rfl
theorem lens_one {L : List (List Vl)} {k : Nat} {l : List Vl} (h : L[k]? = some l) : lens (L.take k) + l.length ≤ lens L := by
  rw [← lens_snoc h]; exact lens_take L (k + 1)
end Go.Proofs.Ytammngncmkhokaa
namespace Go.Proofs.Ytammngncmkhokaa
open Go Go.RowKit

/-- a slice at A of as many numbers as l has reads as l; it lies below block B -/
def Ints (w : World) (B : Nat) (A : Option Addr) (l : List Int) : Prop :=
  0 < l.length → ∃ b o, A = some ⟨b, o, none⟩ ∧ b < B ∧ ∀ (i : Nat) (n : Int), l[i]? = some n → w.cell? ⟨b, o + i, none⟩ = some (.int .i64 n)
section
variable {w w' : World} {B B' b o : Nat} {A : Option Addr} {l : List Int}
theorem Ints.past (h : Ints w B A l) (hb : Below B' w w') (hB : B ≤ B') : Ints w' B A l := fun hn => by
  obtain ⟨b, o, e, hlt, hc⟩ := h hn
  exact ⟨b, o, e, hlt, fun i n hi => (hb.cell (p := ⟨b, o + i, none⟩) (show b < B' by omega)).trans (hc i n hi)⟩
theorem Ints.wide (h : Ints w B A l) (hB : B ≤ B') : Ints w B' A l := fun hn => by
  obtain ⟨b, o, e, hlt, hc⟩ := h hn
  exact ⟨b, o, e, by omega, hc⟩
theorem Ints.nil_ : Ints w B A [] := fun h => absurd h (by simp)
end
theorem ints_keep {a b : World} {A : Option Addr} {l : List Int} (h : Ints a a.heap.size A l) (hb : Below a.heap.size a b) : Ints b b.heap.size A l := (h.past hb (Nat.le_refl _)).wide hb.size
/-- all of them fit a word -/
def Fit64 (l : List Int) : Prop := ∀ n ∈ l, -9223372036854775808 ≤ n ∧ n ≤ 9223372036854775807
end Go.Proofs.Ytammngncmkhokaa
namespace Go.Proofs.Ytammngncmkhokaa
open Go Go.RowKit

def inR (n : Nat) (c : Int) : Bool := decide (0 ≤ c) && decide (c < n)
def colsE (l : List Vl) (cs : List Int) : Int := if chkRow l = 0 then (if cs.all (inR l.length) then (if cs.length ≤ 8 then 0 else 2) else 1) else 4
def pick (l : List Vl) (c : Int) : Vl := l.getD c.toNat default
def colsL (l : List Vl) (cs : List Int) : List Vl := if colsE l cs = 0 then cs.map (pick l) else []
def ColsPost (l : List Vl) (cs : List Int) (w : World) (e : Ending) (w' : World) : Prop :=
  ∃ v, e = .returned (.tuple #[v, .int .i64 (colsE l cs)]) ∧ w'.ownsRow w.heap.size 64 3 v (colsL l cs).length ((colsL l cs).flatMap Vl.cells) ∧ Below w.heap.size w w'
theorem cols_none {l : List Vl} {cs : List Int} {w w' : World} {c : Int} (hE : colsE l cs = c) (hc : c ≠ 0) (hb : Below w.heap.size w w') : ColsPost l cs w (.returned (.tuple #[.slice none 0 0, .int .i64 c])) w' :=
  ⟨_, by rw [hE], by have : colsL l cs = [] := by unfold colsL; rw [if_neg (by rw [hE]; exact hc)]
                     rw [this]; exact World.ownsRow_nil _ _ _ _, hb⟩
theorem chk_cases (l : List Vl) : chkRow l = 0 ∨ chkRow l = 4 := by unfold chkRow; split <;> simp
theorem inR_snoc {cs : List Int} {n k : Nat} {c : Int} (h : cs[k]? = some c) : (cs.take (k + 1)).all (inR n) = ((cs.take k).all (inR n) && inR n c) := by
  rw [List.take_add_one, h]; simp
theorem inR_bad {cs : List Int} {n k : Nat} {c : Int} (h : cs[k]? = some c) (hc : inR n c = false) : cs.all (inR n) = false := by
  cases ho : cs.all (inR n) with
  | false => rfl
  | true => have := List.all_eq_true.1 ho c (List.mem_of_getElem? h); rw [hc] at this; cases this
theorem inR_at {cs : List Int} {n k : Nat} {c : Int} (ho : cs.all (inR n) = true) (h : cs[k]? = some c) : ∃ m : Nat, c = (m : Int) ∧ m < n := by
  have := List.all_eq_true.1 ho c (List.mem_of_getElem? h)
  unfold inR at this
  simp only [Bool.and_eq_true, decide_eq_true_eq] at this
  exact ⟨c.toNat, by omega, by omega⟩
theorem set_cells (pre rest : List Vl) (z x : Vl) (k : Nat) (hk : pre.length = k) :
    ((((pre ++ z :: rest).flatMap Vl.cells).set (k * 3) (.bool x.t)).set (k * 3 + 1) (.int .i64 x.n)).set (k * 3 + 2) (.string x.s) = (pre ++ x :: rest).flatMap Vl.cells := by
  have hl : (pre.flatMap Vl.cells).length = k * 3 := by rw [flat_size (size := 3) (fun _ => rfl), hk]
  rw [List.flatMap_append, List.flatMap_append, List.set_append_right _ _ (by omega), List.set_append_right _ _ (by omega), List.set_append_right _ _ (by omega), hl]
  rw [show k * 3 - k * 3 = 0 by omega, show k * 3 + 1 - k * 3 = 1 by omega, show k * 3 + 2 - k * 3 = 2 by omega]
  simp [Vl.cells]
theorem infoVl' : (Try.prog.info? 64).map (fun i => (i.zero, i.size, i.bytes)) = some (some (.agg #[.bool false, .int .i64 0, .string ⟨#[]⟩]), 3, 32) := infoVl
theorem made_cells (n : Nat) (h : n ≤ 8) : (madeCells #[Value.bool false, Value.int IntKind.i64 0, Value.string ⟨#[]⟩] (n * 3)).toList = (List.replicate n (⟨false, 0, ⟨#[]⟩⟩ : Vl)).flatMap Vl.cells := by
  rcases (show n = 0 ∨ n = 1 ∨ n = 2 ∨ n = 3 ∨ n = 4 ∨ n = 5 ∨ n = 6 ∨ n = 7 ∨ n = 8 by omega) with rfl | rfl | rfl | rfl | rfl | rfl | rfl | rfl | rfl <;> kernel_rfl
theorem own_madeV {w : World} {base g n : Nat} {e : TypeId} {xs : List Value} (h : w.ownsRow base e 3 (.slice (some ⟨g, 0, none⟩) n n) n xs) : Own w g e xs := by
  rcases h.2 with ⟨h0, _⟩ | ⟨g', cap, cur, hv, hb, hg, h1, h2, h3, h4⟩
  · cases h0
  · simp only [Value.slice.injEq, Option.some.injEq, Addr.mk.injEq, and_true] at hv
    obtain ⟨rfl, _, rfl⟩ := hv
    rw [List.take_of_length_le (by rw [Array.length_toList, h3]; exact Nat.le_refl _)] at h4
    subst h4
    unfold Own
    rw [hg]
theorem own_row {w : World} {base g n : Nat} {e : TypeId} {l : List Vl} (h : Own w g e (l.flatMap Vl.cells)) (hg : base ≤ g) (hn : l.length = n) (hm : n ≤ maxLen) : w.ownsRow base e 3 (.slice (some ⟨g, 0, none⟩) n n) n (l.flatMap Vl.cells) := by
  have hl : (l.flatMap Vl.cells).length = n * 3 := by rw [flat_size (size := 3) (fun _ => rfl), hn]
  exact ⟨hl, .inr ⟨g, n, _, rfl, hg, h, Nat.le_refl _, hm, by simpa using hl, by rw [List.toList_toArray, ← hl, List.take_length]⟩⟩

end Go.Proofs.Ytammngncmkhokaa
namespace Go.Proofs.Ytammngncmkhokaa
open Go Go.RowKit

def rowOf (o : Option (List Vl × List UInt8)) : List Vl := match o with | none => [] | some x => x.1
def restOf (o : Option (List Vl × List UInt8)) : List UInt8 := match o with | none => [] | some x => x.2
def whyOf (o : Option (List Vl × List UInt8)) : Int := match o with | none => 4 | some _ => 0
def TakePost (o : Option (List Vl × List UInt8)) (w : World) (e : Ending) (w' : World) : Prop :=
  ∃ v, e = .returned (.tuple #[v, .string ⟨(restOf o).toArray⟩, .int .i64 (whyOf o)]) ∧ w'.ownsRow w.heap.size 64 3 v (rowOf o).length ((rowOf o).flatMap Vl.cells) ∧ Below w.heap.size w w'
theorem take_none {o : Option (List Vl × List UInt8)} {w w' : World} (ho : o = none) (hb : Below w.heap.size w w') : TakePost o w (.returned (.tuple #[.slice none 0 0, .string ⟨#[]⟩, .int .i64 4])) w' := by
  subst ho
  exact ⟨_, rfl, World.ownsRow_nil _ _ _ _, hb⟩
/-- the values' loop: what is left of the bytes -/
theorem takeS_size {s : List UInt8} : ∀ {n : Nat} {l : List Vl} {r : List UInt8}, takeS n s = some (l, r) → s.length ≤ maxLen → r.length ≤ s.length
  | 0, l, r, h, _ => by
    simp [takeS] at h
    rw [h.2]; exact Nat.le_refl _
  | n + 1, l, r, h, hs => by
    unfold takeS at h
    cases h1 : takeS n s with
    | none => rw [h1] at h; cases h
    | some x =>
      obtain ⟨l1, r1⟩ := x
      rw [h1] at h
      simp only at h
      have hr := takeS_size h1 hs
      cases h2 : oneS r1 with
      | none => rw [h2] at h; cases h
      | some y =>
        obtain ⟨v, r2⟩ := y
        rw [h2] at h
        simp only [Option.some.injEq, Prod.mk.injEq] at h
        rw [← h.2]
        exact Nat.le_trans (oneS_ok h2 (Nat.le_trans hr hs)).2 hr
theorem takeS_fine {s : List UInt8} : ∀ {n : Nat} {l : List Vl} {r : List UInt8}, takeS n s = some (l, r) → s.length ≤ maxLen → ∀ v ∈ l, VOk v
  | 0, l, r, h, _ => by
    simp [takeS] at h
    rw [h.1]; intro v hv; cases hv
  | n + 1, l, r, h, hs => by
    unfold takeS at h
    cases h1 : takeS n s with
    | none => rw [h1] at h; cases h
    | some x =>
      obtain ⟨l1, r1⟩ := x
      rw [h1] at h
      simp only at h
      have hr := takeS_size h1 hs
      cases h2 : oneS r1 with
      | none => rw [h2] at h; cases h
      | some y =>
        obtain ⟨v, r2⟩ := y
        rw [h2] at h
        simp only [Option.some.injEq, Prod.mk.injEq] at h
        rw [← h.1]
        intro u hu
        rcases List.mem_append.1 hu with hu | hu
        · exact takeS_fine h1 hs u hu
        · rw [List.mem_singleton.1 hu]
          exact (oneS_ok h2 (Nat.le_trans hr hs)).1
theorem takeR_no {s R : List UInt8} {n : Nat} {y : Int} (hq : tc 0 0 s = (n, R, y)) (h : ¬ (y = 0 ∧ n ≤ 8)) : takeR s = none := by
  unfold takeR; rw [hq]; exact if_neg h
theorem takeR_fell {s R : List UInt8} {n : Nat} {y : Int} (hq : tc 0 0 s = (n, R, y)) (h : takeS n R = none) : takeR s = none := by
  unfold takeR; rw [hq]
  simp only [h]
  split <;> rfl
theorem takeR_is {s R : List UInt8} {n : Nat} {l : List Vl} {r : List UInt8} (hq : tc 0 0 s = (n, R, 0)) (h8 : n ≤ 8) (h : takeS n R = some (l, r)) : takeR s = if l.all Vl.right then some (l, r) else none := by
  unfold takeR; rw [hq]
  simp only [h]
  exact if_pos ⟨trivial, h8⟩
theorem takeS_next {R : List UInt8} {k : Nat} {l : List Vl} {r r' : List UInt8} {x : Vl} (h : takeS k R = some (l, r)) (h1 : oneS r = some (x, r')) : takeS (k + 1) R = some (l ++ [x], r') := by
  unfold takeS; rw [h]; simp only [h1]
theorem takeS_stop {R : List UInt8} {k : Nat} {l : List Vl} {r : List UInt8} (h : takeS k R = some (l, r)) (h1 : oneS r = none) : takeS (k + 1) R = none := by
  unfold takeS; rw [h]; simp only [h1]
def zv : Vl := ⟨false, 0, ⟨#[]⟩⟩
set_option maxRecDepth 100000 in
set_option maxHeartbeats 3200000 in
theorem take_any (s : ByteArray) (w : World) (hs : s.size ≤ maxLen) :
    Calls Try.prog 7 #[.string s] w (TakePost (takeR s.data.toList) w) := by
  have hn := Lib.hid (takeCount_any s w hs)
  have hlen := rest_len (s := s.data.toList)
  obtain ⟨⟨n, R, y⟩, hq⟩ : ∃ q, tc 0 0 s.data.toList = q := ⟨_, rfl⟩
  rw [hq] at hn hlen
  rw [len_of] at hlen
  unfold triple at hn
  dsimp only at hn hlen
  have HT := Lib.hid (And.intro hq (Nat.le_trans hlen hs))
  clear hlen hq hs
  by_cases h1 : y = 0 ∧ n ≤ 8
  · obtain ⟨rfl, h8⟩ := h1
    have t2 : decide ((8 : Int) < (n : Int)) = false := by simp; omega
    have hmk := Lib.hid (made_cells n h8)
    go_enter Try.func7, Try.ntmps7
    go_wp2_with fail
    refine hn.out.mono ?_
    rintro e w1 ⟨rfl, b1⟩
    have hsz := b1.size
    have H1 := Lib.hid b1
    clear b1 hn
    obtain ⟨i0, hi, hz0, hz1, hz2⟩ := info_parts infoVl'
    go_wp2_with (refine wpList_make_full _ rfl (.tmp 23) (.tmp 23) 25 rfl w.heap.size 64 i0 _ 3 Try.underlying25 hi hz0 hz1 .u64 .u64 _ _ n rfl rfl rfl rfl ?c1 ?c2 ?c3 ?_)
    case c1 => rw [hz2]; omega
    case c2 => unfold maxLen; omega
    case c3 => exact hsz
    intro w2 o2 g2
    have o2' : w2.ownsRow w.heap.size 64 3 (.slice (some ⟨w1.heap.size, 0, none⟩) n n) n (madeCells #[Value.bool false, Value.int IntKind.i64 0, Value.string ⟨#[]⟩] (n * 3)).toList := o2
    have ho2 := own_madeV o2'
    have hb2 : Below w.heap.size w w2 := H1.out.grown g2 H1.out.size (fun k hk => by simp at hk)
    have H2 := Lib.hid (And.intro (own_of ho2 hmk.out) hb2)
    have H8 := Lib.hid h8
    clear o2 o2' g2 ho2 hb2 hi hz0 hz1 hz2 hmk h8
    go_wp2_with fail
    go_loopw [6, 27] (fun rs i wr => ∃ k : Nat, i = .int .i64 (k : Int) ∧ k ≤ n ∧ ∃ (l : List Vl) (r : List UInt8), rs = .string ⟨r.toArray⟩ ∧ takeS k R = some (l, r) ∧ Own wr w1.heap.size 64 ((l ++ List.replicate (n - k) zv).flatMap Vl.cells) ∧ Below w.heap.size w wr)
      (fun _ i _ => n - (intOf i).toNat)
    case atStart => exact ⟨0, rfl, by omega, [], R, rfl, rfl, H2.out.1, H2.out.2⟩
    case round =>
      obtain ⟨k, rfl, hk, l, r, rfl, ht, ho, hb⟩ := hrel
      by_cases hlt : k < n
      · have hsr : (⟨r.toArray⟩ : ByteArray).size ≤ maxLen := by rw [sizeL]; exact Nat.le_trans (takeS_size ht HT.out.2) HT.out.2
        have hv := takeValue_any ⟨r.toArray⟩ wr hsr
        unfold TvPost Vl.val at hv
        rw [show (⟨r.toArray⟩ : ByteArray).data.toList = r from rfl] at hv
        have HV := Lib.hid hv
        have HH := Lib.hid (And.intro ht (And.intro ho hb))
        clear hv hsr ht ho hb
        go_wp2_with fail
        refine HV.out.mono ?_
        rintro e w3 ⟨⟨x, r', y, rfl, hor⟩, b3⟩
        obtain ⟨ht, ho, hb⟩ := HH.out
        have ho3 := ho.past b3 ho.inside
        have hb3 := hb.trans (b3.mono hb.size)
        have hrp : List.replicate (n - k) zv = zv :: List.replicate (n - (k + 1)) zv := by
          rw [show n - k = (n - (k + 1)) + 1 by omega]; rfl
        have hlen := takeS_len ht
        rw [hrp] at ho3
        have s0 := ho3.open_ (k * 3)
        have s1 := ho3.open_ (k * 3 + 1)
        have s2 := ho3.open_ (k * 3 + 2)
        have hg := ho3.inside
        obtain ⟨v0, z0⟩ : ∃ v, w3.cell? ⟨w1.heap.size, k * 3, none⟩ = some v := ⟨_, (ho3.at_ _).trans (List.getElem?_eq_getElem (by rw [flat_size (size := 3) (fun _ => rfl)]; simp; omega))⟩
        obtain ⟨v1, z1⟩ : ∃ v, w3.cell? ⟨w1.heap.size, k * 3 + 1, none⟩ = some v := ⟨_, (ho3.at_ _).trans (List.getElem?_eq_getElem (by rw [flat_size (size := 3) (fun _ => rfl)]; simp; omega))⟩
        obtain ⟨v2, z2⟩ : ∃ v, w3.cell? ⟨w1.heap.size, k * 3 + 2, none⟩ = some v := ⟨_, (ho3.at_ _).trans (List.getElem?_eq_getElem (by rw [flat_size (size := 3) (fun _ => rfl)]; simp; omega))⟩
        have H3 := Lib.hid (And.intro ho3 (And.intro hb3 (And.intro hlen ht)))
        clear ho3 hb3 hlen ht ho hb hrp HV b3
        rcases hor with ⟨hO, rfl⟩ | ⟨hO, hy⟩
        · have HO := Lib.hid hO
          have h8 := H8.out
          clear hO
          go_wp2_with fail
          go_roundw
          case rel =>
            obtain ⟨ho, hb, hlen, ht⟩ := H3.out
            refine ⟨k + 1, by go_num, by omega, l ++ [x], r', rfl, takeS_next ht HO.out, own_of (((ho.set_ (k * 3) _).set_ (k * 3 + 1) _).set_ (k * 3 + 2) _) ?_, ((hb.setCell hsz _).setCell hsz _).setCell hsz _⟩
            rw [set_cells _ _ _ _ k hlen, List.append_assoc]
            rfl
          case measure => simp [intOf]; omega
        · have HO := Lib.hid (And.intro hO hy)
          have ty : (y == 0) = false := by simpa using hy
          have ty' : (y != 0) = true := by simpa using hy
          clear hO hy
          go_wp2_with fail
          go_ret3
          obtain ⟨ho, hb, hlen, ht⟩ := H3.out
          exact take_none (takeR_fell HT.out.1 (takeS_fell hlt (takeS_stop ht HO.out.1))) (((hb.setCell hsz _).setCell hsz _).setCell hsz _)
      · have hk3 : k = n := by omega
        subst hk3
        rw [Nat.sub_self, List.replicate_zero, List.append_nil] at ho
        have hlen := takeS_len ht
        have h8 := H8.out
        have hrow := own_row ho hsz hlen (by unfold maxLen; omega)
        have hvals : Vals wr wr.heap.size (some ⟨w1.heap.size, 0, none⟩) l := by
          obtain ⟨A, c, e, _, _, hv⟩ := vals_of_own hlen.symm hrow
          simp only [Value.slice.injEq] at e
          rw [e.1]; exact hv
        have hchk := vcheck_any _ k l wr hvals (by unfold maxLen; omega) (fun v hv => (takeS_fine ht HT.out.2 v hv).1)
        rw [hlen] at hchk
        have HC := Lib.hid hchk
        have hco := chk_cases l
        have H3 := Lib.hid (And.intro ho (And.intro hb (And.intro hlen ht)))
        clear hchk hvals hrow hlen ho hb ht h8
        rcases hco with hz | hz
        · rw [hz] at HC
          have HZ := Lib.hid hz
          clear hz
          go_wp2_with fail
          refine HC.out.mono ?_
          rintro e w3 ⟨rfl, b3⟩
          have B3 := Lib.hid b3
          clear b3
          go_wp2_with fail
          go_ret3
          obtain ⟨ho, hb, hlen, ht⟩ := H3.out
          have hR : takeR s.data.toList = some (l, r) := by
            rw [takeR_is HT.out.1 H8.out ht]
            have := HZ.out
            unfold chkRow at this
            split at this
            · rename_i hc
              simp only [Bool.and_eq_true] at hc
              rw [if_pos hc.1]
            · cases this
          rw [hR]
          refine ⟨_, rfl, ?_, hb.trans (B3.out.mono hb.size)⟩
          unfold rowOf
          dsimp only
          rw [hlen]
          exact own_row (ho.past B3.out ho.inside) hsz hlen (by have := H8.out; unfold maxLen; omega)
        · rw [hz] at HC
          have HZ := Lib.hid hz
          clear hz
          go_wp2_with fail
          refine HC.out.mono ?_
          rintro e w3 ⟨rfl, b3⟩
          have B3 := Lib.hid b3
          clear b3
          go_wp2_with fail
          go_ret3
          obtain ⟨ho, hb, hlen, ht⟩ := H3.out
          refine take_none ?_ (hb.trans (B3.out.mono hb.size))
          rw [takeR_is HT.out.1 H8.out ht]
          have := HZ.out
          have h8 := H8.out
          unfold chkRow at this
          split at this
          · cases this
          · rename_i hc
            rw [if_neg]
            intro ha
            exact hc (by rw [ha, hlen]; simpa using h8)
  · have hno := takeR_no HT.out.1 h1
    have HN := Lib.hid hno
    by_cases hy : y = 0
    · subst hy
      have t2 : decide ((8 : Int) < (n : Int)) = true := by simp; omega
      clear h1 hno
      go_enter Try.func7, Try.ntmps7
      go_wp2_with fail
      refine hn.out.mono ?_
      rintro e w1 ⟨rfl, b1⟩
      have H1 := Lib.hid b1
      clear b1 hn
      go_wp2_with fail
      go_ret3
      exact take_none HN.out H1.out
    · have ty : (y == 0) = false := by simpa using hy
      have ty' : (y != 0) = true := by simpa using hy
      clear h1 hno
      go_enter Try.func7, Try.ntmps7
      go_wp2_with fail
      refine hn.out.mono ?_
      rintro e w1 ⟨rfl, b1⟩
      have H1 := Lib.hid b1
      clear b1 hn
      go_wp2_with fail
      go_ret3
      exact take_none HN.out H1.out
end Go.Proofs.Ytammngncmkhokaa
namespace Go.Proofs.Ytammngncmkhokaa
open Go Go.RowKit

/-- the right value that bytes begin with -/
def oneR (s : List UInt8) : Option (Vl × List UInt8) := match oneS s with | none => none | some x => if x.1.right then some x else none
def OnePost (o : Option (Vl × List UInt8)) (w : World) (e : Ending) (w' : World) : Prop :=
  (∃ (x : Vl) (r : List UInt8) (b : Bool), e = .returned (.tuple #[.agg #[.bool x.t, .int .i64 x.n, .string x.s], .string ⟨r.toArray⟩, .bool b]) ∧ ((o = some (x, r) ∧ b = true) ∨ (o = none ∧ b = false))) ∧ Below w.heap.size w w'
theorem one_mk {o : Option (Vl × List UInt8)} {w w' : World} {t : Bool} {n : Int} {s : ByteArray} {r : List UInt8} {b : Bool} (h : (o = some (⟨t, n, s⟩, r) ∧ b = true) ∨ (o = none ∧ b = false)) (hb : Below w.heap.size w w') :
    OnePost o w (.returned (.tuple #[.agg #[.bool t, .int .i64 n, .string s], .string ⟨r.toArray⟩, .bool b])) w' := ⟨⟨⟨t, n, s⟩, r, b, rfl, h⟩, hb⟩
theorem oneR_num (R : List UInt8) (b : UInt8) (hb : b.toNat = 0) (q : Int × List UInt8 × Int) (hq : tn (tc 0 0 R) = q) :
    (oneR (b :: R) = some (⟨false, q.1, ⟨#[]⟩⟩, q.2.1) ∧ q.2.2 = 0) ∨ (oneR (b :: R) = none ∧ q.2.2 ≠ 0) := by
  unfold oneR
  simp only [oneS]
  rw [if_pos (byte_is (c := 0) hb), hq]
  by_cases hy : q.2.2 = 0
  · rw [if_pos hy]; exact .inl ⟨rfl, hy⟩
  · rw [if_neg hy]; exact .inr ⟨rfl, hy⟩
theorem oneR_text (R : List UInt8) (b : UInt8) (hb : b.toNat = 1) (q : List UInt8 × List UInt8 × Int) (hq : tt (tc 0 0 R) = q) :
    (oneR (b :: R) = some (⟨true, 0, ⟨q.1.toArray⟩⟩, q.2.1) ∧ q.2.2 = 0 ∧ q.1.length ≤ 64) ∨ (oneR (b :: R) = none ∧ ¬ (q.2.2 = 0 ∧ q.1.length ≤ 64)) := by
  have hb0 : ¬ b = 0 := fun e => by rw [e] at hb; cases hb
  unfold oneR
  simp only [oneS]
  rw [if_neg hb0, if_pos (byte_is (c := 1) hb), hq]
  by_cases hy : q.2.2 = 0
  · rw [if_pos hy]
    by_cases hl : q.1.length ≤ 64
    · refine .inl ⟨?_, hy, hl⟩
      have : Vl.right ⟨true, 0, ⟨q.1.toArray⟩⟩ = true := by
        unfold Vl.right
        simp only [if_true, sizeL]
        simpa using hl
      simp only [this, if_true]
    · refine .inr ⟨?_, fun h => hl h.2⟩
      have : Vl.right ⟨true, 0, ⟨q.1.toArray⟩⟩ = false := by
        unfold Vl.right
        simp only [if_true, sizeL]
        simpa using hl
      simp [this]
  · rw [if_neg hy]; exact .inr ⟨rfl, fun h => hy h.1⟩
end Go.Proofs.Ytammngncmkhokaa
namespace Go.Proofs.Ytammngncmkhokaa
open Go Go.RowKit

def takeQ : Nat → List UInt8 → Option (List Vl × List UInt8)
  | 0, s => some ([], s)
  | n + 1, s => match takeQ n s with
    | none => none
    | some (l, r) => match oneR r with
      | none => none
      | some (v, r') => some (l ++ [v], r')
theorem takeQ_is : ∀ (n : Nat) (s : List UInt8), takeQ n s = (takeS n s).bind fun x => if x.1.all Vl.right then some x else none
  | 0, s => rfl
  | n + 1, s => by
    unfold takeQ takeS
    rw [takeQ_is n s]
    cases h1 : takeS n s with
    | none => rfl
    | some x =>
      obtain ⟨l, r⟩ := x
      simp only [Option.bind_some]
      cases h2 : oneS r with
      | none =>
        have ho : oneR r = none := by unfold oneR; rw [h2]
        by_cases ha : l.all Vl.right = true
        · rw [if_pos ha]; simp only [ho]; rfl
        · rw [if_neg ha]; rfl
      | some y =>
        obtain ⟨v, r'⟩ := y
        simp only [Option.bind_some, List.all_append, List.all_cons, List.all_nil, Bool.and_true]
        by_cases ha : l.all Vl.right = true
        · rw [if_pos ha]
          by_cases hv : v.right = true
          · have ho : oneR r = some (v, r') := by unfold oneR; rw [h2]; simp only [hv, if_true]
            simp only [ho, ha, hv, Bool.and_self, if_true]
          · have ho : oneR r = none := by unfold oneR; rw [h2]; simp [hv]
            simp [ho, ha, hv]
        · simp [ha]
theorem takeQ_len {n : Nat} {s : List UInt8} {l : List Vl} {r : List UInt8} (h : takeQ n s = some (l, r)) : takeS n s = some (l, r) ∧ l.all Vl.right = true := by
  rw [takeQ_is] at h
  cases h1 : takeS n s with
  | none => rw [h1] at h; cases h
  | some x =>
    rw [h1] at h
    simp only [Option.bind_some] at h
    split at h
    · rename_i ha
      simp only [Option.some.injEq] at h
      subst h
      exact ⟨rfl, ha⟩
    · cases h
theorem takeQ_fell {s : List UInt8} : ∀ {k n : Nat}, k ≤ n → takeQ k s = none → takeQ n s = none
  | k, 0, h, e => by obtain rfl : k = 0 := by omega
                     exact e
  | k, n + 1, h, e => by
    by_cases hk : k = n + 1
    · subst hk; exact e
    · unfold takeQ
      rw [takeQ_fell (show k ≤ n by omega) e]
theorem takeQ_next {R : List UInt8} {k : Nat} {l : List Vl} {r r' : List UInt8} {x : Vl} (h : takeQ k R = some (l, r)) (h1 : oneR r = some (x, r')) : takeQ (k + 1) R = some (l ++ [x], r') := by
  unfold takeQ; rw [h]; simp only [h1]
theorem takeQ_stop {R : List UInt8} {k : Nat} {l : List Vl} {r : List UInt8} (h : takeQ k R = some (l, r)) (h1 : oneR r = none) : takeQ (k + 1) R = none := by
  unfold takeQ; rw [h]; simp only [h1]
theorem takeR_q {s R : List UInt8} {n : Nat} (hq : tc 0 0 s = (n, R, 0)) (h8 : n ≤ 8) : takeR s = takeQ n R := by
  rw [takeQ_is]
  cases h : takeS n R with
  | none => rw [takeR_fell hq h]; rfl
  | some x => rw [takeR_is hq h8 h]; rfl
end Go.Proofs.Ytammngncmkhokaa
namespace Go.Proofs.Ytammngncmkhokaa
open Go Go.RowKit

theorem tc_enc : ∀ (f m : Nat), m < f → ∀ (k n : Nat) (rest : List UInt8), k ≤ 9 → m * 128 ^ k < 18446744073709551616 → (0 < k → 0 < m) → tc k n (enc m ++ rest) = (n + m * 128 ^ k, rest, 0) := by
  intro f
  induction f with
  | zero => intro m h; omega
  | succ f ih =>
    intro m hm k n rest hk hfit hpos
    by_cases h1 : m < 128
    · rw [enc_lt h1]
      have hb : (UInt8.ofNat m).toNat = m := by simp; omega
      have h9 : k = 9 → m ≤ 1 := by
        rintro rfl
        have : (128 : Nat) ^ 9 = 9223372036854775808 := by decide
        rw [this] at hfit; omega
      have hbad : ¬ ((k = 9 ∧ 1 < (UInt8.ofNat m).toNat) ∨ (0 < k ∧ (UInt8.ofNat m).toNat = 0)) := by rw [hb]; omega
      show tc k n (UInt8.ofNat m :: rest) = _
      rw [tc, if_neg hbad, hb, if_pos h1, Nat.mod_eq_of_lt h1]
    · rw [enc_ge (by omega)]
      have hb : (UInt8.ofNat (m % 128 + 128)).toNat = m % 128 + 128 := by simp; omega
      have hk8 : k ≠ 9 := by
        rintro rfl
        have : (128 : Nat) ^ 9 = 9223372036854775808 := by decide
        rw [this] at hfit; omega
      have hbad : ¬ ((k = 9 ∧ 1 < (UInt8.ofNat (m % 128 + 128)).toNat) ∨ (0 < k ∧ (UInt8.ofNat (m % 128 + 128)).toNat = 0)) := by rw [hb]; omega
      show tc k n (UInt8.ofNat (m % 128 + 128) :: (enc (m / 128) ++ rest)) = _
      rw [tc, if_neg hbad, hb, if_neg (by omega)]
      have e : m / 128 * 128 ^ (k + 1) + m % 128 * 128 ^ k = m * 128 ^ k := by
        rw [Nat.pow_succ, Nat.mul_comm (128 ^ k) 128, ← Nat.mul_assoc, ← Nat.add_mul]
        congr 1; omega
      have e2 : (m % 128 + 128) % 128 = m % 128 := by omega
      rw [ih (m / 128) (by omega) (k + 1) _ rest (by omega) (by omega) (fun _ => by omega), e2]
      congr 1
      omega

theorem tc_short : ∀ (f m : Nat), m < f → ∀ (k n j : Nat), k ≤ 9 → m * 128 ^ k < 18446744073709551616 → j < (enc m).length → tc k n ((enc m).take j) = (0, [], 3) := by
  intro f
  induction f with
  | zero => intro m h; omega
  | succ f ih =>
    intro m hm k n j hk hfit hj
    match j with
    | 0 => rw [List.take_zero]; rfl
    | j + 1 =>
      have h1 : ¬ m < 128 := fun h => by rw [enc_lt h] at hj; simp at hj
      rw [enc_ge (by omega)] at hj ⊢
      have hb : (UInt8.ofNat (m % 128 + 128)).toNat = m % 128 + 128 := by simp; omega
      have hk8 : k ≠ 9 := by
        rintro rfl
        have : (128 : Nat) ^ 9 = 9223372036854775808 := by decide
        rw [this] at hfit; omega
      have hbad : ¬ ((k = 9 ∧ 1 < (UInt8.ofNat (m % 128 + 128)).toNat) ∨ (0 < k ∧ (UInt8.ofNat (m % 128 + 128)).toNat = 0)) := by rw [hb]; omega
      have e : m / 128 * 128 ^ (k + 1) + m % 128 * 128 ^ k = m * 128 ^ k := by
        rw [Nat.pow_succ, Nat.mul_comm (128 ^ k) 128, ← Nat.mul_assoc, ← Nat.add_mul]
        congr 1; omega
      rw [List.take_succ_cons, tc, if_neg hbad, hb, if_neg (by omega)]
      exact ih (m / 128) (by omega) (k + 1) _ j (by omega) (by omega) (by simpa using hj)

theorem tc_back (m : Nat) (rest : List UInt8) (h : m < 18446744073709551616) : tc 0 0 (enc m ++ rest) = (m, rest, 0) := by
  have := tc_enc (m + 1) m (by omega) 0 0 rest (by omega) (by simpa using h) (by omega)
  simpa using this
theorem tc_cut (m j : Nat) (h : m < 18446744073709551616) (hj : j < (enc m).length) : tc 0 0 ((enc m).take j) = (0, [], 3) :=
  tc_short (m + 1) m (by omega) 0 0 j (by omega) (by simpa using h) hj
theorem tn_back (m : Int) (rest : List UInt8) : tn (zig m, rest, 0) = (m, rest, 0) := by
  unfold zig
  by_cases h : m < 0
  · rw [if_pos h, tn_odd (by omega)]; congr 1; omega
  · rw [if_neg h, tn_even (by omega)]; congr 1; omega
theorem tt_back (l rest : List UInt8) (h : ¬ 65536 < l.length) : tt (tc 0 0 (txt l ++ rest)) = (l, rest, 0) := by
  unfold txt
  rw [List.append_assoc, tc_back _ _ (by omega), tt_fits h (by simp)]
  simp

theorem tn_no {n : Nat} {r : List UInt8} {y : Int} (h : y ≠ 0) : (tn (n, r, y)).2.2 ≠ 0 := by
  unfold tn
  split
  · rename_i h2; exact absurd h2 h
  · exact h
theorem tt_no {n : Nat} {r : List UInt8} {y : Int} (h : y ≠ 0) : (tt (n, r, y)).2.2 ≠ 0 := by
  unfold tt
  split
  · rename_i h2; exact absurd h2 h
  · exact h
theorem zig_lt' {m : Int} (h0 : -9223372036854775808 ≤ m) (h1 : m ≤ 9223372036854775807) : zig m < 18446744073709551616 := by
  unfold zig; split <;> omega
theorem right_num {v : Vl} (h : v.right = true) (ht : v.t = false) : v = ⟨false, v.n, ⟨#[]⟩⟩ := by
  obtain ⟨t, n, s⟩ := v
  obtain rfl : t = false := ht
  unfold Vl.right at h
  simp only [Bool.false_eq_true, if_false, List.isEmpty_iff] at h
  have : s = ⟨#[]⟩ := str_ext h
  rw [this]
theorem right_text {v : Vl} (h : v.right = true) (ht : v.t = true) : v = ⟨true, 0, ⟨v.s.data.toList.toArray⟩⟩ ∧ v.s.data.toList.length ≤ 64 := by
  obtain ⟨t, n, s⟩ := v
  obtain rfl : t = true := ht
  unfold Vl.right at h
  simp only [if_true, Bool.and_eq_true, beq_iff_eq, decide_eq_true_eq] at h
  obtain ⟨rfl, h2⟩ := h
  refine ⟨?_, by rw [len_of]; exact h2⟩
  congr 1
theorem oneS_back {v : Vl} (h : v.right = true) (ok : VOk v) (rest : List UInt8) : oneS (vB v ++ rest) = some (v, rest) := by
  cases ht : v.t with
  | false =>
    have e := right_num h ht
    have hb : vB v = 0 :: enc (zig v.n) := by unfold vB; rw [ht]; rfl
    rw [hb]
    show oneS (0 :: (enc (zig v.n) ++ rest)) = _
    simp only [oneS, if_true]
    rw [tc_back _ _ (zig_lt' ok.2.1 ok.2.2), tn_back]
    simp only [if_true]
    rw [← e]
  | true =>
    obtain ⟨e, hl⟩ := right_text h ht
    have hb : vB v = 1 :: txt v.s.data.toList := by unfold vB; rw [ht]; rfl
    rw [hb]
    show oneS (1 :: (txt v.s.data.toList ++ rest)) = _
    simp only [oneS]
    rw [if_neg (by decide), if_pos trivial, tt_back _ _ (by omega)]
    simp only [if_true]
    rw [← e]
theorem oneS_cut {v : Vl} (h : v.right = true) (ok : VOk v) {j : Nat} (hj : j < (vB v).length) : oneS ((vB v).take j) = none := by
  match j with
  | 0 => rfl
  | j + 1 =>
    cases ht : v.t with
    | false =>
      have hb : vB v = 0 :: enc (zig v.n) := by unfold vB; rw [ht]; rfl
      rw [hb] at hj ⊢
      rw [List.take_succ_cons]
      simp only [oneS, if_true]
      rw [tc_cut _ _ (zig_lt' ok.2.1 ok.2.2) (by simpa using hj), if_neg (tn_no (by decide))]
    | true =>
      obtain ⟨e, hl⟩ := right_text h ht
      have hb : vB v = 1 :: txt v.s.data.toList := by unfold vB; rw [ht]; rfl
      rw [hb] at hj ⊢
      rw [List.take_succ_cons]
      simp only [oneS]
      rw [if_neg (by decide), if_pos trivial]
      generalize v.s.data.toList = s at *
      have hj' : j < (txt s).length := by simpa using hj
      unfold txt at hj' ⊢
      rw [List.length_append] at hj'
      by_cases hc : j < (enc s.length).length
      · rw [List.take_append_of_le_length (by omega), tc_cut _ _ (by omega) hc, if_neg (tt_no (by decide))]
      · rw [List.take_append, List.take_of_length_le (by omega), tc_back _ _ (by omega), tt_short (by omega) (by rw [List.length_take]; omega)]
        exact if_neg (by decide)
theorem takeS_cons : ∀ (n : Nat) (s : List UInt8), takeS (n + 1) s = match oneS s with | none => none | some (v, r) => (takeS n r).map fun x => (v :: x.1, x.2)
  | 0, s => by
    unfold takeS
    simp only [takeS]
    cases h : oneS s with
    | none => rfl
    | some y => obtain ⟨v, r⟩ := y; rfl
  | n + 1, s => by
    rw [takeS, takeS_cons n s]
    cases h : oneS s with
    | none => rfl
    | some y =>
      obtain ⟨v, r⟩ := y
      simp only
      rw [takeS]
      cases h1 : takeS n r with
      | none => rfl
      | some x =>
        obtain ⟨l, q⟩ := x
        simp only [Option.map_some]
        cases h2 : oneS q with
        | none => rfl
        | some z => obtain ⟨u, q'⟩ := z; rfl
theorem takeS_back : ∀ {l : List Vl}, l.all Vl.right = true → (∀ v ∈ l, VOk v) → ∀ rest, takeS l.length (l.flatMap vB ++ rest) = some (l, rest)
  | [], _, _, rest => rfl
  | v :: l, hr, ok, rest => by
    simp only [List.all_cons, Bool.and_eq_true] at hr
    rw [List.length_cons, takeS_cons, List.flatMap_cons, List.append_assoc, oneS_back hr.1 (ok v (by simp))]
    simp only
    rw [takeS_back hr.2 (fun u hu => ok u (by simp [hu])) rest]
    rfl
theorem takeS_cut : ∀ {l : List Vl}, l.all Vl.right = true → (∀ v ∈ l, VOk v) → ∀ {j : Nat}, j < (l.flatMap vB).length → takeS l.length ((l.flatMap vB).take j) = none
  | [], _, _, j, hj => by simp at hj
  | v :: l, hr, ok, j, hj => by
    simp only [List.all_cons, Bool.and_eq_true] at hr
    rw [List.flatMap_cons, List.length_append] at hj
    rw [List.length_cons, takeS_cons, List.flatMap_cons]
    by_cases hc : j < (vB v).length
    · rw [List.take_append_of_le_length (by omega), oneS_cut hr.1 (ok v (by simp)) hc]
    · rw [List.take_append, List.take_of_length_le (by omega), oneS_back hr.1 (ok v (by simp))]
      simp only
      rw [takeS_cut hr.2 (fun u hu => ok u (by simp [hu])) (by omega)]
      rfl
theorem takeR_back {l : List Vl} (hz : chkRow l = 0) (ok : ∀ v ∈ l, VOk v) (rest : List UInt8) : takeR (encS l ++ rest) = some (l, rest) := by
  rcases chk_case' l with ⟨_, hr, h8⟩ | h4
  · unfold encS rowB
    rw [if_pos hz, List.append_assoc, takeR_is (tc_back _ _ (by omega)) h8 (takeS_back hr ok rest), if_pos hr]
  · rw [hz] at h4; cases h4
theorem takeR_cut {l : List Vl} (hz : chkRow l = 0) (ok : ∀ v ∈ l, VOk v) {j : Nat} (hj : j < (encS l).length) : takeR ((encS l).take j) = none := by
  rcases chk_case' l with ⟨_, hr, h8⟩ | h4
  · unfold encS rowB at hj ⊢
    rw [if_pos hz] at hj ⊢
    rw [List.length_append] at hj
    by_cases hc : j < (enc l.length).length
    · rw [List.take_append_of_le_length (by omega)]
      exact takeR_no (tc_cut _ _ (by omega) hc) (by decide)
    · rw [List.take_append, List.take_of_length_le (by omega)]
      exact takeR_fell (tc_back _ _ (by omega)) (takeS_cut hr ok (by omega))
  · rw [hz] at h4; cases h4
end Go.Proofs.Ytammngncmkhokaa
namespace Go.Proofs.Ytammngncmkhokaa
open Go Go.RowKit
attribute [local go_sem ↓] Go.wp_at_zero Go.wp_at_succ


set_option maxRecDepth 100000 in
set_option maxHeartbeats 400000 in
theorem greater_any (x y : Nat) (w : World) :
    Calls Try.prog 23 #[.int .u64 (x : Int), .int .u64 (y : Int)] w fun e w' => e = .returned (.int .u64 ((max x y : Nat) : Int)) ∧ w = w' := by
  go_enter Try.func23, Try.ntmps23
  go_wp2_with fail
  all_goals
    go_ret
    exact ⟨ret_u64 (by omega), rfl⟩

set_option maxRecDepth 100000 in
set_option maxHeartbeats 800000 in
theorem each_greater (a b c d : Nat) (w : World) :
    Calls Try.prog 28 #[.agg #[.int .u64 (a : Int), .int .u64 (b : Int)], .agg #[.int .u64 (c : Int), .int .u64 (d : Int)], .func (.func 23) #[] #[]] w
      fun e w' => e = .returned (.agg #[.int .u64 ((max a c : Nat) : Int), .int .u64 ((max b d : Nat) : Int)]) ∧ Below w.heap.size w w' := by
  go_enter Try.func28, Try.ntmps28
  go_wp2_with fail
  go_loopw [8] (fun i wr => ∃ k : Nat, i = .int .i64 (k : Int) ∧ k ≤ 2 ∧ Below w.heap.size w wr ∧
      Own wr w.heap.size 30 [.int .u64 ((if 0 < k then max a c else a : Nat) : Int), .int .u64 ((if 1 < k then max b d else b : Nat) : Int)] ∧
      Own wr (w.heap.size + 1) 30 [.int .u64 (c : Int), .int .u64 (d : Int)] ∧ Own wr (w.heap.size + 1 + 1) 30 [.int .u64 0, .int .u64 0])
    (fun i _ => 2 - (intOf i).toNat)
  case atStart =>
    exact ⟨0, rfl, by omega, (((Below.refl _ _).alloc (Nat.le_refl _) _).alloc (by simp) _).alloc (by simp; omega) _, ((Own.made w _ _).more _).more _, by have := (Own.made (w.alloc (.cells #[.int .u64 (a : Int), .int .u64 (b : Int)] 30)) 30 [.int .u64 (c : Int), .int .u64 (d : Int)]).more (.cells #[.int .u64 0, .int .u64 0] 30); simpa using this, by
      have := Own.made ((w.alloc (.cells #[.int .u64 (a : Int), .int .u64 (b : Int)] 30)).alloc (.cells #[.int .u64 (c : Int), .int .u64 (d : Int)] 30)) 30 [.int .u64 0, .int .u64 0]; simpa using this⟩
  case round =>
    obtain ⟨k, rfl, hk, hb, h1, h2, h3⟩ := hrel
    have hs := h3.inside
    have Hs := Lib.hid (And.intro hb (And.intro h1 (And.intro h2 h3)))
    rcases (by omega : k = 0 ∨ k = 1 ∨ k = 2) with rfl | rfl | rfl
    · have c1 : wr.cell? ⟨w.heap.size, 0, none⟩ = some (.int .u64 (a : Int)) := h1.at_ 0
      have c2 : wr.cell? ⟨w.heap.size + 1, 0, none⟩ = some (.int .u64 (c : Int)) := h2.at_ 0
      have c3 : wr.frozen? ⟨w.heap.size, 0, none⟩ = false := h1.open_ 0
      clear h1 h2 h3 hb hk
      go_wp2_with fail
      go_region_with (go_at_call 23; refine (greater_any _ _ _).mono ?_; rintro e w' ⟨rfl, rfl⟩)
      all_goals
        go_wp2_with fail
        obtain ⟨hb, h1, h2, h3⟩ := Hs.out
        go_roundw
        case rel => exact ⟨1, by go_num, by omega, (hb.setCell (by simp) _).drew, (h1.set_ 0 _).draws 1, (h2.other (by simp) _).draws 1, (h3.other (by simp; omega) _).draws 1⟩
        case measure => simp [intOf]
    · have c1 : wr.cell? ⟨w.heap.size, 1, none⟩ = some (.int .u64 (b : Int)) := h1.at_ 1
      have c2 : wr.cell? ⟨w.heap.size + 1, 1, none⟩ = some (.int .u64 (d : Int)) := h2.at_ 1
      have c3 : wr.frozen? ⟨w.heap.size, 1, none⟩ = false := h1.open_ 1
      clear h1 h2 h3 hb hk
      go_wp2_with fail
      go_region_with (go_at_call 23; refine (greater_any _ _ _).mono ?_; rintro e w' ⟨rfl, rfl⟩)
      all_goals
        go_wp2_with fail
        obtain ⟨hb, h1, h2, h3⟩ := Hs.out
        go_roundw
        case rel => exact ⟨2, by go_num, by omega, (hb.setCell (by simp) _).drew, (h1.set_ 1 _).draws 1, (h2.other (by simp) _).draws 1, (h3.other (by simp; omega) _).draws 1⟩
        case measure => simp [intOf]
    · have c1 : wr.cell? ⟨w.heap.size, 0, none⟩ = some (.int .u64 ((max a c : Nat) : Int)) := h1.at_ 0
      have c2 : wr.cell? ⟨w.heap.size, 1, none⟩ = some (.int .u64 ((max b d : Nat) : Int)) := h1.at_ 1
      have c3 : wr.frozen? ⟨w.heap.size + 1 + 1, 0, none⟩ = false := h3.open_ 0
      have c4 : wr.frozen? ⟨w.heap.size + 1 + 1, 1, none⟩ = false := h3.open_ 1
      have c5 : wr.cell? ⟨w.heap.size + 1 + 1, 0, none⟩ = some (.int .u64 0) := h3.at_ 0
      have c6 : wr.cell? ⟨w.heap.size + 1 + 1, 1, none⟩ = some (.int .u64 0) := h3.at_ 1
      clear h1 h2 h3 hb hk
      go_wp2_with fail
      have h3 := Hs.out.2.2.2
      have d1 : (wr.setCell ⟨w.heap.size + 1 + 1, 0, none⟩ (.int .u64 ((max a c : Nat) : Int))).cell? ⟨w.heap.size + 1 + 1, 0, none⟩ = some (.int .u64 ((max a c : Nat) : Int)) := (h3.set_ 0 _).at_ 0
      have d2 : ((wr.setCell ⟨w.heap.size + 1 + 1, 0, none⟩ (.int .u64 ((max a c : Nat) : Int))).setCell ⟨w.heap.size + 1 + 1, 1, none⟩ (.int .u64 ((max b d : Nat) : Int))).cell? ⟨w.heap.size + 1 + 1, 1, none⟩ = some (.int .u64 ((max b d : Nat) : Int)) := ((h3.set_ 0 _).set_ 1 _).at_ 1
      refine bodyPost_ret (v := .agg #[.int .u64 ((max a c : Nat) : Int), .int .u64 ((max b d : Nat) : Int)]) (by simp [results, Try.results28, go_sem, d1, d2]) rfl ⟨rfl, ((Hs.out.1).setCell (by simp; omega) _).setCell (by simp; omega) _⟩

end Go.Proofs.Ytammngncmkhokaa
namespace Go.Proofs.Ytammngncmkhokaa
open Go Go.RowKit

theorem fold_take {α : Type} (f : α → α → α) (x s : α) (l : List α) (k : Nat) (h : l[k]? = some s) : (l.take (k + 1)).foldl f x = f ((l.take k).foldl f x) s := by
  rw [List.take_add_one, h, List.foldl_append]; rfl

set_option maxRecDepth 100000 in
set_option maxHeartbeats 1600000 in
theorem bound_sup (b o c : Nat) (x : Tm) (l : List Tm) (w : World) (hx : TmAt w b o x) (hB : b < w.heap.size) (hl : ∀ (i : Nat) (t : Tm), l[i]? = some t → TmAt w b (o + 3 + i * 3) t) (hc : l.length + 1 ≤ c) (hn : c ≤ maxLen) :
    Calls Try.prog 22 #[.slice (some ⟨b, o, none⟩) (l.length + 1) c, .func (.func 23) #[] #[]] w
      fun e w' => e = .returned (l.foldl Tm.sup x).val ∧ Below w.heap.size w w' := by
  unfold maxLen at hn
  have Hl := Lib.hid hl
  clear hl
  obtain ⟨x0, x1, x2⟩ := hx
  have hcall := fun (s t : Tm) (W : World) => Lib.hid (each_greater s.a s.b t.a t.b W)
  have hB' : b < w.heap.size + 1 := by omega
  have hne0 : ¬ b = w.heap.size := by omega
  by_cases hc1 : c = 1
  · have hl0 : l = [] := List.eq_nil_of_length_eq_zero (by omega)
    subst hl0 hc1
    simp only [List.length_nil, Nat.zero_add, List.foldl_nil]
    unfold Tm.val
    go_enter Try.func22, Try.ntmps22
    go_wp2_with fail
    go_rounds 1
    refine bodyPost_ret (v := .agg #[.int .u64 (x.e : Int), .int .u64 (x.a : Int), .int .u64 (x.b : Int)]) (by simp [results, Try.results22, go_sem]) rfl ⟨rfl, ((Below.refl _ _).alloc (Nat.le_refl _) _).alloc (by simp) _⟩
  · have h10 : ((l.length : Int) + 1 == 0) = false := by simp; omega
    go_enter Try.func22, Try.ntmps22
    go_wp2_with fail
    go_loopw [18] (fun i wr => ∃ k : Nat, i = .int .i64 (k : Int) ∧ k ≤ l.length ∧ Below w.heap.size w wr ∧
        Own wr w.heap.size 32 [.int .u64 0, .int .u64 0, .int .u64 0] ∧ Own wr (w.heap.size + 1) 32 ((l.take k).foldl Tm.sup x).cells)
      (fun i _ => l.length - (intOf i).toNat)
    case atStart =>
      exact ⟨0, rfl, by omega, ((Below.refl _ _).alloc (Nat.le_refl _) _).alloc (by simp) _, (Own.made w _ _).more _, by have := Own.made (w.alloc (.cells #[.int .u64 0, .int .u64 0, .int .u64 0] 32)) 32 x.cells; simpa [Tm.cells] using this⟩
    case round =>
      obtain ⟨k, rfl, hk, hb, hr, hf⟩ := hrel
      have hs := hf.inside
      by_cases hlt : k < l.length
      · have hx : l[k]? = some l[k] := List.getElem?_eq_getElem hlt
        obtain ⟨c0, c1, c2⟩ := (Hl.out k _ hx).past hb hB
        have hsn := fold_take Tm.sup x _ l k hx
        generalize l[k] = s at *
        generalize hg : (l.take k).foldl Tm.sup x = g at *
        have f0 := hf.at_ 0
        have f1 := hf.at_ 1
        have f2 := hf.at_ 2
        have g0 := hf.open_ 0
        have g1 := hf.open_ 1
        have g2 := hf.open_ 2
        simp only [Tm.cells, List.getElem?_cons_zero, List.getElem?_cons_succ] at f0 f1 f2
        have HH := Lib.hid (And.intro hb (And.intro hr (And.intro hf (And.intro hsn (And.intro hx hg)))))
        clear hb hr hf hsn hx hg
        go_wp2_with fail
        refine (greater_any _ _ _).mono ?_
        rintro e w1 ⟨rfl, rfl⟩
        go_wp2_with fail
        refine (each_greater _ _ _ _ _).mono ?_
        rintro e w1 ⟨rfl, h1⟩
        have hf1 : Own w1 (w.heap.size + 1) 32 [.int .u64 ((max g.e s.e : Nat) : Int), .int .u64 (g.a : Int), .int .u64 (g.b : Int)] := ((HH.out.2.2.1.set_ 0 _).more _).past h1 (by simp; omega)
        have hr1 : Own w1 w.heap.size 32 [.int .u64 0, .int .u64 0, .int .u64 0] := ((HH.out.2.1.other (p := ⟨w.heap.size + 1, 0, none⟩) (by simp) _).more _).past h1 (by simp; omega)
        have hb1 : Below w.heap.size w w1 := ((HH.out.1.setCell (p := ⟨w.heap.size + 1, 0, none⟩) (by simp) _).alloc (by simp; omega) _).trans (h1.mono (by simp; omega))
        have k1 := hf1.open_ 1
        have k2 := hf1.open_ 2
        have k3 := hf1.at_ 1
        have k4 := hf1.at_ 2
        simp only [List.getElem?_cons_zero, List.getElem?_cons_succ] at k3 k4
        have H1 := Lib.hid (And.intro hf1 (And.intro hr1 hb1))
        clear hf1 hr1 hb1 h1
        go_wp2_with fail
        obtain ⟨hf1, hr1, hb1⟩ := H1.out
        obtain ⟨hb, hr, hf, hsn, hx, hg⟩ := HH.out
        go_roundw
        case rel => exact ⟨k + 1, by go_num, by omega, (hb1.setCell (p := ⟨w.heap.size + 1, 1, none⟩) (by simp) _).setCell (p := ⟨w.heap.size + 1, 2, none⟩) (by simp) _, (hr1.other (p := ⟨w.heap.size + 1, 1, none⟩) (by simp) _).other (p := ⟨w.heap.size + 1, 2, none⟩) (by simp) _, by rw [hsn]; exact (hf1.set_ 1 _).set_ 2 _⟩
        case measure => simp [intOf]; omega
      · have hk2 : k = l.length := by omega
        have f0 := hf.at_ 0
        have f1 := hf.at_ 1
        have f2 := hf.at_ 2
        have g0 := hr.open_ 0
        have g1 := hr.open_ 1
        have g2 := hr.open_ 2
        have e0 := hr.at_ 0
        have e1 := hr.at_ 1
        have e2 := hr.at_ 2
        subst hk2
        rw [List.take_length] at *
        generalize hg : l.foldl Tm.sup x = g at *
        obtain ⟨d0, d1, d2⟩ := hr.stored3 (.int .u64 (g.e : Int)) (.int .u64 (g.a : Int)) (.int .u64 (g.b : Int))
        have H1 := Lib.hid (And.intro hg (And.intro hb (And.intro d0 (And.intro d1 d2))))
        simp only [Tm.cells, List.getElem?_cons_zero, List.getElem?_cons_succ] at f0 f1 f2 e0 e1 e2
        clear hr hf hb d0 d1 d2 hg
        go_wp2_with fail
        obtain ⟨hg, hb, d0, d1, d2⟩ := H1.out
        refine bodyPost_ret (v := g.val) (by simp [results, Try.results22, go_sem, d0, d1, d2, Tm.val]) rfl ⟨congrArg (fun g : Tm => Ending.returned g.val) hg.symm, below_set3 hb (Nat.le_refl _) _ _ _⟩

/-- the least upper, the greatest lower bound of a list -/
def lub : List Tm → Tm | [] => ⟨0, 0, 0⟩ | x :: l => l.foldl Tm.sup x
def glb : List Tm → Tm | [] => ⟨0, 0, 0⟩ | x :: l => l.foldl Tm.inf x

set_option maxRecDepth 100000 in
set_option maxHeartbeats 400000 in
theorem bound_nil_lub (A : Option Addr) (c : Nat) (w : World) :
    Calls Try.prog 22 #[.slice A 0 c, .func (.func 23) #[] #[]] w fun e w' => e = .returned (Tm.mk 0 0 0).val ∧ Below w.heap.size w w' := by
  unfold Tm.val
  go_enter Try.func22, Try.ntmps22
  go_wp2_with fail
  refine bodyPost_ret (v := .agg #[.int .u64 0, .int .u64 0, .int .u64 0]) (by simp [results, Try.results22, go_sem]) rfl ⟨rfl, (Below.refl _ _).alloc (Nat.le_refl _) _⟩
theorem bound_any_lub (A : Option Addr) (c : Nat) (l : List Tm) (w : World) (hl : Times w w.heap.size A l) (hc : l.length ≤ c) (hn : c ≤ maxLen) :
    Calls Try.prog 22 #[.slice A l.length c, .func (.func 23) #[] #[]] w fun e w' => e = .returned (lub l).val ∧ Below w.heap.size w w' := by
  cases l with
  | nil => exact bound_nil_lub A c w
  | cons x l =>
    obtain ⟨b, o, rfl, hB, ht⟩ := hl (by simp)
    exact bound_sup b o c x l w (by simpa using ht 0 x rfl) hB (fun i t h => by have := ht (i + 1) t (by simpa using h); rwa [Nat.add_mul, Nat.one_mul, ← Nat.add_assoc, Nat.add_right_comm] at this) (by simpa using hc) hn
set_option maxRecDepth 100000 in
set_option maxHeartbeats 400000 in
theorem lub_any (A : Option Addr) (c : Nat) (l : List Tm) (w : World) (hl : Times w w.heap.size A l) (hc : l.length ≤ c) (hn : c ≤ maxLen) :
    Calls Try.prog 6 #[.slice A l.length c] w fun e w' => e = .returned (lub l).val ∧ Below w.heap.size w w' := by
  have hcall := Lib.hid (fun W h => bound_any_lub A c l W h hc hn)
  have Hl := Lib.hid hl
  clear hl
  generalize hr : lub l = r at hcall
  unfold Tm.val at hcall ⊢
  go_enter Try.func6, Try.ntmps6
  go_wp2_with fail
  refine (hcall.out _ ?_).mono ?_
  · exact (Hl.out.past ((Below.refl _ _).alloc (Nat.le_refl _) _) (Nat.le_refl _)).wide (by simp)
  rintro e w1 ⟨rfl, h1⟩
  have hr1 : Own w1 w.heap.size 32 [.int .u64 0, .int .u64 0, .int .u64 0] := (Own.made w _ _).past h1 (by simp)
  have g0 := hr1.open_ 0
  have g1 := hr1.open_ 1
  have g2 := hr1.open_ 2
  have e0 := hr1.at_ 0
  have e1 := hr1.at_ 1
  have e2 := hr1.at_ 2
  obtain ⟨d0, d1, d2⟩ := hr1.stored3 (.int .u64 (r.e : Int)) (.int .u64 (r.a : Int)) (.int .u64 (r.b : Int))
  simp only [List.getElem?_cons_zero, List.getElem?_cons_succ] at e0 e1 e2
  have H1 := Lib.hid (And.intro hr (And.intro h1 (And.intro d0 (And.intro d1 d2))))
  clear hr1 h1 d0 d1 d2 hr hcall
  go_wp2_with fail
  obtain ⟨hr, h1, d0, d1, d2⟩ := H1.out
  refine bodyPost_ret (v := r.val) (by simp [results, Try.results6, go_sem, d0, d1, d2, Tm.val]) rfl ⟨rfl, below_set3 (((Below.refl _ _).alloc (Nat.le_refl _) _).trans (h1.mono (by simp))) (Nat.le_refl _) _ _ _⟩

end Go.Proofs.Ytammngncmkhokaa
namespace Go.Proofs.Ytammngncmkhokaa
open Go Go.RowKit

theorem lub_zero (l : List Tm) : l.foldl Tm.sup ⟨0, 0, 0⟩ = lub l := by
  cases l with
  | nil => rfl
  | cons x l => simp [lub, Tm.sup]
end Go.Proofs.Ytammngncmkhokaa
namespace Go.Proofs.Ytammngncmkhokaa
open Go Go.RowKit

theorem inf_self (x : Tm) : x.inf x = x := by simp [Tm.inf]
theorem glb_all (x : Tm) (l : List Tm) : (x :: l).foldl Tm.inf x = glb (x :: l) := by
  simp [glb, inf_self]

end Go.Proofs.Ytammngncmkhokaa
namespace Go.Proofs.Ytammngncmkhokaa
open Go Go.RowKit
attribute [local go_sem ↓] Go.wp_at_zero Go.wp_at_succ

/-- t advanced to l -/
def adv (t : Tm) (l : List Tm) : Tm := match l with | [] => t | x :: l => l.foldl (fun a y => a.inf (t.sup y)) (t.sup x)
theorem adv_glb (t : Tm) (l : List Tm) (h : 0 < l.length) : adv t l = glb (l.map (t.sup ·)) := by
  cases l with
  | nil => simp at h
  | cons x l => simp [adv, glb, List.foldl_map]
/-- two times laid one behind the other in a block of their own -/
theorem times_two (w : World) (s t : Tm) : Times (w.alloc (.cells #[.int .u64 (s.e : Int), .int .u64 (s.a : Int), .int .u64 (s.b : Int), .int .u64 (t.e : Int), .int .u64 (t.a : Int), .int .u64 (t.b : Int)] 32)) (w.heap.size + 1) (some ⟨w.heap.size, 0, none⟩) [s, t] := by
  intro _
  refine ⟨_, _, rfl, by omega, fun i x hx => ?_⟩
  match i, hx with
  | 0, hx => obtain rfl : s = x := by simpa using hx
             exact ⟨by simp [go_sem], by simp [go_sem], by simp [go_sem]⟩
  | 1, hx => obtain rfl : t = x := by simpa using hx
             exact ⟨by simp [go_sem], by simp [go_sem], by simp [go_sem]⟩
theorem times_two' {w : World} {N : Nat} (s t : Tm) (hN : w.heap.size = N) : Times (w.alloc (.cells #[.int .u64 (s.e : Int), .int .u64 (s.a : Int), .int .u64 (s.b : Int), .int .u64 (t.e : Int), .int .u64 (t.a : Int), .int .u64 (t.b : Int)] 32)) (N + 1) (some ⟨N, 0, none⟩) [s, t] := hN ▸ times_two w s t
theorem fold_take2 {α β : Type} (f : β → α → β) (x : β) (s : α) (l : List α) (k : Nat) (h : l[k]? = some s) : (l.take (k + 1)).foldl f x = f ((l.take k).foldl f x) s := by
  rw [List.take_add_one, h, List.foldl_append]; rfl
theorem own_set3_other {w : World} {g h : Nat} {t : TypeId} {l : List Value} (o : Own w g t l) (hg : h ≠ g) (x y z : Value) : Own (((w.setCell ⟨h, 0, none⟩ x).setCell ⟨h, 1, none⟩ y).setCell ⟨h, 2, none⟩ z) g t l :=
  ((o.other (p := ⟨h, 0, none⟩) hg _).other (p := ⟨h, 1, none⟩) hg _).other (p := ⟨h, 2, none⟩) hg _
theorem own_drew {w : World} {g : Nat} {t : TypeId} {l : List Value} (o : Own w g t l) : Own w.drew g t l := o
theorem times_keep {a b : World} {A : Option Addr} {l : List Tm} (h : Times a a.heap.size A l) (hb : Below a.heap.size a b) : Times b b.heap.size A l := (h.past hb (Nat.le_refl _)).wide hb.size
theorem times_here {W : World} {B C : Nat} {A : Option Addr} {l : List Tm} (h : Times W B A l) (hB : B ≤ C) : Times W C A l := h.wide hB
theorem times_later {W : World} {o : Obj} {B C : Nat} {A : Option Addr} {l : List Tm} (h : Times W B A l) (hB : B ≤ C ∧ B ≤ W.heap.size) : Times (W.alloc o) C A l :=
  (h.past ((Below.refl _ _).alloc (Nat.le_refl _) _) hB.2).wide hB.1
theorem times_one (w : World) (s : Tm) : Times (w.alloc (.cells #[.int .u64 (s.e : Int), .int .u64 (s.a : Int), .int .u64 (s.b : Int)] 32)) (w.heap.size + 1) (some ⟨w.heap.size, 0, none⟩) [s] := by
  intro _
  refine ⟨_, _, rfl, by omega, fun i x hx => ?_⟩
  match i, hx with
  | 0, hx => obtain rfl : s = x := by simpa using hx
             exact ⟨by simp [go_sem], by simp [go_sem], by simp [go_sem]⟩

end Go.Proofs.Ytammngncmkhokaa
namespace Go.Proofs.Ytammngncmkhokaa
open Go Go.RowKit

theorem infoTm : (Try.prog.info? 32).map (fun i => (i.zero, i.size, i.bytes)) = some (some (Tm.mk 0 0 0).val, 3, 24) := by kernel_rfl
theorem flat_at : ∀ (l : List Tm) (i : Nat) (t : Tm), l[i]? = some t → (l.flatMap Tm.cells)[i * 3]? = some (.int .u64 (t.e : Int)) ∧ (l.flatMap Tm.cells)[i * 3 + 1]? = some (.int .u64 (t.a : Int)) ∧ (l.flatMap Tm.cells)[i * 3 + 2]? = some (.int .u64 (t.b : Int))
  | [], i, t, h => by simp at h
  | x :: l, 0, t, h => by
    obtain rfl : x = t := by simpa using h
    simp [Tm.cells]
  | x :: l, i + 1, t, h => by
    have ih := flat_at l i t (by simpa using h)
    simp only [List.flatMap_cons, Tm.cells, show (i + 1) * 3 = i * 3 + 3 by omega, show i * 3 + 3 + 1 = i * 3 + 1 + 3 by omega, show i * 3 + 3 + 2 = i * 3 + 2 + 3 by omega]
    simpa using ih
theorem flat_len (l : List Tm) : (l.flatMap Tm.cells).length = l.length * 3 := by
  induction l with
  | nil => rfl
  | cons x l ih => rw [List.flatMap_cons, List.length_append, ih, List.length_cons]; simp [Tm.cells]; omega
theorem flatT_snoc (l : List Tm) (t : Tm) : l.flatMap Tm.cells ++ #[Value.int .u64 (t.e : Int), .int .u64 (t.a : Int), .int .u64 (t.b : Int)].toList = (l ++ [t]).flatMap Tm.cells := by
  simp [Tm.cells]
theorem times_of_own {w : World} {base : Nat} {v : Value} {l : List Tm} {n : Nat} (hn : n = l.length) (h : w.ownsRow base 32 3 v n (l.flatMap Tm.cells)) :
    ∃ A c, v = .slice A l.length c ∧ l.length ≤ c ∧ c ≤ maxLen ∧ Times w w.heap.size A l := by
  subst hn
  rcases h.2 with ⟨rfl, h0⟩ | ⟨g, cap, cur, rfl, hb, hg, h1, h2, h3, h4⟩
  · exact ⟨none, 0, by rw [h0], by omega, by omega, fun h => by omega⟩
  · refine ⟨_, cap, rfl, h1, h2, fun _ => ⟨g, 0, rfl, (Array.getElem?_eq_some_iff.1 hg).1, fun i t hi => ?_⟩⟩
    have hil : i < l.length := (List.getElem?_eq_some_iff.1 hi).1
    obtain ⟨a0, a1, a2⟩ := flat_at l i t hi
    have hc : ∀ j, j < l.length * 3 → w.cell? ⟨g, 0 + j, none⟩ = (l.flatMap Tm.cells)[j]? := fun j hj => by rw [Nat.zero_add]; exact h.cellAt j hj
    exact ⟨(hc _ (by omega)).trans a0, by rw [Nat.add_assoc]; exact (hc _ (by omega)).trans a1, by rw [Nat.add_assoc]; exact (hc _ (by omega)).trans a2⟩
end Go.Proofs.Ytammngncmkhokaa
namespace Go.Proofs.Ytammngncmkhokaa
open Go Go.RowKit Go.Sort Go.Lib
attribute [local go_sem ↓] Go.wp_at_zero Go.wp_at_succ

set_option maxRecDepth 100000 in
set_option maxHeartbeats 400000 in
theorem nan_any (x : Nat) (w : World) :
    Calls Try.prog 74 #[.int .u64 (x : Int)] w fun e w' => e = .returned (.bool false) ∧ w = w' := by
  go_enter Try.func74, Try.ntmps74
  go_wp2_with fail
  go_ret
  exact ⟨ret_bool (by simp), rfl⟩

set_option maxRecDepth 100000 in
set_option maxHeartbeats 800000 in
theorem cmpNat_any (x y : Nat) (w : World) :
    Calls Try.prog 47 #[.int .u64 (x : Int), .int .u64 (y : Int)] w fun e w' => e = .returned (.int .i64 (Tm.cmpN x y)) ∧ w = w' := by
  go_enter Try.func47, Try.ntmps47
  go_wp2_with (go_at_call 74; refine (nan_any _ _).mono ?_; rintro e w' ⟨rfl, rfl⟩)
  all_goals
    go_ret
    refine ⟨ret_i64 ?_, rfl⟩
    unfold Tm.cmpN
    repeat' split
    all_goals first | rfl | omega

/-- the first of two that is not 0 -/
def orI (x y : Int) : Int := if x = 0 then y else x

set_option maxRecDepth 100000 in
set_option maxHeartbeats 800000 in
theorem or_any (g : Nat) (x y : Int) (w : World) (h0 : w.cell? ⟨g, 0, none⟩ = some (.int .i64 x)) (h1 : w.cell? ⟨g, 1, none⟩ = some (.int .i64 y)) :
    Calls Try.prog 46 #[.slice (some ⟨g, 0, none⟩) 2 2] w fun e w' => e = .returned (.int .i64 (orI x y)) ∧ w = w' := by
  go_enter Try.func46, Try.ntmps46
  go_wp2_with fail
  go_rounds 3
  all_goals
    go_ret
    refine ⟨ret_i64 ?_, rfl⟩
    unfold orI
    simp_all

set_option maxRecDepth 100000 in
set_option maxHeartbeats 800000 in
theorem cmpRounds_any (g o h p : Nat) (a b x y : Nat) (w : World) (h0 : w.cell? ⟨g, o, none⟩ = some (.int .u64 (a : Int))) (h1 : w.cell? ⟨g, o + 1, none⟩ = some (.int .u64 (b : Int)))
    (k0 : w.cell? ⟨h, p, none⟩ = some (.int .u64 (x : Int))) (k1 : w.cell? ⟨h, p + 1, none⟩ = some (.int .u64 (y : Int))) :
    Calls Try.prog 48 #[.slice (some ⟨g, o, none⟩) 2 2, .slice (some ⟨h, p, none⟩) 2 2] w fun e w' => e = .returned (.int .i64 (orI (Tm.cmpN a x) (Tm.cmpN b y))) ∧ w = w' := by
  go_enter Try.func48, Try.ntmps48
  go_wp2_with fail
  refine wp_loop_rounds 3 ?_
  rw [rounds_succ]
  go_wp2_with (go_at_call 47; refine (cmpNat_any _ _ _).mono ?_; rintro e w' ⟨rfl, rfl⟩)
  · go_ret
    exact ⟨ret_i64 (by unfold orI; simp_all), rfl⟩
  · rw [rounds_succ]
    go_wp2_with (go_at_call 47; refine (cmpNat_any _ _ _).mono ?_; rintro e w' ⟨rfl, rfl⟩)
    · go_ret
      exact ⟨ret_i64 (by unfold orI; simp_all), rfl⟩
    · rw [rounds_succ]
      go_wp2_with fail
      go_ret
      exact ⟨ret_i64 (by unfold orI; simp_all), rfl⟩

theorem cmp_or (s t : Tm) : orI (Tm.cmpN s.e t.e) (orI (Tm.cmpN s.a t.a) (Tm.cmpN s.b t.b)) = s.cmp t := by
  have h : ∀ x y, Tm.cmpN x y = 0 ↔ x = y := fun x y => by unfold Tm.cmpN; repeat' split
                                                           all_goals omega
  unfold orI Tm.cmp
  simp only [h]
  repeat' split
  all_goals first | rfl | omega

set_option maxRecDepth 100000 in
set_option maxHeartbeats 1600000 in
theorem compare_grows (s t : Tm) (w : World) :
    Calls Try.prog 31 #[s.val, t.val] w fun e w' => e = .returned (.int .i64 (s.cmp t)) ∧ ∃ q os, w' = grow (w.drewN q) os := by
  have hor := Lib.hid (cmp_or s t)
  obtain ⟨a, b, c⟩ := s
  obtain ⟨x, y, z⟩ := t
  unfold Tm.val
  dsimp only at hor ⊢
  generalize Tm.cmp _ _ = r at hor ⊢
  go_enter Try.func31, Try.ntmps31
  go_wp2_with fail
  go_region_held3 (fun w' => w'.cell? ⟨w.heap.size, 0, none⟩ = some (.int .u64 (a : Int)) ∧ w'.cell? ⟨w.heap.size, 1, none⟩ = some (.int .u64 (b : Int)) ∧ w'.cell? ⟨w.heap.size, 2, none⟩ = some (.int .u64 (c : Int)) ∧
      w'.cell? ⟨w.heap.size + 1, 0, none⟩ = some (.int .u64 (x : Int)) ∧ w'.cell? ⟨w.heap.size + 1, 1, none⟩ = some (.int .u64 (y : Int)) ∧ w'.cell? ⟨w.heap.size + 1, 2, none⟩ = some (.int .u64 (z : Int)))
    (go_keep)
    (first | (go_at_call 47; refine (cmpNat_any _ _ _).mono ?_; rintro e w1 ⟨rfl, rfl⟩)
           | (go_at_call 48; refine (cmpRounds_any _ _ _ _ b c y z _ ?_ ?_ ?_ ?_).mono ?_; (simp [*]); (simp [*]); (simp [*]); (simp [*]); rintro e w1 ⟨rfl, rfl⟩)
           | (go_at_call 46; refine (or_any _ (Tm.cmpN a x) (orI (Tm.cmpN b y) (Tm.cmpN c z)) _ ?_ ?_).mono ?_; (simp [go_sem]); (simp [go_sem]); rintro e w1 ⟨rfl, rfl⟩))
  all_goals
    go_wp2_with fail
    go_ret
    exact ⟨ret_i64 hor.out, 1, _, by rw [alloc_eq_grow, alloc_eq_grow, alloc_eq_grow, grow_grow, grow_grow]; rfl⟩
theorem below_grow (w : World) (q : Nat) (os : Array Obj) : Below w.heap.size w (grow (w.drewN q) os) :=
  ⟨rfl, rfl, rfl, by simp, fun k hk => heap_grow_old (w.drewN q) os hk⟩
theorem compare_any (s t : Tm) (w : World) :
    Calls Try.prog 31 #[s.val, t.val] w fun e w' => e = .returned (.int .i64 (s.cmp t)) ∧ Below w.heap.size w w' :=
  (compare_grows s t w).mono fun e w' ⟨he, q, os, hw⟩ => ⟨he, hw ▸ below_grow w q os⟩
end Go.Proofs.Ytammngncmkhokaa
namespace Go.Proofs.Ytammngncmkhokaa
open Go Go.RowKit Go.Sort Go.Lib

theorem ltT (x y : Tm) : ltOf Tm.cmp x y = decide (x.e < y.e ∨ x.e = y.e ∧ (x.a < y.a ∨ x.a = y.a ∧ x.b < y.b)) := by
  unfold ltOf Tm.cmp Tm.cmpN
  rw [decide_eq_decide]
  repeat' split
  all_goals omega
theorem swoT : SWO (ltOf Tm.cmp) where
  irrefl x := by rw [ltT]; simp
  trans x y z h1 h2 := by rw [ltT] at *; simp at *; omega
  ntrans x y z h1 h2 := by rw [ltT] at *; simp at *; omega
theorem totT (x y : Tm) (h1 : ltOf Tm.cmp x y = false) (h2 : ltOf Tm.cmp y x = false) : x = y := by
  rw [ltT] at *
  simp at *
  obtain ⟨a, b, c⟩ := x
  obtain ⟨d, e, f⟩ := y
  simp at *
  omega
/-- sorted in the line of times -/
def sortT (l : List Tm) : List Tm := l.mergeSort fun x y => !(ltOf Tm.cmp) y x
theorem sortT_len (l : List Tm) : (sortT l).length = l.length := List.length_mergeSort _
theorem mem_sortT {l : List Tm} {t : Tm} : t ∈ sortT l ↔ t ∈ l := List.mem_mergeSort
theorem sortT_sorted (l : List Tm) : (sortT l).Pairwise fun x y => ltOf Tm.cmp y x = false := by
  have h := List.pairwise_mergeSort (le := fun x y => !(ltOf Tm.cmp) y x) (fun a b c h1 h2 => by
    simp only [Bool.not_eq_true'] at *; exact swoT.ntrans _ _ _ h2 h1) (fun a b => by
    simp only [Bool.or_eq_true, Bool.not_eq_true', ltT]; simp; omega) l
  exact h.imp fun h => by simpa using h
end Go.Proofs.Ytammngncmkhokaa
namespace Go.Proofs.Ytammngncmkhokaa
open Go Go.RowKit Go.Sort Go.Lib

theorem flat_inv : ∀ (l : List Tm) (j : Nat) (u : Value), (l.flatMap Tm.cells)[j]? = some u → ∃ i t, l[i]? = some t ∧ ((j = i * 3 ∧ u = .int .u64 (t.e : Int)) ∨ (j = i * 3 + 1 ∧ u = .int .u64 (t.a : Int)) ∨ (j = i * 3 + 2 ∧ u = .int .u64 (t.b : Int)))
  | [], j, u, h => by simp at h
  | x :: l, 0, u, h => ⟨0, x, rfl, .inl ⟨rfl, by simpa [Tm.cells] using h.symm⟩⟩
  | x :: l, 1, u, h => ⟨0, x, rfl, .inr (.inl ⟨rfl, by simpa [Tm.cells] using h.symm⟩)⟩
  | x :: l, 2, u, h => ⟨0, x, rfl, .inr (.inr ⟨rfl, by simpa [Tm.cells] using h.symm⟩)⟩
  | x :: l, j + 3, u, h => by
    obtain ⟨i, t, hi, hc⟩ := flat_inv l j u (by simpa [Tm.cells] using h)
    refine ⟨i + 1, t, by simpa using hi, ?_⟩
    rcases hc with ⟨h1, h2⟩ | ⟨h1, h2⟩ | ⟨h1, h2⟩
    · exact .inl ⟨by omega, h2⟩
    · exact .inr (.inl ⟨by omega, h2⟩)
    · exact .inr (.inr ⟨by omega, h2⟩)
theorem flat_one (l : List Tm) : ∀ u ∈ l.flatMap Tm.cells, u.oneCell' = true := by
  intro u hu
  obtain ⟨t, _, ht⟩ := List.mem_flatMap.1 hu
  simp [Tm.cells] at ht
  rcases ht with rfl | rfl | rfl <;> rfl
theorem times_news {w : World} {B : Nat} {ad : Addr} {l : List Tm} (h : Times w B (some ad) l) : ∀ j u, (l.flatMap Tm.cells)[j]? = some u → w.cell? (ad.add j) = some u := by
  intro j u hu
  obtain ⟨i, t, hi, hc⟩ := flat_inv l j u hu
  have hpos : 0 < l.length := by have := (List.getElem?_eq_some_iff.1 hi).1; omega
  obtain ⟨b, o, e, _, ht⟩ := h hpos
  obtain rfl : ad = ⟨b, o, none⟩ := by injection e
  obtain ⟨a0, a1, a2⟩ := ht i t hi
  have ea : (⟨b, o, none⟩ : Addr).add j = ⟨b, o + j, none⟩ := by unfold Addr.add; split <;> simp_all
  rw [ea]
  rcases hc with ⟨rfl, rfl⟩ | ⟨rfl, rfl⟩ | ⟨rfl, rfl⟩
  · exact a0
  · rw [← Nat.add_assoc]; exact a1
  · rw [← Nat.add_assoc]; exact a2

set_option maxRecDepth 100000 in
set_option maxHeartbeats 800000 in
theorem clone_any (A : Option Addr) (c : Nat) (l : List Tm) (w : World) (hl : Times w w.heap.size A l) (hn : l.length * 24 ≤ 140737488351232) :
    Calls Try.prog 29 #[.slice A l.length c] w fun e w' => ∃ v, e = .returned v ∧ w'.ownsRow w.heap.size 32 3 v l.length (l.flatMap Tm.cells) ∧ Below w.heap.size w w' := by
  have q26 := fun (w : World) (a : Option Addr) (n c n' c' : Nat) => Lib.run_eql_slice_nil (P := Try.prog) w _ _ a n c n' c' Try.underlying23
  have hU := Try.underlying23
  obtain ⟨i0, hi, hz0, hz1, hz2⟩ := info_parts infoTm
  cases A with
  | none =>
    have h0 : l = [] := by
      cases l with
      | nil => rfl
      | cons x l => obtain ⟨_, _, e, _⟩ := hl (by simp); cases e
    subst h0
    clear hl
    go_enter Try.func29, Try.ntmps29
    go_wp2_with fail
    go_ret
    exact ⟨_, rfl, World.ownsRow_nil _ _ _ _, Below.refl _ _⟩
  | some ad =>
    have hnews := times_news hl
    have HN := Lib.hid hnews
    clear hnews hl
    go_enter Try.func29, Try.ntmps29
    go_wp2_with (at_builtin; refine wpList_append_own_at _ rfl _ _ 23 rfl w.heap.size 32 i0 _ 3 24 hU hi hz0 hz1 hz2 rfl (by decide) _ _ _ rfl (World.ownsRow_made w #[] 0 (Nat.le_refl _) (Nat.zero_le _) rfl) ad l.length c (l.flatMap Tm.cells) rfl ?c1 ?c2 ?c3 ?c4 ?c5 ?c6 ?_)
    case c1 => rw [flat_len]
    case c2 => exact fun j u hu => (World.cell?_alloc_some _ _ _ (by rw [HN.out j u hu]; rfl)).trans (HN.out j u hu)
    case c3 => exact flat_one l
    case c4 => unfold maxLen; omega
    case c5 => omega
    case c6 => simp
    intro v' w' ho' hg' _ _
    have hb : Below w.heap.size w w' := ((Below.refl _ _).alloc (Nat.le_refl _) _).grown hg' (by simp) (by simp [Value.ownBlock])
    go_wp2
    go_ret
    exact ⟨_, rfl, ho', hb⟩

theorem getElem!_some {l : List Tm} {i : Nat} {t : Tm} (h : l[i]? = some t) : l.toArray[i]! = t := by
  obtain ⟨hi, h⟩ := List.getElem?_eq_some_iff.1 h
  rw [getElem!_pos _ i (by simpa using hi)]
  simpa using h
/-- the row sorted in place; blocks below it are as they were -/
theorem sort_any (g c : Nat) (l : List Tm) (w : World) (base : Nat) (h : w.ownsRow base 32 3 (.slice (some ⟨g, 0, none⟩) l.length c) l.length (l.flatMap Tm.cells)) (hn : l.length * 24 ≤ 140737488351232) :
    Calls Try.prog 30 #[.slice (some ⟨g, 0, none⟩) l.length c, .func (.func 31) #[] #[]] w fun e w' => e = .returned (.tuple #[]) ∧ Times w' w'.heap.size (some ⟨g, 0, none⟩) (sortT l) ∧ Below g w w' := by
  have eg : ∀ args w, (callFunc 31 args).run Try.prog w = .ok (.enter 31 args) w := enters_of Try.func31 (by kernel_rfl) rfl
  have hg : g < w.heap.size := by
    rcases h.2 with ⟨h, _⟩ | ⟨g', _, _, e, _, hg, _⟩
    · simp at h
    · injection e with e _ _
      injection e with e
      injection e with e
      subst e
      exact (Array.getElem?_eq_some_iff.1 hg).1
  have hcell : ∀ i c, i < l.length → c < 3 → w.cell? ⟨g, 0 + (i * 3 + c), none⟩ = some (Tm.cells l.toArray[i]!)[c]! ∧ w.frozen? ⟨g, 0 + (i * 3 + c), none⟩ = false := by
    intro i c hi hc
    refine ⟨?_, h.frozenAt _⟩
    rw [Nat.zero_add, h.cellAt _ (by omega)]
    have hx : l[i]? = some l[i] := List.getElem?_eq_getElem hi
    obtain ⟨a0, a1, a2⟩ := flat_at l i _ hx
    rw [getElem!_some hx]
    rcases (by omega : c = 0 ∨ c = 1 ∨ c = 2) with rfl | rfl | rfl
    · simpa [Tm.cells] using a0
    · simpa [Tm.cells] using a1
    · simpa [Tm.cells] using a2
  have hH : HoldsK Tm.cells 3 w g 0 l.toArray := by
    intro j hj
    rw [size_flatK] at hj
    rw [get_flatK _ _ _ _ hj]
    have hs : l.toArray.size = l.length := by simp
    have := hcell (j / 3) (j % 3) (by omega) (by omega)
    rwa [Nat.div_add_mod' j 3] at this
  have hcon := AnyQ.slices_SortFunc_total Try.sortTm 3 Try.isAgg32 Try.sizeOf32 Tm.cells (fun _ => rfl) (fun x v hv => by simp [Tm.cells] at hv; rcases hv with rfl | rfl | rfl <;> rfl) Tm.cmp swoT 31 #[] g 0 c l.toArray w eg
    (fun m os dk _ x y => compare_grows x y _) hH hg (by simp; omega) totT
  change Calls Try.prog 30 _ _ _ at hcon
  simp only [List.size_toArray] at hcon
  refine hcon.mono ?_
  rintro e w' ⟨rfl, n, os, rfl⟩
  have hlen : (sortT l).toArray.size = l.toArray.size := by simp [sortT_len]
  have hH' := holdsK_sortWorldK_c Tm.cells 3 w g 0 l.toArray (sortT l).toArray n os hH hg hlen
  refine ⟨rfl, fun _ => ⟨g, 0, rfl, Nat.lt_of_lt_of_le hg (size_sortWorldK_c Tm.cells 3 w g 0 n _ os), fun i t hi => ?_⟩, ?_⟩
  · have hil := (List.getElem?_eq_some_iff.1 hi).1
    have hq := fun c hc => (HoldsK.cell hH' (i := i) (c := c) (by simpa using hil) hc).1
    rw [getElem!_some hi] at hq
    exact ⟨hq 0 (by omega), hq 1 (by omega), hq 2 (by omega)⟩
  · unfold sortWorldK putRowK putRow mapBlock
    refine ⟨rfl, rfl, rfl, by simp [grow, ahead], fun k hk => ?_⟩
    show (_ ++ os)[k]? = _
    rw [Array.getElem?_append_left (by simp [ahead]; omega), Array.getElem?_modify, if_neg (by omega)]
    rfl
end Go.Proofs.Ytammngncmkhokaa
namespace Go.Proofs.Ytammngncmkhokaa
open Go Go.RowKit

theorem eqIn_rounds (d : Nat) (a b c e : Int) (w : World) : (Op.equalIn (d + 2) 30 (.agg #[.int .u64 a, .int .u64 b]) (.agg #[.int .u64 c, .int .u64 e])).run Try.prog w = .ok ((a == c) && (b == e)) w := by
  have u := Try.underlying30
  have u1 := Try.underlying29
  have z1 := Try.sizeOf29
  have a1 := Try.isAgg29
  unfold Op.equalIn
  simp only [Sem.run_bind, run_underlying u, Result.andThen_ok, z1]
  by_cases h1 : a = c <;> by_cases h2 : b = e <;>
    simp [h1, h2, part, a1, z1, run_equalIn_int w _ _ _ _ _ _ u1, Std.Legacy.Range.forIn_eq_forIn_range', Std.Legacy.Range.size, List.range', go_sem]
theorem eql_rounds (a b c e : Int) (w : World) : (binOp .eql 30 (.agg #[.int .u64 a, .int .u64 b]) (.agg #[.int .u64 c, .int .u64 e])).run Try.prog w = .ok (.bool ((a == c) && (b == e))) w := by
  rw [run_eql_struct, show (10000 : Nat) = 9998 + 2 from rfl, eqIn_rounds]; rfl
theorem grd_rounds (op : BinOp) (x y : Operand) (xs ys : Array Value) (w : World) : (eqGuard op 30 x y (.agg xs) (.agg ys)).run Try.prog w = .ok () w := run_eqGuard_agg w op _ x y xs ys (by kernel_rfl)
theorem grd_time (op : BinOp) (x y : Operand) (xs ys : Array Value) (w : World) : (eqGuard op 32 x y (.agg xs) (.agg ys)).run Try.prog w = .ok () w := run_eqGuard_agg w op _ x y xs ys (by kernel_rfl)
def eqT (s t : Tm) : Bool := (s.e == t.e) && ((s.a == t.a) && (s.b == t.b))
theorem eqT_iff {s t : Tm} : eqT s t = true ↔ s = t := by
  cases s; cases t; simp [eqT]
theorem eqT_decide (s t : Tm) : eqT s t = decide (s = t) := by
  rw [Bool.eq_iff_iff, eqT_iff]; simp
theorem eqIn_time (s t : Tm) (w : World) : (Op.equalIn 10000 32 s.val t.val).run Try.prog w = .ok (eqT s t) w := by
  have u1 := Try.underlying29
  have z1 := Try.sizeOf29
  have a1 := Try.isAgg29
  have z2 := Try.sizeOf30
  have a2 := Try.isAgg30
  have hS : Try.prog.underlying 32 = some (.struct (Try.prog.fieldsOf 32)) := by kernel_rfl
  have hp : Try.prog.stoodInHeld 32 = false := by kernel_rfl
  unfold Tm.val
  rw [show (10000 : Nat) = 9996 + 1 + 2 + 1 from rfl, run_equalIn_agg w _ _ _ _ hS hp]
  simp only [Program.fieldsOf, Try.underlying32, eqT]
  have i0 : ∀ x y : Nat, ((x : Int) = (y : Int)) = (x = y) := fun x y => by simp; omega
  by_cases h1 : s.e = t.e
  · simp [Op.eqFields, part, a1, a2, z1, z2, h1, i0, run_equalIn_int w _ _ _ _ _ _ u1, go_sem]
    rw [show (9999 : Nat) = 9997 + 2 from rfl, eqIn_rounds]
    cases hq : ((s.a : Int) == (t.a : Int)) && ((s.b : Int) == (t.b : Int)) <;> simp_all
  · have h2 : (s.e == t.e) = false := by simpa using h1
    simp [Op.eqFields, part, a1, a2, z1, z2, h1, h2, i0, run_equalIn_int w _ _ _ _ _ _ u1, go_sem]
theorem eql_time (s t : Tm) (w : World) : (binOp .eql 32 s.val t.val).run Try.prog w = .ok (.bool (eqT s t)) w := by
  have h := eqIn_time s t w
  unfold Tm.val at h ⊢
  rw [run_eql_struct, h]; rfl
theorem neq_time (s t : Tm) (w : World) : (binOp .neq 32 s.val t.val).run Try.prog w = .ok (.bool (!eqT s t)) w := by
  have h := eqIn_time s t w
  unfold Tm.val at h ⊢
  rw [run_neq_struct, h]; rfl
end Go.Proofs.Ytammngncmkhokaa
namespace Go.Proofs.Ytammngncmkhokaa
open Go Go.RowKit
attribute [local go_sem ↓] Go.wp_at_zero Go.wp_at_succ

theorem max_le (a b c d : Nat) : ((((max a c : Nat) : Int) == (c : Int)) && (((max b d : Nat) : Int) == (d : Int))) = (decide (a ≤ c) && decide (b ≤ d)) := by
  rw [Bool.eq_iff_iff]; simp only [Bool.and_eq_true, beq_iff_eq, decide_eq_true_eq]; omega

set_option maxRecDepth 100000 in
set_option maxHeartbeats 800000 in
theorem ahead_any (s t : Tm) (w : World) :
    Calls Try.prog 9 #[s.val, t.val] w fun e w' => e = .returned (.bool (s.le t)) ∧ Below w.heap.size w w' := by
  obtain ⟨a, b, c⟩ := s
  obtain ⟨x, y, z⟩ := t
  unfold Tm.val Tm.le
  dsimp only
  by_cases h : a ≤ x
  · have heq := eql_rounds ((max b y : Nat) : Int) ((max c z : Nat) : Int) (y : Int) (z : Int)
    have hgd := fun (x1 y1 : Operand) (xs ys : Array Value) (w : World) => grd_rounds .eql x1 y1 xs ys w
    have hle : decide ((a : Int) ≤ (x : Int)) = true := by simp; omega
    have hm := max_le b c y z
    simp only [hm] at heq
    have hr : (decide (a ≤ x) && (decide (b ≤ y) && decide (c ≤ z))) = (decide (b ≤ y) && decide (c ≤ z)) := by simp [h]
    rw [hr]
    clear hm hr
    generalize (decide (b ≤ y) && decide (c ≤ z)) = r at heq
    go_enter Try.func9, Try.ntmps9
    go_wp2_with fail
    go_region_held3 (fun w' => w'.cell? ⟨w.heap.size, 0, none⟩ = some (.int .u64 (a : Int)) ∧ w'.cell? ⟨w.heap.size, 1, none⟩ = some (.int .u64 (b : Int)) ∧ w'.cell? ⟨w.heap.size, 2, none⟩ = some (.int .u64 (c : Int)) ∧
        w'.cell? ⟨w.heap.size + 1, 0, none⟩ = some (.int .u64 (x : Int)) ∧ w'.cell? ⟨w.heap.size + 1, 1, none⟩ = some (.int .u64 (y : Int)) ∧ w'.cell? ⟨w.heap.size + 1, 2, none⟩ = some (.int .u64 (z : Int)))
      (first | go_keep | (refine ⟨?_, ?_, ?_, ?_, ?_, ?_⟩ <;> (refine (hb.cell (by first | (simp; done) | (simp; omega))).trans ?_; simp [go_sem])))
      (first | (go_at_call 28; refine (each_greater _ _ _ _ _).mono ?_; rintro e w1 ⟨rfl, hb⟩))
    go_wp2_with fail
    go_ret
    exact ⟨rfl, ((((Below.refl _ _).alloc (Nat.le_refl _) _).alloc (by simp) _).drew).trans (hb.mono (by simp; omega))⟩
  · have hr : (decide (a ≤ x) && (decide (b ≤ y) && decide (c ≤ z))) = false := by simp [h]
    have hn : decide (a ≤ x) = false := by simpa using h
    rw [hr]
    clear hr h
    go_enter Try.func9, Try.ntmps9
    go_wp2_with fail
    go_quiet (fail)
    go_wp2_with fail
    go_ret
    exact ⟨rfl, below_draws (((Below.refl _ _).alloc (Nat.le_refl _) _).alloc (by simp) _) _⟩
end Go.Proofs.Ytammngncmkhokaa
namespace Go.Proofs.Ytammngncmkhokaa
open Go Go.RowKit

end Go.Proofs.Ytammngncmkhokaa
namespace Go.Proofs.Ytammngncmkhokaa
open Go Go.RowKit

/-- one of l is ahead of t -/
def beyond (l : List Tm) (t : Tm) : Bool := l.any (·.le t)
theorem beyond_snoc {l : List Tm} {t s : Tm} {k : Nat} (h : l[k]? = some s) : beyond (l.take (k + 1)) t = (beyond (l.take k) t || s.le t) := by
  unfold beyond
  rw [List.take_add_one, h]
  simp
theorem beyond_hit {l : List Tm} {t s : Tm} {k : Nat} (h : l[k]? = some s) (hs : s.le t = true) : beyond l t = true := by
  unfold beyond
  rw [List.any_eq_true]
  exact ⟨s, List.mem_of_getElem? h, hs⟩

set_option maxRecDepth 100000 in
set_option maxHeartbeats 800000 in
theorem beyond_any (A : Option Addr) (c : Nat) (l : List Tm) (t : Tm) (w : World) (hl : Times w w.heap.size A l) (hn : l.length ≤ maxLen) :
    Calls Try.prog 10 #[.slice A l.length c, t.val] w fun e w' => e = .returned (.bool (beyond l t)) ∧ Below w.heap.size w w' := by
  unfold maxLen at hn
  have hcall := fun (s : Tm) (W : World) => Lib.hid (ahead_any s t W)
  unfold Tm.val at hcall ⊢
  have Hl := Lib.hid hl
  clear hl
  go_enter Try.func10, Try.ntmps10
  go_wp2_with fail
  go_loopw [9] (fun i wr => ∃ k : Nat, i = .int .i64 (k : Int) ∧ k ≤ l.length ∧ beyond (l.take k) t = false ∧ Below w.heap.size w wr ∧ w.heap.size < wr.heap.size ∧ TmAt wr w.heap.size 0 t)
    (fun i _ => l.length - (intOf i).toNat)
  case atStart =>
    exact ⟨0, rfl, by omega, rfl, (Below.refl _ _).alloc (Nat.le_refl _) _, by simp, by simp [TmAt, go_sem]⟩
  case round =>
    obtain ⟨k, rfl, hk, hno, hb, hs, ht⟩ := hrel
    obtain ⟨t0, t1, t2⟩ := ht
    by_cases hlt : k < l.length
    · have hx : l[k]? = some l[k] := List.getElem?_eq_getElem hlt
      obtain ⟨b, o, rfl, hB, hc⟩ := Hl.out (by omega)
      obtain ⟨c0, c1, c2⟩ := (hc k _ hx).past hb hB
      have hsn := beyond_snoc (t := t) hx
      have hhit := fun h => beyond_hit (t := t) hx h
      generalize l[k] = s at *
      have hbs : b < w.heap.size := hB
      have HH := Lib.hid (And.intro hno (And.intro hsn (And.intro hhit (And.intro hx (And.intro hb (And.intro t0 (And.intro t1 t2)))))))
      clear hno hsn hhit hx hc hB hb
      by_cases hle : s.le t = true
      · have hcall := fun W => hcall s W
        simp only [hle] at hcall
        have HL := Lib.hid hle
        clear hle
        go_wp2_with fail
        refine (hcall _).out.mono ?_
        rintro e w1 ⟨rfl, h1⟩
        go_wp2_with fail
        go_ret
        obtain ⟨hno, hsn, hhit, hx, hb, t0, t1, t2⟩ := HH.out
        exact ⟨ret_bool (hhit HL.out).symm, hb.trans (((Below.refl _ _).alloc (by omega) _).trans (h1.mono (by simp; omega)))⟩
      · have hle : s.le t = false := by simpa using hle
        have hcall := fun W => hcall s W
        simp only [hle] at hcall
        have HL := Lib.hid hle
        clear hle
        go_wp2_with fail
        refine (hcall _).out.mono ?_
        rintro e w1 ⟨rfl, h1⟩
        go_wp2_with fail
        obtain ⟨hno, hsn, hhit, hx, hb, t0, t1, t2⟩ := HH.out
        have h2 : Below w.heap.size w w1 := hb.trans (((Below.refl _ _).alloc (by omega) _).trans (h1.mono (by simp; omega)))
        have h3 : Below wr.heap.size wr w1 := ((Below.refl _ _).alloc (Nat.le_refl _) _).trans (h1.mono (by simp))
        go_roundw
        case rel => exact ⟨k + 1, by go_num, by omega, by rw [hsn, hno, HL.out]; rfl, h2, by have := h3.size; omega, (TmAt.past ⟨t0, t1, t2⟩ h3 hs)⟩
        case measure => simp [intOf]; omega
    · have hk2 : k = l.length := by omega
      have HH := Lib.hid (And.intro hno (And.intro hb hk2))
      clear hno hb hk2
      go_wp2_with fail
      go_ret
      obtain ⟨hno, hb, rfl⟩ := HH.out
      exact ⟨ret_bool (by rw [← hno]; simp), hb⟩

end Go.Proofs.Ytammngncmkhokaa
namespace Go.Proofs.Ytammngncmkhokaa
open Go Go.RowKit Go.Sort Go.Lib

/-- what is kept of the first k -/
def keepStep (f : List Tm) (t : Tm) : List Tm := if beyond f t = true then f else f ++ [t]
def frontTo (s : List Tm) (k : Nat) : List Tm := (s.take k).foldl keepStep []
def frontL (l : List Tm) : List Tm := frontTo (sortT l) (sortT l).length
theorem frontTo_snoc {s : List Tm} {t : Tm} {k : Nat} (h : s[k]? = some t) : frontTo s (k + 1) = keepStep (frontTo s k) t := by
  unfold frontTo; rw [List.take_add_one, h, List.foldl_append]; rfl
theorem frontTo_len (s : List Tm) : ∀ k, k ≤ s.length → (frontTo s k).length ≤ k
  | 0, _ => by simp [frontTo]
  | k + 1, h => by
    have := frontTo_len s k (by omega)
    rw [frontTo_snoc (List.getElem?_eq_getElem (by omega))]
    unfold keepStep
    split
    · omega
    · rw [List.length_append]; simp; omega

end Go.Proofs.Ytammngncmkhokaa
namespace Go.Proofs.Ytammngncmkhokaa
open Go Go.RowKit Go.Sort Go.Lib

theorem sort_all (v : Value) (n : Nat) (l : List Tm) (w : World) (base : Nat) (hnl : n = l.length) (h : w.ownsRow base 32 3 v n (l.flatMap Tm.cells)) (hn : l.length * 24 ≤ 140737488351232) :
    ∃ A c, v = .slice A l.length c ∧ Calls Try.prog 30 #[.slice A l.length c, .func (.func 31) #[] #[]] w fun e w' => e = .returned (.tuple #[]) ∧ Times w' w'.heap.size A (sortT l) ∧ Below base w w' := by
  subst hnl
  cases l with
  | nil =>
    rcases h.2 with ⟨rfl, _⟩ | ⟨g, cap, cur, rfl, _⟩
    · refine ⟨_, _, rfl, (AnyF.slices_SortFunc_none Try.sortTm _ _ _ w).mono fun e w' ⟨he, hw⟩ => ?_⟩
      subst hw
      exact ⟨he, fun h => by simp [sortT] at h, Below.refl _ _⟩
    · refine ⟨_, _, rfl, (AnyF.slices_SortFunc_none Try.sortTm _ _ _ w).mono fun e w' ⟨he, hw⟩ => ?_⟩
      subst hw
      exact ⟨he, fun h => by simp [sortT] at h, Below.refl _ _⟩
  | cons x l =>
    rcases h.2 with ⟨_, h0⟩ | ⟨g, cap, cur, rfl, hb, _⟩
    · simp at h0
    · exact ⟨_, _, rfl, (sort_any g cap (x :: l) w base h hn).mono fun e w' ⟨he, ht, hbe⟩ => ⟨he, ht, hbe.mono hb⟩⟩

set_option maxRecDepth 100000 in
set_option maxHeartbeats 1600000 in
theorem front_any (A : Option Addr) (c : Nat) (l : List Tm) (w : World) (hl : Times w w.heap.size A l) (hn : l.length * 24 ≤ 140737488351232) :
    Calls Try.prog 11 #[.slice A l.length c] w fun e w' => ∃ v, e = .returned v ∧ w'.ownsRow w.heap.size 32 3 v (frontL l).length ((frontL l).flatMap Tm.cells) ∧ Below w.heap.size w w' := by
  obtain ⟨i0, hi, hz0, hz1, hz2⟩ := info_parts infoTm
  have hU := Try.underlying23
  have Hl := Lib.hid hl
  have hbey := fun A c l t W h hn => Lib.hid (beyond_any A c l t W h hn)
  unfold Tm.val maxLen at hbey
  clear hl
  go_enter Try.func11, Try.ntmps11
  go_wp2_with fail
  refine (clone_any A c l _ Hl.out hn).mono ?_
  rintro e w1 ⟨v, rfl, ho1, hb1⟩
  obtain ⟨A', c', rfl, hsort⟩ := sort_all v _ l w1 _ rfl ho1 hn
  have HS := Lib.hid hsort
  have H1 := Lib.hid hb1
  clear hsort hb1 ho1
  go_wp2_with fail
  refine HS.out.mono ?_
  rintro e w0 ⟨rfl, ht0, hb0⟩
  have hlen := sortT_len l
  have HT := Lib.hid (And.intro ht0 (And.intro (H1.out.trans hb0) hlen))
  clear ht0 hb0 hlen HS
  go_wp2_with fail
  go_loopw [3, 12] (fun v i wr => ∃ k : Nat, i = .int .i64 (k : Int) ∧ k ≤ l.length ∧ Below w0.heap.size w0 wr ∧ wr.ownsRow w0.heap.size 32 3 v (frontTo (sortT l) k).length ((frontTo (sortT l) k).flatMap Tm.cells))
    (fun _ i _ => l.length - (intOf i).toNat)
  case atStart => exact ⟨0, rfl, by omega, Below.refl _ _, World.ownsRow_nil _ _ _ _⟩
  case round =>
    obtain ⟨k, rfl, hk, fb, hown⟩ := hrel
    obtain ⟨ht0, hb0, hlen⟩ := HT.out
    have hfl := frontTo_len (sortT l) k (by omega)
    obtain ⟨Af, cf, rfl, hcf, hcm, htf⟩ := times_of_own rfl hown
    by_cases hlt : k < l.length
    · have hx : (sortT l)[k]? = some (sortT l)[k] := List.getElem?_eq_getElem (by omega)
      obtain ⟨b, o, rfl, hB, hl⟩ := ht0 (by omega)
      obtain ⟨c0, c1, c2⟩ := (hl k _ hx).past fb hB
      have hsn := frontTo_snoc hx
      generalize (sortT l)[k] = y at *
      generalize frontTo (sortT l) k = f at *
      have hB2 : b < wr.heap.size := by have := fb.size; omega
      have hcall := fun o => hbey Af cf f y (wr.alloc o) ((htf.past ((Below.refl _ _).alloc (Nat.le_refl _) _) (Nat.le_refl _)).wide (by simp)) (by omega)
      have HR := Lib.hid (And.intro fb (And.intro hown (And.intro hsn hx)))
      have hz := fb.size
      clear fb hown hsn hx hl htf ht0 hb0 hlen hbey
      by_cases hbe : beyond f y = true
      · simp only [hbe] at hcall
        have HE := Lib.hid hbe
        clear hbe
        go_wp2_with fail
        refine (hcall _).out.mono ?_
        rintro e w2 ⟨rfl, h2⟩
        obtain ⟨fb, hown, hsn, hx⟩ := HR.out
        have h3 : Below wr.heap.size wr w2 := below_then ((Below.refl _ _).alloc (Nat.le_refl _) _) (by simp) h2
        have H3 := Lib.hid (And.intro h3 (And.intro fb (And.intro hown hsn)))
        clear fb hown hsn hx h2 h3
        go_wp2_with fail
        obtain ⟨h3, fb, hown, hsn⟩ := H3.out
        go_roundw
        case rel => exact ⟨k + 1, by go_num, by omega, fb.trans (h3.mono fb.size), by rw [hsn]; unfold keepStep; rw [if_pos HE.out]; exact own_below hown h3⟩
        case measure => simp [intOf]; omega
      · have hbf : beyond f y = false := by simpa using hbe
        simp only [hbf] at hcall
        have HE := Lib.hid hbe
        clear hbe hbf
        go_wp2_with fail
        refine (hcall _).out.mono ?_
        rintro e w2 ⟨rfl, h2⟩
        obtain ⟨fb, hown, hsn, hx⟩ := HR.out
        have h3 : Below wr.heap.size wr w2 := below_then ((Below.refl _ _).alloc (Nat.le_refl _) _) (by simp) h2
        have hown2 := own_below hown h3
        have d0 : w2.cell? ⟨wr.heap.size, 0, none⟩ = some (.int .u64 (y.e : Int)) := (h2.cell (p := ⟨wr.heap.size, 0, none⟩) (by simp)).trans (by simp [go_sem])
        have d1 : w2.cell? ⟨wr.heap.size, 1, none⟩ = some (.int .u64 (y.a : Int)) := (h2.cell (p := ⟨wr.heap.size, 1, none⟩) (by simp)).trans (by simp [go_sem])
        have d2 : w2.cell? ⟨wr.heap.size, 2, none⟩ = some (.int .u64 (y.b : Int)) := (h2.cell (p := ⟨wr.heap.size, 2, none⟩) (by simp)).trans (by simp [go_sem])
        have hz2 := h3.size
        have H3 := Lib.hid (And.intro (fb.trans (h3.mono fb.size)) hsn)
        clear fb hown hsn hx h2 h3
        go_wp2_with (at_builtin; refine wpList_push _ rfl _ _ 23 rfl w0.heap.size 32 i0 _ 3 24 hU hi hz0 hz1 ‹i0.bytes = 24› rfl (by decide) _ _ _ rfl hown2 _ rfl rfl ?c1 ?c2 ?c3 ?c4 ?_)
        case c1 => exact ⟨rfl, rfl, rfl⟩
        case c2 => unfold maxLen; omega
        case c3 => omega
        case c4 => omega
        intro v' w' ho' hb' _ _
        obtain ⟨fb, hsn⟩ := H3.out
        have H4 := Lib.hid (And.intro (fb.trans hb') (And.intro hsn ho'))
        clear fb hsn ho' hb' hown2
        go_wp2
        obtain ⟨fb, hsn, ho'⟩ := H4.out
        go_roundw
        case rel =>
          refine ⟨k + 1, by go_num, by omega, fb, ?_⟩
          rw [hsn]
          unfold keepStep
          rw [if_neg HE.out, ← flatT_snoc, List.length_append]
          exact ho'
        case measure => simp [intOf]; omega
    · have hk2 : k = l.length := by omega
      have hfin : frontTo (sortT l) k = frontL l := by unfold frontL; rw [hk2, hlen]
      rw [hfin] at hown ⊢
      have HR := Lib.hid (And.intro fb (And.intro hown (And.intro hb0 hk2)))
      clear fb hown hb0 hk2 hfin hfl hlen ht0 htf
      go_wp2_with fail
      go_ret
      obtain ⟨fb, hown, hb0, hk2⟩ := HR.out
      refine ⟨_, rfl, ?_, hb0.trans (fb.mono hb0.size)⟩
      exact ⟨hown.1, hown.2.imp id fun ⟨g, cap, cur, e, hbg, r⟩ => ⟨g, cap, cur, e, Nat.le_trans hb0.size hbg, r⟩⟩
end Go.Proofs.Ytammngncmkhokaa
namespace Go.Proofs.Ytammngncmkhokaa
open Go Go.RowKit
attribute [local go_sem ↓] Go.wp_at_zero Go.wp_at_succ

end Go.Proofs.Ytammngncmkhokaa
namespace Go.Proofs.Ytammngncmkhokaa
open Go Go.RowKit
attribute [local go_sem ↓] Go.wp_at_zero Go.wp_at_succ

theorem sort_fixed : sortT [⟨2, 0, 1⟩, ⟨1, 0, 2⟩, ⟨3, 0, 2⟩] = [⟨1, 0, 2⟩, ⟨2, 0, 1⟩, ⟨3, 0, 2⟩] := by
  simp [sortT, List.mergeSort, List.MergeSort.Internal.splitInTwo, List.merge, ltT]
theorem front_fixed : frontL [⟨2, 0, 1⟩, ⟨1, 0, 2⟩, ⟨3, 0, 2⟩] = [⟨1, 0, 2⟩, ⟨2, 0, 1⟩] := by
  unfold frontL; rw [sort_fixed]; decide
theorem below_new {a b : World} (h : Below a.heap.size a b) (o : Obj) : Below a.heap.size a (b.alloc o) := h.alloc h.size o
theorem times_one' {w : World} {N : Nat} (s : Tm) (hN : w.heap.size = N) : Times (w.alloc (.cells #[.int .u64 (s.e : Int), .int .u64 (s.a : Int), .int .u64 (s.b : Int)] 32)) (N + 1) (some ⟨N, 0, none⟩) [s] := hN ▸ times_one w s
theorem keep3 {a b : World} {g o : Nat} {x y z : Value} (hB : g < a.heap.size) (h0 : a.cell? ⟨g, o, none⟩ = some x) (h1 : a.cell? ⟨g, o + 1, none⟩ = some y) (h2 : a.cell? ⟨g, o + 2, none⟩ = some z) (h : Below a.heap.size a b) :
    Below a.heap.size a b ∧ b.cell? ⟨g, o, none⟩ = some x ∧ b.cell? ⟨g, o + 1, none⟩ = some y ∧ b.cell? ⟨g, o + 2, none⟩ = some z :=
  ⟨h, (h.cell (p := ⟨g, o, none⟩) hB).trans h0, (h.cell (p := ⟨g, o + 1, none⟩) hB).trans h1, (h.cell (p := ⟨g, o + 2, none⟩) hB).trans h2⟩
theorem times_lit3 {w : World} {N : Nat} (s t u : Tm) (hN : w.heap.size = N) : Times (w.alloc (.cells #[.int .u64 (s.e : Int), .int .u64 (s.a : Int), .int .u64 (s.b : Int), .int .u64 (t.e : Int), .int .u64 (t.a : Int), .int .u64 (t.b : Int), .int .u64 (u.e : Int), .int .u64 (u.a : Int), .int .u64 (u.b : Int)] 32)) (N + 1) (some ⟨N, 0, none⟩) [s, t, u] := by
  subst hN
  intro _
  refine ⟨_, _, rfl, by omega, fun i x hx => ?_⟩
  match i, hx with
  | 0, hx => obtain rfl : s = x := by simpa using hx
             exact ⟨by simp [go_sem], by simp [go_sem], by simp [go_sem]⟩
  | 1, hx => obtain rfl : t = x := by simpa using hx
             exact ⟨by simp [go_sem], by simp [go_sem], by simp [go_sem]⟩
  | 2, hx => obtain rfl : u = x := by simpa using hx
             exact ⟨by simp [go_sem], by simp [go_sem], by simp [go_sem]⟩

end Go.Proofs.Ytammngncmkhokaa
namespace Go.Proofs.Ytammngncmkhokaa
open Go Go.RowKit

theorem boxes1 (w : World) (s : Tm) : ∃ W, W = w.alloc (.cells #[.int .u64 (s.e : Int), .int .u64 (s.a : Int), .int .u64 (s.b : Int)] 32) ∧ Below w.heap.size w W ∧ Own W w.heap.size 32 s.cells :=
  ⟨_, rfl, (Below.refl _ _).alloc (Nat.le_refl _) _, by have := Own.made w 32 s.cells; simpa [Tm.cells] using this⟩
theorem boxes2 (w : World) (s t : Tm) : ∃ W, W = (w.alloc (.cells #[.int .u64 (s.e : Int), .int .u64 (s.a : Int), .int .u64 (s.b : Int)] 32)).alloc (.cells #[.int .u64 (t.e : Int), .int .u64 (t.a : Int), .int .u64 (t.b : Int)] 32) ∧
    Below w.heap.size w W ∧ Own W w.heap.size 32 s.cells ∧ Own W (w.heap.size + 1) 32 t.cells := by
  obtain ⟨W, hW, fb, f0⟩ := boxes1 w s
  have h1 : W.heap.size = w.heap.size + 1 := by rw [hW]; simp
  rw [← hW]
  obtain ⟨V, hV, gb, g0⟩ := boxes1 W t
  rw [← hV]
  rw [h1] at g0
  exact ⟨V, rfl, fb.trans (gb.mono (by omega)), f0.past gb f0.inside, g0⟩
theorem boxes3 (w : World) (s t u : Tm) : ∃ W, W = ((w.alloc (.cells #[.int .u64 (s.e : Int), .int .u64 (s.a : Int), .int .u64 (s.b : Int)] 32)).alloc (.cells #[.int .u64 (t.e : Int), .int .u64 (t.a : Int), .int .u64 (t.b : Int)] 32)).alloc (.cells #[.int .u64 (u.e : Int), .int .u64 (u.a : Int), .int .u64 (u.b : Int)] 32) ∧
    Below w.heap.size w W ∧ Own W w.heap.size 32 s.cells ∧ Own W (w.heap.size + 1) 32 t.cells ∧ Own W (w.heap.size + 1 + 1) 32 u.cells := by
  obtain ⟨W, hW, fb, f0, f1⟩ := boxes2 w s t
  have h1 : W.heap.size = w.heap.size + 1 + 1 := by rw [hW]; simp
  rw [← hW]
  obtain ⟨V, hV, gb, g0⟩ := boxes1 W u
  rw [← hV]
  rw [h1] at g0
  exact ⟨V, rfl, fb.trans (gb.mono (by omega)), f0.past gb f0.inside, f1.past gb f1.inside, g0⟩
theorem own_cells {a b : World} {g : Nat} {t : Tm} (h : Own a g 32 t.cells) (hb : Below a.heap.size a b) :
    b.cell? ⟨g, 0, none⟩ = some (.int .u64 (t.e : Int)) ∧ b.cell? ⟨g, 1, none⟩ = some (.int .u64 (t.a : Int)) ∧ b.cell? ⟨g, 2, none⟩ = some (.int .u64 (t.b : Int)) := by
  have h2 := h.past hb h.inside
  exact ⟨h2.at_ 0, h2.at_ 1, h2.at_ 2⟩
theorem keepB1 {a b : World} {g : Nat} {s : Tm} (h : Own a g 32 s.cells) (hb : Below a.heap.size a b) :
    Below a.heap.size a b ∧ b.cell? ⟨g, 0, none⟩ = some (.int .u64 (s.e : Int)) ∧ b.cell? ⟨g, 1, none⟩ = some (.int .u64 (s.a : Int)) ∧ b.cell? ⟨g, 2, none⟩ = some (.int .u64 (s.b : Int)) := ⟨hb, own_cells h hb⟩
theorem keepB2 {a b : World} {g g' : Nat} {s t : Tm} (h : Own a g 32 s.cells) (h' : Own a g' 32 t.cells) (hb : Below a.heap.size a b) :
    Below a.heap.size a b ∧ b.cell? ⟨g, 0, none⟩ = some (.int .u64 (s.e : Int)) ∧ b.cell? ⟨g, 1, none⟩ = some (.int .u64 (s.a : Int)) ∧ b.cell? ⟨g, 2, none⟩ = some (.int .u64 (s.b : Int)) ∧
      b.cell? ⟨g', 0, none⟩ = some (.int .u64 (t.e : Int)) ∧ b.cell? ⟨g', 1, none⟩ = some (.int .u64 (t.a : Int)) ∧ b.cell? ⟨g', 2, none⟩ = some (.int .u64 (t.b : Int)) := by
  obtain ⟨a0, a1, a2⟩ := own_cells h hb
  exact ⟨hb, a0, a1, a2, own_cells h' hb⟩
theorem keepB3 {a b : World} {g g' g'' : Nat} {s t u : Tm} (h : Own a g 32 s.cells) (h' : Own a g' 32 t.cells) (h'' : Own a g'' 32 u.cells) (hb : Below a.heap.size a b) :
    Below a.heap.size a b ∧ b.cell? ⟨g, 0, none⟩ = some (.int .u64 (s.e : Int)) ∧ b.cell? ⟨g, 1, none⟩ = some (.int .u64 (s.a : Int)) ∧ b.cell? ⟨g, 2, none⟩ = some (.int .u64 (s.b : Int)) ∧
      b.cell? ⟨g', 0, none⟩ = some (.int .u64 (t.e : Int)) ∧ b.cell? ⟨g', 1, none⟩ = some (.int .u64 (t.a : Int)) ∧ b.cell? ⟨g', 2, none⟩ = some (.int .u64 (t.b : Int)) ∧
      b.cell? ⟨g'', 0, none⟩ = some (.int .u64 (u.e : Int)) ∧ b.cell? ⟨g'', 1, none⟩ = some (.int .u64 (u.a : Int)) ∧ b.cell? ⟨g'', 2, none⟩ = some (.int .u64 (u.b : Int)) := by
  obtain ⟨a0, a1, a2⟩ := own_cells h hb
  obtain ⟨b0, b1, b2⟩ := own_cells h' hb
  exact ⟨hb, a0, a1, a2, b0, b1, b2, own_cells h'' hb⟩
end Go.Proofs.Ytammngncmkhokaa
