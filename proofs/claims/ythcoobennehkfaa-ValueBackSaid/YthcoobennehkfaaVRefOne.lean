/- Taking a value, by the reference. -/
import Derived.Test.YthcoobennehkfaaVTakeRow
import Derived.Test.YthcoobennehkfaaRefTakeCount
namespace Go.Proofs.Ythcoobennehkfaa
open Go Go.RowKit

/-- the right value that bytes begin with -/
def oneR (s : List UInt8) : Option (Vl × List UInt8) := match oneS s with | none => none | some x => if x.1.right then some x else none
def OnePost (o : Option (Vl × List UInt8)) (w : World) (e : Ending) (w' : World) : Prop :=
  (∃ (x : Vl) (r : List UInt8) (b : Bool), e = .returned (.tuple #[.agg #[.bool x.t, .int .i64 x.n, .string x.s], .string ⟨r.toArray⟩, .bool b]) ∧ ((o = some (x, r) ∧ b = true) ∨ (o = none ∧ b = false))) ∧ Below w.heap.size w w'
theorem one_mk {o : Option (Vl × List UInt8)} {w w' : World} {t : Bool} {n : Int} {s : ByteArray} {r : List UInt8} {b : Bool} (h : (o = some (⟨t, n, s⟩, r) ∧ b = true) ∨ (o = none ∧ b = false)) (hb : Below w.heap.size w w') :
    OnePost o w (.returned (.tuple #[.agg #[.bool t, .int .i64 n, .string s], .string ⟨r.toArray⟩, .bool b])) w' := ⟨⟨⟨t, n, s⟩, r, b, rfl, h⟩, hb⟩
theorem oneR_num (R : List UInt8) (b : UInt8) (hb : b.toNat = 0) (q : Int × List UInt8 × Int) (hq : tn (tc 0 0 R) = q) :
    (oneR (b :: R) = some (⟨false, q.1, ⟨#[]⟩⟩, q.2.1) ∧ q.2.2 = 0) ∨ (oneR (b :: R) = none ∧ q.2.2 ≠ 0) := by
  unfold oneR
  simp only [oneS]
  rw [if_pos (byte_is (c := 0) hb), hq]
  by_cases hy : q.2.2 = 0
  · rw [if_pos hy]; exact .inl ⟨rfl, hy⟩
  · rw [if_neg hy]; exact .inr ⟨rfl, hy⟩
theorem oneR_text (R : List UInt8) (b : UInt8) (hb : b.toNat = 1) (q : List UInt8 × List UInt8 × Int) (hq : tt (tc 0 0 R) = q) :
    (oneR (b :: R) = some (⟨true, 0, ⟨q.1.toArray⟩⟩, q.2.1) ∧ q.2.2 = 0 ∧ q.1.length ≤ 64) ∨ (oneR (b :: R) = none ∧ ¬ (q.2.2 = 0 ∧ q.1.length ≤ 64)) := by
  have hb0 : ¬ b = 0 := fun e => by rw [e] at hb; cases hb
  unfold oneR
  simp only [oneS]
  rw [if_neg hb0, if_pos (byte_is (c := 1) hb), hq]
  by_cases hy : q.2.2 = 0
  · rw [if_pos hy]
    by_cases hl : q.1.length ≤ 64
    · refine .inl ⟨?_, hy, hl⟩
      have : Vl.right ⟨true, 0, ⟨q.1.toArray⟩⟩ = true := by
        unfold Vl.right
        simp only [if_true, sizeL]
        simpa using hl
      simp only [this, if_true]
    · refine .inr ⟨?_, fun h => hl h.2⟩
      have : Vl.right ⟨true, 0, ⟨q.1.toArray⟩⟩ = false := by
        unfold Vl.right
        simp only [if_true, sizeL]
        simpa using hl
      simp [this]
  · rw [if_neg hy]; exact .inr ⟨rfl, fun h => hy h.1⟩
set_option maxRecDepth 100000 in
set_option maxHeartbeats 3200000 in
theorem refOne_any (s : ByteArray) (w : World) (hs : s.size ≤ maxLen) :
    Calls Try.prog 52 #[.string s] w (OnePost (oneR s.data.toList) w) := by
  by_cases h0 : s.size = 0
  · have hl : s.data.toList = [] := List.eq_nil_of_length_eq_zero (by rw [len_of]; exact h0)
    have fe : s.toList.isEmpty = true := by rw [ByteArray.toList_eq, hl]; rfl
    rw [hl]
    clear hl h0
    go_enter Try.func52, Try.ntmps52
    go_wp2_with fail
    exact bodyPost_ret (v := .tuple #[.agg #[.bool false, .int .i64 0, .string ⟨#[]⟩], .string ⟨#[]⟩, .bool false]) (by simp [results, Try.results52, go_sem]) rfl (one_mk (r := []) (.inr ⟨rfl, rfl⟩) ((Below.refl _ _).alloc (Nat.le_refl _) _))
  · have hp : 0 < s.size := by omega
    obtain ⟨fe, hl⟩ := list_ne hp
    have hx : s.extract 1 s.size = ⟨(s.data.toList.drop 1).toArray⟩ := extract_from s 1
    have hxl : (s.extract 1 s.size).data.toList = s.data.toList.drop 1 := by rw [hx]
    have hxs : (s.extract 1 s.size).size ≤ maxLen := by rw [hx, sizeL, List.length_drop, len_of]; omega
    have hn := fun W => Lib.hid (refTakeNumber_any (s.extract 1 s.size) W hxs)
    have ht := fun W => Lib.hid (refTakeText_any (s.extract 1 s.size) W hxs)
    rw [hxl] at hn ht
    unfold maxLen at hs
    have hl := Lib.hid hl
    clear h0 hx hxl hxs
    generalize s.data.toList.drop 1 = R at *
    by_cases hb0 : s[0].toNat = 0
    · have t0 : decide ((1 : Int) < (s[0].toNat : Int)) = false := by simp; omega
      have t1 : ((s[0].toNat : Int) == 0) = true := by simp; omega
      obtain ⟨q, hq⟩ : ∃ q, tn (tc 0 0 R) = q := ⟨_, rfl⟩
      have HO := Lib.hid (oneR_num R s[0] hb0 q hq)
      rw [hl.out]
      rw [hq] at hn
      obtain ⟨q1, q2, q3⟩ := q
      unfold tripleI at hn
      dsimp only at hn
      clear hl hq ht
      go_enter Try.func52, Try.ntmps52
      go_wp2_with fail
      refine (hn _).out.mono ?_
      rintro e w1 ⟨rfl, b1⟩
      have o1 := (Own.made w 23 [.bool false, .int .i64 0, .string ⟨#[]⟩]).past b1 (by simp)
      have f0 := o1.open_ 0
      have f1 := o1.open_ 1
      have f2 := o1.open_ 2
      have d0 := o1.at_ 0
      have d1 := o1.at_ 1
      have d2 := o1.at_ 2
      have hg := o1.inside
      simp only [List.getElem?_cons_zero, List.getElem?_cons_succ] at d0 d1 d2
      have B1 := Lib.hid (((Below.refl w.heap.size w).alloc (Nat.le_refl _) (.cells #[.bool false, .int .i64 0, .string ⟨#[]⟩] 23)).trans (b1.mono (by simp)))
      have HO1 := Lib.hid o1
      clear b1 o1
      rcases HO.out with ⟨hO, hy⟩ | ⟨hO, hy⟩
      · subst hy
        have HN := Lib.hid hO
        clear hO HO
        go_wp2_with fail
        have a2 := HO1.out.set_ 0 (.bool false)
        have a3 := a2.set_ 1 (.int .i64 q1)
        have a4 := a3.set_ 2 (.string ⟨#[]⟩)
        have e0 := HO1.out.set_ 0 (.bool false) |>.at_ 0
        have e1 := a3.at_ 1
        have e2 := a4.at_ 2
        simp only [List.set_cons_succ, List.set_cons_zero, List.getElem?_cons_zero, List.getElem?_cons_succ] at e0 e1 e2
        exact bodyPost_ret (v := .tuple #[.agg #[.bool false, .int .i64 q1, .string ⟨#[]⟩], .string ⟨q2.toArray⟩, .bool true]) (by simp [results, Try.results52, go_sem, e0, e1, e2]) rfl
          (one_mk (.inl ⟨HN.out, rfl⟩) (((B1.out.setCell (Nat.le_refl _) _).setCell (Nat.le_refl _) _).setCell (Nat.le_refl _) _))
      · have ty : (q3 == 0) = false := by simpa using hy
        have HN := Lib.hid hO
        clear hO HO hy
        go_wp2_with fail
        have a2 := HO1.out.set_ 0 (.bool false)
        have a3 := a2.set_ 1 (.int .i64 q1)
        have a4 := a3.set_ 2 (.string ⟨#[]⟩)
        have e0 := HO1.out.set_ 0 (.bool false) |>.at_ 0
        have e1 := a3.at_ 1
        have e2 := a4.at_ 2
        simp only [List.set_cons_succ, List.set_cons_zero, List.getElem?_cons_zero, List.getElem?_cons_succ] at e0 e1 e2
        exact bodyPost_ret (v := .tuple #[.agg #[.bool false, .int .i64 q1, .string ⟨#[]⟩], .string ⟨q2.toArray⟩, .bool false]) (by simp [results, Try.results52, go_sem, e0, e1, e2]) rfl
          (one_mk (.inr ⟨HN.out, rfl⟩) (((B1.out.setCell (Nat.le_refl _) _).setCell (Nat.le_refl _) _).setCell (Nat.le_refl _) _))
    · by_cases hb1 : s[0].toNat = 1
      · have t0 : decide ((1 : Int) < (s[0].toNat : Int)) = false := by simp; omega
        have t1 : ((s[0].toNat : Int) == 0) = false := by simp; omega
        obtain ⟨q, hq⟩ : ∃ q, tt (tc 0 0 R) = q := ⟨_, rfl⟩
        have hO := oneR_text R s[0] hb1 q hq
        rw [hl.out]
        rw [hq] at ht
        obtain ⟨q1, q2, q3⟩ := q
        unfold tripleS at ht
        dsimp only at ht hO
        clear hl hq hn
        have HO := Lib.hid hO
        clear hO
        have hsz : (⟨q1.toArray⟩ : ByteArray).size = q1.length := sizeL _
        go_enter Try.func52, Try.ntmps52
        go_wp2_with fail
        refine (ht _).out.mono ?_
        rintro e w1 ⟨rfl, b1⟩
        have o1 := (Own.made w 23 [.bool false, .int .i64 0, .string ⟨#[]⟩]).past b1 (by simp)
        have f0 := o1.open_ 0
        have f1 := o1.open_ 1
        have f2 := o1.open_ 2
        have d0 := o1.at_ 0
        have d1 := o1.at_ 1
        have d2 := o1.at_ 2
        have hg := o1.inside
        simp only [List.getElem?_cons_zero, List.getElem?_cons_succ] at d0 d1 d2
        have B1 := Lib.hid (((Below.refl w.heap.size w).alloc (Nat.le_refl _) (.cells #[.bool false, .int .i64 0, .string ⟨#[]⟩] 23)).trans (b1.mono (by simp)))
        have HO1 := Lib.hid o1
        clear b1 o1
        rcases HO.out with ⟨hO, hy, hle⟩ | ⟨hO, hy⟩
        · subst hy
          have tl : decide ((q1.length : Int) ≤ 64) = true := by simp; omega
          have tl' : decide (((⟨q1.toArray⟩ : ByteArray).size : Int) ≤ 64) = true := by rw [hsz]; exact tl
          have HN := Lib.hid hO
          clear hO HO hle
          go_wp2_with fail
          have a2 := HO1.out.set_ 0 (.bool true)
          have a3 := a2.set_ 1 (.int .i64 0)
          have a4 := a3.set_ 2 (.string ⟨q1.toArray⟩)
          have e0 := HO1.out.set_ 0 (.bool true) |>.at_ 0
          have e1 := a3.at_ 1
          have e2 := a4.at_ 2
          simp only [List.set_cons_succ, List.set_cons_zero, List.getElem?_cons_zero, List.getElem?_cons_succ] at e0 e1 e2
          exact bodyPost_ret (v := .tuple #[.agg #[.bool true, .int .i64 0, .string ⟨q1.toArray⟩], .string ⟨q2.toArray⟩, .bool true]) (by simp [results, Try.results52, go_sem, e0, e1, e2]) rfl
            (one_mk (.inl ⟨HN.out, rfl⟩) (((B1.out.setCell (Nat.le_refl _) _).setCell (Nat.le_refl _) _).setCell (Nat.le_refl _) _))
        · have HN := Lib.hid hO
          clear hO HO
          by_cases hy0 : q3 = 0
          · subst hy0
            have tl : decide ((q1.length : Int) ≤ 64) = false := by simp; omega
            have tl' : decide (((⟨q1.toArray⟩ : ByteArray).size : Int) ≤ 64) = false := by rw [hsz]; exact tl
            clear hy
            go_wp2_with fail
            have a2 := HO1.out.set_ 0 (.bool true)
            have a3 := a2.set_ 1 (.int .i64 0)
            have a4 := a3.set_ 2 (.string ⟨q1.toArray⟩)
            have e0 := HO1.out.set_ 0 (.bool true) |>.at_ 0
            have e1 := a3.at_ 1
            have e2 := a4.at_ 2
            simp only [List.set_cons_succ, List.set_cons_zero, List.getElem?_cons_zero, List.getElem?_cons_succ] at e0 e1 e2
            exact bodyPost_ret (v := .tuple #[.agg #[.bool true, .int .i64 0, .string ⟨q1.toArray⟩], .string ⟨q2.toArray⟩, .bool false]) (by simp [results, Try.results52, go_sem, e0, e1, e2]) rfl
              (one_mk (.inr ⟨HN.out, rfl⟩) (((B1.out.setCell (Nat.le_refl _) _).setCell (Nat.le_refl _) _).setCell (Nat.le_refl _) _))
          · have ty : (q3 == 0) = false := by simpa using hy0
            clear hy hy0
            go_wp2_with fail
            have a2 := HO1.out.set_ 0 (.bool true)
            have a3 := a2.set_ 1 (.int .i64 0)
            have a4 := a3.set_ 2 (.string ⟨q1.toArray⟩)
            have e0 := HO1.out.set_ 0 (.bool true) |>.at_ 0
            have e1 := a3.at_ 1
            have e2 := a4.at_ 2
            simp only [List.set_cons_succ, List.set_cons_zero, List.getElem?_cons_zero, List.getElem?_cons_succ] at e0 e1 e2
            exact bodyPost_ret (v := .tuple #[.agg #[.bool true, .int .i64 0, .string ⟨q1.toArray⟩], .string ⟨q2.toArray⟩, .bool false]) (by simp [results, Try.results52, go_sem, e0, e1, e2]) rfl
              (one_mk (.inr ⟨HN.out, rfl⟩) (((B1.out.setCell (Nat.le_refl _) _).setCell (Nat.le_refl _) _).setCell (Nat.le_refl _) _))
      · have t0 : decide ((1 : Int) < (s[0].toNat : Int)) = true := by simp; omega
        have hO : oneR (s[0] :: R) = none := by
          unfold oneR
          simp only [oneS]
          rw [if_neg (fun e => hb0 (by rw [e]; rfl)), if_neg (fun e => hb1 (by rw [e]; rfl))]
        rw [hl.out, hO]
        clear hO hl hn ht hb0 hb1
        go_enter Try.func52, Try.ntmps52
        go_wp2_with fail
        exact bodyPost_ret (v := .tuple #[.agg #[.bool false, .int .i64 0, .string ⟨#[]⟩], .string ⟨#[]⟩, .bool false]) (by simp [results, Try.results52, go_sem]) rfl (one_mk (r := []) (.inr ⟨rfl, rfl⟩) ((Below.refl _ _).alloc (Nat.le_refl _) _))
end Go.Proofs.Ythcoobennehkfaa
