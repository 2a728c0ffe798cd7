/- Taking a value, by the program. -/
import Derived.Test.YthcoobennehkfaaVTk
namespace Go.Proofs.Ythcoobennehkfaa
open Go Go.RowKit

/-- what takeValue hands back: the value and the rest; or anything, and why not -/
def TvPost (o : Option (Vl × List UInt8)) (w : World) (e : Ending) (w' : World) : Prop :=
  (∃ (x : Vl) (r : List UInt8) (y : Int), e = .returned (.tuple #[x.val, .string ⟨r.toArray⟩, .int .i64 y]) ∧ ((o = some (x, r) ∧ y = 0) ∨ (o = none ∧ y ≠ 0))) ∧ Below w.heap.size w w'
theorem tv_mk {o : Option (Vl × List UInt8)} {w w' : World} {t : Bool} {n : Int} {s : ByteArray} {r : List UInt8} {y : Int} (h : (o = some (⟨t, n, s⟩, r) ∧ y = 0) ∨ (o = none ∧ y ≠ 0)) (hb : Below w.heap.size w w') :
    TvPost o w (.returned (.tuple #[.agg #[.bool t, .int .i64 n, .string s], .string ⟨r.toArray⟩, .int .i64 y])) w' := ⟨⟨⟨t, n, s⟩, r, y, rfl, h⟩, hb⟩
theorem list_ne {s : ByteArray} (h : 0 < s.size) : s.toList.isEmpty = false ∧ s.data.toList = s[0] :: s.data.toList.drop 1 := by
  have h1 := drop_at s 0 h
  rw [List.drop_zero] at h1
  refine ⟨?_, h1⟩
  rw [ByteArray.toList_eq, h1]
  rfl
theorem byte_is {b c : UInt8} (h : b.toNat = c.toNat) : b = c := UInt8.toNat_inj.1 h
set_option maxRecDepth 100000 in
set_option maxHeartbeats 3200000 in
theorem takeValue_any (s : ByteArray) (w : World) (hs : s.size ≤ maxLen) :
    Calls Try.prog 50 #[.string s] w (TvPost (oneS s.data.toList) w) := by
  by_cases h0 : s.size = 0
  · have hl : s.data.toList = [] := List.eq_nil_of_length_eq_zero (by rw [len_of]; exact h0)
    have fe : s.toList.isEmpty = true := by rw [ByteArray.toList_eq, hl]; rfl
    rw [hl]
    clear hl h0
    go_enter Try.func50, Try.ntmps50
    go_wp2_with fail
    exact bodyPost_ret (v := .tuple #[.agg #[.bool false, .int .i64 0, .string ⟨#[]⟩], .string ⟨#[]⟩, .int .i64 3]) (by simp [results, Try.results50, go_sem]) rfl (tv_mk (r := []) (.inr ⟨rfl, by decide⟩) ((Below.refl _ _).alloc (Nat.le_refl _) _))
  · have hp : 0 < s.size := by omega
    obtain ⟨fe, hl⟩ := list_ne hp
    have hx : s.extract 1 s.size = ⟨(s.data.toList.drop 1).toArray⟩ := extract_from s 1
    have hxl : (s.extract 1 s.size).data.toList = s.data.toList.drop 1 := by rw [hx]
    have hxs : (s.extract 1 s.size).size ≤ maxLen := by rw [hx, sizeL, List.length_drop, len_of]; omega
    have hn := fun W => Lib.hid (takeNumber_any (s.extract 1 s.size) W hxs)
    have ht := fun W => Lib.hid (takeText_any (s.extract 1 s.size) W hxs)
    rw [hxl] at hn ht
    unfold maxLen at hs
    have hl := Lib.hid hl
    clear h0 hx hxl hxs
    generalize s.data.toList.drop 1 = R at *
    by_cases hb0 : s[0].toNat = 0
    · have t1 : ((s[0].toNat : Int) == 0) = true := by simp; omega
      obtain ⟨q, hq⟩ : ∃ q, tn (tc 0 0 R) = q := ⟨_, rfl⟩
      have hO : ∃ o, oneS (s[0] :: R) = o ∧ ((o = some (⟨false, q.1, ⟨#[]⟩⟩, q.2.1) ∧ q.2.2 = 0) ∨ (o = none ∧ q.2.2 ≠ 0)) := by
        refine ⟨_, rfl, ?_⟩
        simp only [oneS]
        rw [if_pos (byte_is (c := 0) hb0)]
        rw [hq]
        by_cases hy : q.2.2 = 0
        · rw [if_pos hy]; exact .inl ⟨rfl, hy⟩
        · rw [if_neg hy]; exact .inr ⟨rfl, hy⟩
      obtain ⟨O, hO1, hO2⟩ := hO
      rw [hl.out, hO1]
      rw [hq] at hn
      obtain ⟨q1, q2, q3⟩ := q
      have HO := Lib.hid hO2
      unfold tripleI at hn
      dsimp only at hn
      clear hO1 hO2 hl hq ht
      go_enter Try.func50, Try.ntmps50
      go_wp2_with fail
      refine (hn _).out.mono ?_
      rintro e w1 ⟨rfl, b1⟩
      have o1 := (Own.made w 23 [.bool false, .int .i64 0, .string ⟨#[]⟩]).past b1 (by simp)
      have f0 := o1.open_ 0
      have f1 := o1.open_ 1
      have f2 := o1.open_ 2
      have d0 := o1.at_ 0
      have d1 := o1.at_ 1
      have d2 := o1.at_ 2
      have hg := o1.inside
      simp only [List.getElem?_cons_zero, List.getElem?_cons_succ] at d0 d1 d2
      have B1 := Lib.hid (((Below.refl w.heap.size w).alloc (Nat.le_refl _) (.cells #[.bool false, .int .i64 0, .string ⟨#[]⟩] 23)).trans (b1.mono (by simp)))
      have HO1 := Lib.hid o1
      clear b1 o1
      go_wp2_with fail
      have a2 := (HO1.out.set_ 1 (.int .i64 q1)).set_ 0 (.bool false)
      have a3 := a2.set_ 1 (.int .i64 q1)
      have a4 := a3.set_ 2 (.string ⟨#[]⟩)
      have e0 := a2.at_ 0
      have e1 := a3.at_ 1
      have e2 := a4.at_ 2
      simp only [List.set_cons_succ, List.set_cons_zero, List.getElem?_cons_zero, List.getElem?_cons_succ] at e0 e1 e2
      exact bodyPost_ret (v := .tuple #[.agg #[.bool false, .int .i64 q1, .string ⟨#[]⟩], .string ⟨q2.toArray⟩, .int .i64 q3]) (by simp [results, Try.results50, go_sem, e0, e1, e2]) rfl
        (tv_mk HO.out ((((B1.out.setCell (Nat.le_refl _) _).setCell (Nat.le_refl _) _).setCell (Nat.le_refl _) _).setCell (Nat.le_refl _) _))
    · by_cases hb1 : s[0].toNat = 1
      · have t1 : ((s[0].toNat : Int) == 0) = false := by simp; omega
        have t2 : ((s[0].toNat : Int) == 1) = true := by simp; omega
        obtain ⟨q, hq⟩ : ∃ q, tt (tc 0 0 R) = q := ⟨_, rfl⟩
        have hO : ∃ o, oneS (s[0] :: R) = o ∧ ((o = some (⟨true, 0, ⟨q.1.toArray⟩⟩, q.2.1) ∧ q.2.2 = 0) ∨ (o = none ∧ q.2.2 ≠ 0)) := by
          refine ⟨_, rfl, ?_⟩
          simp only [oneS]
          rw [if_neg (fun e => hb0 (by rw [e]; rfl)), if_pos (byte_is (c := 1) hb1)]
          rw [hq]
          by_cases hy : q.2.2 = 0
          · rw [if_pos hy]; exact .inl ⟨rfl, hy⟩
          · rw [if_neg hy]; exact .inr ⟨rfl, hy⟩
        obtain ⟨O, hO1, hO2⟩ := hO
        rw [hl.out, hO1]
        rw [hq] at ht
        obtain ⟨q1, q2, q3⟩ := q
        have HO := Lib.hid hO2
        unfold tripleS at ht
        dsimp only at ht
        clear hO1 hO2 hl hq hn
        go_enter Try.func50, Try.ntmps50
        go_wp2_with fail
        refine (ht _).out.mono ?_
        rintro e w1 ⟨rfl, b1⟩
        have o1 := (Own.made w 23 [.bool true, .int .i64 0, .string ⟨#[]⟩]).past b1 (by simp)
        have f0 := o1.open_ 0
        have f1 := o1.open_ 1
        have f2 := o1.open_ 2
        have d0 := o1.at_ 0
        have d1 := o1.at_ 1
        have d2 := o1.at_ 2
        have hg := o1.inside
        simp only [List.getElem?_cons_zero, List.getElem?_cons_succ] at d0 d1 d2
        have B1 := Lib.hid (((Below.refl w.heap.size w).alloc (Nat.le_refl _) (.cells #[.bool true, .int .i64 0, .string ⟨#[]⟩] 23)).trans (b1.mono (by simp)))
        have HO1 := Lib.hid o1
        clear b1 o1
        go_wp2_with fail
        have a2 := (HO1.out.set_ 2 (.string ⟨q1.toArray⟩)).set_ 0 (.bool true)
        have a3 := a2.set_ 1 (.int .i64 0)
        have a4 := a3.set_ 2 (.string ⟨q1.toArray⟩)
        have e0 := a2.at_ 0
        have e1 := a3.at_ 1
        have e2 := a4.at_ 2
        simp only [List.set_cons_succ, List.set_cons_zero, List.getElem?_cons_zero, List.getElem?_cons_succ] at e0 e1 e2
        exact bodyPost_ret (v := .tuple #[.agg #[.bool true, .int .i64 0, .string ⟨q1.toArray⟩], .string ⟨q2.toArray⟩, .int .i64 q3]) (by simp [results, Try.results50, go_sem, e0, e1, e2]) rfl
          (tv_mk HO.out ((((B1.out.setCell (Nat.le_refl _) _).setCell (Nat.le_refl _) _).setCell (Nat.le_refl _) _).setCell (Nat.le_refl _) _))
      · have t1 : ((s[0].toNat : Int) == 0) = false := by simp; omega
        have t2 : ((s[0].toNat : Int) == 1) = false := by simp; omega
        have hO : oneS (s[0] :: R) = none := by
          simp only [oneS]
          rw [if_neg (fun e => hb0 (by rw [e]; rfl)), if_neg (fun e => hb1 (by rw [e]; rfl))]
        rw [hl.out, hO]
        clear hO hl hn ht hb0 hb1
        go_enter Try.func50, Try.ntmps50
        go_wp2_with fail
        exact bodyPost_ret (v := .tuple #[.agg #[.bool false, .int .i64 0, .string ⟨#[]⟩], .string ⟨#[]⟩, .int .i64 4]) (by simp [results, Try.results50, go_sem]) rfl (tv_mk (r := []) (.inr ⟨rfl, by decide⟩) ((Below.refl _ _).alloc (Nat.le_refl _) _))
end Go.Proofs.Ythcoobennehkfaa
