/- Rows stand as their values do, the first that differ. -/
import Derived.Test.YtpfjeibhklacbaaVRefCompare
import Derived.Test.YtpfjeibhklacbaaVals
namespace Go.Proofs.Ytpfjeibhklacbaa
open Go Go.RowKit

theorem cmpRows_same : ∀ (k : Nat) (a b : List Vl) , k ≤ a.length → k ≤ b.length → (∀ (j : Nat) (x y : Vl), j < k → a[j]? = some x → b[j]? = some y → x.cmp y = 0) → cmpRows a b = cmpRows (a.drop k) (b.drop k)
  | 0, a, b, _, _, _ => by simp
  | k + 1, [], b, h, _, _ => by simp at h
  | k + 1, x :: a, [], _, h, _ => by simp at h
  | k + 1, x :: a, y :: b, h, h', hs => by
    have h0 := hs 0 x y (by omega) rfl rfl
    rw [cmpRows, if_pos h0, List.drop_succ_cons, List.drop_succ_cons]
    exact cmpRows_same k a b (by simpa using h) (by simpa using h') fun j z u hj hz hu => hs (j + 1) z u (by omega) (by simpa using hz) (by simpa using hu)
theorem cmpRows_at {a b : List Vl} {k : Nat} {x y : Vl} (hs : ∀ (j : Nat) (x y : Vl), j < k → a[j]? = some x → b[j]? = some y → x.cmp y = 0) (hx : a[k]? = some x) (hy : b[k]? = some y) (h : x.cmp y ≠ 0) : cmpRows a b = x.cmp y := by
  obtain ⟨h1, e1⟩ := List.getElem?_eq_some_iff.1 hx
  obtain ⟨h2, e2⟩ := List.getElem?_eq_some_iff.1 hy
  rw [cmpRows_same k a b (by omega) (by omega) hs, List.drop_eq_getElem_cons h1, List.drop_eq_getElem_cons h2, cmpRows, e1, e2, if_neg h]
theorem cmpRows_end {a b : List Vl} {k : Nat} (hs : ∀ (j : Nat) (x y : Vl), j < k → a[j]? = some x → b[j]? = some y → x.cmp y = 0) (h1 : k ≤ a.length) (h2 : k ≤ b.length) (h : k = a.length ∨ k = b.length) :
    cmpRows a b = if a.length < b.length then -1 else if b.length < a.length then 1 else 0 := by
  rw [cmpRows_same k a b h1 h2 hs]
  rcases h with rfl | rfl
  · rw [List.drop_length]
    by_cases h3 : a.length < b.length
    · rw [if_pos h3, List.drop_eq_getElem_cons h3]; rfl
    · rw [if_neg h3, if_neg (by omega), List.drop_of_length_le (by omega)]; rfl
  · rw [List.drop_length]
    by_cases h3 : b.length < a.length
    · rw [if_neg (by omega), if_pos h3, List.drop_eq_getElem_cons h3]; rfl
    · rw [if_neg (by omega), if_neg h3, List.drop_of_length_le (by omega)]; rfl

set_option maxRecDepth 100000 in
set_option maxHeartbeats 1600000 in
theorem cmpFunc_any (A A' : Option Addr) (c c' : Nat) (l m : List Vl) (w : World) (hl : Vals w w.heap.size A l) (hm : Vals w w.heap.size A' m) (hn : l.length ≤ maxLen) (hn' : m.length ≤ maxLen) :
    Calls Try.prog 54 #[.slice A l.length c, .slice A' m.length c', .func (.func 55) #[] #[]] w fun e w' => e = .returned (.int .i64 (cmpRows l m)) ∧ Below w.heap.size w w' := by
  unfold maxLen at hn hn'
  have Hl := Lib.hid (And.intro hl hm)
  clear hl hm
  have hcmp := fun x y W => Lib.hid (vcompare_any x y W)
  unfold Vl.val at hcmp
  go_enter Try.func54, Try.ntmps54
  go_wp2_with fail
  go_loopw [13] (fun i wr => ∃ k : Nat, i = .int .i64 (k : Int) ∧ k ≤ l.length ∧ k ≤ m.length ∧ Below w.heap.size w wr ∧ ∀ (j : Nat) (x y : Vl), j < k → l[j]? = some x → m[j]? = some y → x.cmp y = 0)
    (fun i _ => l.length - (intOf i).toNat)
  case atStart => exact ⟨0, rfl, by omega, by omega, Below.refl _ _, fun j x y hj => absurd hj (by omega)⟩
  case round =>
    obtain ⟨k, rfl, hk, hk', hb, hs⟩ := hrel
    by_cases hlt : k < l.length
    · have hx : l[k]? = some l[k] := List.getElem?_eq_getElem hlt
      obtain ⟨b, o, rfl, hB, hl⟩ := Hl.out.1 (by omega)
      obtain ⟨c0, c1, c2⟩ := (hl k _ hx).past hb hB
      have hB2 : b < wr.heap.size := by have := hb.size; omega
      by_cases hltm : k < m.length
      · have hy : m[k]? = some m[k] := List.getElem?_eq_getElem hltm
        obtain ⟨b', o', rfl, hB', hm⟩ := Hl.out.2 (by omega)
        obtain ⟨d0, d1, d2⟩ := (hm k _ hy).past hb hB'
        have hB3 : b' < wr.heap.size := by have := hb.size; omega
        have hB4 : b' < wr.heap.size + 1 := by omega
        have hat := fun h => cmpRows_at hs hx hy h
        generalize l[k] = x at *
        generalize m[k] = y at *
        have hcall := fun W => hcmp x y W
        have HH := Lib.hid (And.intro hb (And.intro hs (And.intro hx (And.intro hy hat))))
        clear hb hs hx hy hl hm hat hcmp
        have q0 : decide (m.length ≤ k) = false := by simp; omega
        by_cases hz : x.cmp y = 0
        · simp only [hz] at hcall
          have HZ := Lib.hid hz
          clear hz
          go_wp2_with fail
          refine (hcall _).out.mono ?_
          rintro e w1 ⟨rfl, h1⟩
          have H1 := Lib.hid (below_then (((Below.refl wr.heap.size wr).alloc (Nat.le_refl _) _).alloc (by simp) _) (by simp) h1)
          clear h1
          go_wp2_with fail
          obtain ⟨hb, hs, hx, hy, hat⟩ := HH.out
          go_roundw
          case rel =>
            refine ⟨k + 1, by go_num, by omega, by omega, hb.trans (H1.out.mono hb.size), fun j u v hj hu hv => ?_⟩
            by_cases hjk : j = k
            · subst hjk
              rw [hx] at hu; rw [hy] at hv
              injection hu with hu; injection hv with hv
              subst hu hv
              exact HZ.out
            · exact hs j u v (by omega) hu hv
          case measure => simp [intOf]; omega
        · have hzb : (x.cmp y != 0) = true := by simpa using hz
          have hrr := HH.out.2.2.2.2 hz
          generalize x.cmp y = r at hcall hzb hrr
          have HZ := Lib.hid hrr
          clear hz hrr
          go_wp2_with fail
          refine (hcall _).out.mono ?_
          rintro e w1 ⟨rfl, h1⟩
          have H1 := Lib.hid (below_then (((Below.refl wr.heap.size wr).alloc (Nat.le_refl _) _).alloc (by simp) _) (by simp) h1)
          clear h1
          go_wp2_with fail
          go_ret
          obtain ⟨hb, hs, hx, hy, hat⟩ := HH.out
          exact ⟨ret_i64 HZ.out.symm, hb.trans (H1.out.mono hb.size)⟩
      · have hkm : k = m.length := by omega
        have hend := cmpRows_end hs (by omega) (by omega) (.inr hkm)
        rw [if_neg (by omega), if_pos (by omega)] at hend
        have HH := Lib.hid (And.intro hb hend)
        have q0 : decide (m.length ≤ k) = true := by simp; omega
        generalize l[k] = x at *
        clear hb hs hx hl hend hkm
        go_wp2_with fail
        go_ret
        exact ⟨ret_i64 HH.out.2.symm, HH.out.1.trans ((Below.refl _ _).alloc HH.out.1.size _)⟩
    · have hkl : k = l.length := by omega
      have hend := cmpRows_end hs (by omega) (by omega) (.inl hkl)
      rw [if_neg (show ¬ m.length < l.length by omega)] at hend
      have HH := Lib.hid (And.intro hb (And.intro hend hkl))
      clear hb hs hend
      by_cases hlm : l.length < m.length
      · have q1 : decide (l.length < m.length) = true := by simpa using hlm
        have HE := Lib.hid hlm
        clear hlm hkl
        go_wp2_with fail
        go_ret
        exact ⟨ret_i64 (by rw [HH.out.2.1, if_pos HE.out]), HH.out.1⟩
      · have q1 : decide (l.length < m.length) = false := by simpa using hlm
        have HE := Lib.hid hlm
        clear hlm hkl
        go_wp2_with fail
        go_ret
        exact ⟨ret_i64 (by rw [HH.out.2.1, if_neg HE.out]), HH.out.1⟩
end Go.Proofs.Ytpfjeibhklacbaa
