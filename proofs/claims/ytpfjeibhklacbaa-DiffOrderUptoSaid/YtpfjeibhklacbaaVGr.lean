/- The order of values and of rows, and what it leaves of the world: nothing but more of it. -/
import Derived.Test.YtpfjeibhklacbaaVRows
import Derived.Test.YtpfjeibhklacbaaCompare
namespace Go.Proofs.Ytpfjeibhklacbaa
open Go Go.RowKit Go.Sort

/-- the world with more blocks and draws -/
def Gr (w w' : World) : Prop := ∃ q os, w' = grow (w.drewN q) os
theorem Gr.refl (w : World) : Gr w w := ⟨0, #[], by simp [grow, World.drewN]⟩
theorem Gr.trans {a b c : World} (h : Gr a b) (k : Gr b c) : Gr a c := by
  obtain ⟨q, os, rfl⟩ := h
  obtain ⟨q', os', rfl⟩ := k
  exact ⟨q + q', os ++ os', by simp [grow, World.drewN, Array.append_assoc, Nat.add_assoc]⟩
theorem Gr.alloc {a b : World} (h : Gr a b) (o : Obj) : Gr a (b.alloc o) := by
  obtain ⟨q, os, rfl⟩ := h
  exact ⟨q, os ++ #[o], by rw [alloc_eq_grow, grow_grow]⟩
theorem Gr.drew {a b : World} (h : Gr a b) : Gr a b.drew := h.trans ⟨1, #[], by rw [grow_empty]; rfl⟩
theorem Gr.below {a b : World} (h : Gr a b) : Below a.heap.size a b := by
  obtain ⟨q, os, rfl⟩ := h
  exact below_grow a q os
theorem Gr.two (w : World) (o1 o2 : Obj) : Gr w ((w.alloc o1).alloc o2) := ((Gr.refl w).alloc o1).alloc o2
set_option maxRecDepth 100000 in
set_option maxHeartbeats 1600000 in
theorem vcompare_gr (a b : Vl) (w : World) :
    Calls Try.prog 55 #[a.val, b.val] w fun e w' => e = .returned (.int .i64 (a.cmp b)) ∧ Gr w w' := by
  have HB := Lib.hid (Gr.two w)
  obtain ⟨p, n, s⟩ := a
  obtain ⟨q, m, t⟩ := b
  unfold Vl.val Vl.cmp
  dsimp only
  cases p <;> cases q
  all_goals
    simp only [Bool.false_eq_true, if_false, if_true]
    go_enter Try.func55, Try.ntmps55
    go_wp2_with (first | (go_at_call 69; refine (cmpInt_any _ _ _).mono ?_; rintro e w' ⟨rfl, rfl⟩) | (go_at_call 68; refine (cmpStr_any _ _ _).mono ?_; rintro e w' ⟨rfl, rfl⟩))
    go_ret
    exact ⟨rfl, HB.out _ _⟩
set_option maxRecDepth 100000 in
set_option maxHeartbeats 1600000 in
theorem cmpFunc_gr (A A' : Option Addr) (c c' : Nat) (l m : List Vl) (w : World) (hl : Vals w w.heap.size A l) (hm : Vals w w.heap.size A' m) (hn : l.length ≤ maxLen) (hn' : m.length ≤ maxLen) :
    Calls Try.prog 54 #[.slice A l.length c, .slice A' m.length c', .func (.func 55) #[] #[]] w fun e w' => e = .returned (.int .i64 (cmpRows l m)) ∧ Gr w w' := by
  unfold maxLen at hn hn'
  have Hl := Lib.hid (And.intro hl hm)
  clear hl hm
  have hcmp := fun x y W => Lib.hid (vcompare_gr x y W)
  unfold Vl.val at hcmp
  go_enter Try.func54, Try.ntmps54
  go_wp2_with fail
  go_loopw [13] (fun i wr => ∃ k : Nat, i = .int .i64 (k : Int) ∧ k ≤ l.length ∧ k ≤ m.length ∧ Gr w wr ∧ ∀ (j : Nat) (x y : Vl), j < k → l[j]? = some x → m[j]? = some y → x.cmp y = 0)
    (fun i _ => l.length - (intOf i).toNat)
  case atStart => exact ⟨0, rfl, by omega, by omega, Gr.refl _, fun j x y hj => absurd hj (by omega)⟩
  case round =>
    obtain ⟨k, rfl, hk, hk', hg, hs⟩ := hrel
    have hb := hg.below
    by_cases hlt : k < l.length
    · have hx : l[k]? = some l[k] := List.getElem?_eq_getElem hlt
      obtain ⟨b, o, rfl, hB, hl⟩ := Hl.out.1 (by omega)
      obtain ⟨c0, c1, c2⟩ := (hl k _ hx).past hb hB
      have hB2 : b < wr.heap.size := by have := hb.size; omega
      by_cases hltm : k < m.length
      · have hy : m[k]? = some m[k] := List.getElem?_eq_getElem hltm
        obtain ⟨b', o', rfl, hB', hm⟩ := Hl.out.2 (by omega)
        obtain ⟨d0, d1, d2⟩ := (hm k _ hy).past hb hB'
        have hB3 : b' < wr.heap.size := by have := hb.size; omega
        have hB4 : b' < wr.heap.size + 1 := by omega
        have hat := fun h => cmpRows_at hs hx hy h
        generalize l[k] = x at *
        generalize m[k] = y at *
        have hcall := fun W => hcmp x y W
        have HH := Lib.hid (And.intro hg (And.intro hs (And.intro hx (And.intro hy hat))))
        clear hg hb hs hx hy hl hm hat hcmp
        have q0 : decide (m.length ≤ k) = false := by simp; omega
        by_cases hz : x.cmp y = 0
        · simp only [hz] at hcall
          have HZ := Lib.hid hz
          clear hz
          go_wp2_with fail
          refine (hcall _).out.mono ?_
          rintro e w1 ⟨rfl, h1⟩
          have H1 := Lib.hid ((Gr.two wr _ _).trans h1)
          clear h1
          go_wp2_with fail
          obtain ⟨hb, hs, hx, hy, hat⟩ := HH.out
          go_roundw
          case rel =>
            refine ⟨k + 1, by go_num, by omega, by omega, hb.trans H1.out, fun j u v hj hu hv => ?_⟩
            by_cases hjk : j = k
            · subst hjk
              rw [hx] at hu; rw [hy] at hv
              injection hu with hu; injection hv with hv
              subst hu hv
              exact HZ.out
            · exact hs j u v (by omega) hu hv
          case measure => simp [intOf]; omega
        · have hzb : (x.cmp y != 0) = true := by simpa using hz
          have hrr := HH.out.2.2.2.2 hz
          generalize x.cmp y = r at hcall hzb hrr
          have HZ := Lib.hid hrr
          clear hz hrr
          go_wp2_with fail
          refine (hcall _).out.mono ?_
          rintro e w1 ⟨rfl, h1⟩
          have H1 := Lib.hid ((Gr.two wr _ _).trans h1)
          clear h1
          go_wp2_with fail
          go_ret
          obtain ⟨hb, hs, hx, hy, hat⟩ := HH.out
          exact ⟨ret_i64 HZ.out.symm, hb.trans H1.out⟩
      · have hkm : k = m.length := by omega
        have hend := cmpRows_end hs (by omega) (by omega) (.inr hkm)
        rw [if_neg (by omega), if_pos (by omega)] at hend
        have HH := Lib.hid (And.intro hg hend)
        have q0 : decide (m.length ≤ k) = true := by simp; omega
        generalize l[k] = x at *
        clear hg hb hs hx hl hend hkm
        go_wp2_with fail
        go_ret
        exact ⟨ret_i64 HH.out.2.symm, HH.out.1.alloc _⟩
    · have hkl : k = l.length := by omega
      have hend := cmpRows_end hs (by omega) (by omega) (.inl hkl)
      rw [if_neg (show ¬ m.length < l.length by omega)] at hend
      have HH := Lib.hid (And.intro hg (And.intro hend hkl))
      clear hg hb hs hend
      by_cases hlm : l.length < m.length
      · have q1 : decide (l.length < m.length) = true := by simpa using hlm
        have HE := Lib.hid hlm
        clear hlm hkl
        go_wp2_with fail
        go_ret
        exact ⟨ret_i64 (by rw [HH.out.2.1, if_pos HE.out]), HH.out.1⟩
      · have q1 : decide (l.length < m.length) = false := by simpa using hlm
        have HE := Lib.hid hlm
        clear hlm hkl
        go_wp2_with fail
        go_ret
        exact ⟨ret_i64 (by rw [HH.out.2.1, if_neg HE.out]), HH.out.1⟩
set_option maxRecDepth 100000 in
set_option maxHeartbeats 400000 in
theorem rows_gr (A A' : Option Addr) (c c' : Nat) (l m : List Vl) (w : World) (hl : Vals w w.heap.size A l) (hm : Vals w w.heap.size A' m) (hn : l.length ≤ maxLen) (hn' : m.length ≤ maxLen) :
    Calls Try.prog 37 #[.slice A l.length c, .slice A' m.length c'] w fun e w' => e = .returned (.int .i64 (cmpRows l m)) ∧ Gr w w' := by
  have hcall := Lib.hid (cmpFunc_gr A A' c c' l m w hl hm hn hn')
  clear hl hm
  generalize cmpRows l m = r at *
  go_enter Try.func37, Try.ntmps37
  go_wp2_with fail
  refine hcall.out.mono ?_
  rintro e w1 ⟨rfl, h1⟩
  go_wp2_with fail
  go_ret
  exact ⟨rfl, h1⟩
end Go.Proofs.Ytpfjeibhklacbaa
