/- Part 2 of the texts on which SpineHolds rests: facts and contracts. -/
import Derived.Test.YtenjlhlighkenaaGreatSpineHoldsM1
import Derived.Handy
import Derived.Sort.Grow
import Derived.Deep.Cut
import Derived.Deep.RegionHeld3
import Derived.Deep.DeepCutAuto
import Derived.Deep.CutRange
import Derived.Lib.SlBuf
import Derived.Laws.CopyOwn
import Derived.OwnWalk
import Derived.Test.YtenjlhlighkenaaGreatProg
import Derived.Laws.Externs
import Derived.Deep.RegionWith
import Derived.Outline
import Derived.WalkSpells
import Derived.WalkLawsBesides
import Derived.BigQuiet
namespace Go.Proofs.YtenjlhlighkenaaGreat
open Go Go.RowKit

theorem cmpRows_same : ∀ (k : Nat) (a b : List Vl) , k ≤ a.length → k ≤ b.length → (∀ (j : Nat) (x y : Vl), j < k → a[j]? = some x → b[j]? = some y → x.cmp y = 0) → cmpRows a b = cmpRows (a.drop k) (b.drop k)
  | 0, a, b, _, _, _ => by simp
  | k + 1, [], b, h, _, _ => by simp at h
  | k + 1, x :: a, [], _, h, _ => by simp at h
  | k + 1, x :: a, y :: b, h, h', hs => by
    have h0 := hs 0 x y (by omega) rfl rfl
    rw [cmpRows, if_pos h0, List.drop_succ_cons, List.drop_succ_cons]
    exact cmpRows_same k a b (by simpa using h) (by simpa using h') fun j z u hj hz hu => hs (j + 1) z u (by omega) (by simpa using hz) (by simpa using hu)
theorem cmpRows_at {a b : List Vl} {k : Nat} {x y : Vl} (hs : ∀ (j : Nat) (x y : Vl), j < k → a[j]? = some x → b[j]? = some y → x.cmp y = 0) (hx : a[k]? = some x) (hy : b[k]? = some y) (h : x.cmp y ≠ 0) : cmpRows a b = x.cmp y := by
  obtain ⟨h1, e1⟩ := List.getElem?_eq_some_iff.1 hx
  obtain ⟨h2, e2⟩ := List.getElem?_eq_some_iff.1 hy
  rw [cmpRows_same k a b (by omega) (by omega) hs, List.drop_eq_getElem_cons h1, List.drop_eq_getElem_cons h2, cmpRows, e1, e2, if_neg h]
theorem cmpRows_end {a b : List Vl} {k : Nat} (hs : ∀ (j : Nat) (x y : Vl), j < k → a[j]? = some x → b[j]? = some y → x.cmp y = 0) (h1 : k ≤ a.length) (h2 : k ≤ b.length) (h : k = a.length ∨ k = b.length) :
    cmpRows a b = if a.length < b.length then -1 else if b.length < a.length then 1 else 0 := by
  rw [cmpRows_same k a b h1 h2 hs]
  rcases h with rfl | rfl
  · rw [List.drop_length]
    by_cases h3 : a.length < b.length
    · rw [if_pos h3, List.drop_eq_getElem_cons h3]; rfl
    · rw [if_neg h3, if_neg (by omega), List.drop_of_length_le (by omega)]; rfl
  · rw [List.drop_length]
    by_cases h3 : b.length < a.length
    · rw [if_neg (by omega), if_pos h3, List.drop_eq_getElem_cons h3]; rfl
    · rw [if_neg (by omega), if_neg h3, List.drop_of_length_le (by omega)]; rfl

end Go.Proofs.YtenjlhlighkenaaGreat
namespace Go.Proofs.YtenjlhlighkenaaGreat
open Go Go.RowKit Go.Sort Go.Lib
attribute [local go_sem ↓] Go.wp_at_zero Go.wp_at_succ

set_option maxRecDepth 100000 in
set_option maxHeartbeats 400000 in
theorem nan_any (x : Nat) (w : World) :
    Calls Tryz.prog 147 #[.int .u64 (x : Int)] w fun e w' => e = .returned (.bool false) ∧ w = w' := by
  go_enter Tryz.func147, Tryz.ntmps147
  go_wp2_with fail
  go_ret
  exact ⟨ret_bool (by simp), rfl⟩

set_option maxRecDepth 100000 in
set_option maxHeartbeats 800000 in
theorem cmpNat_any (x y : Nat) (w : World) :
    Calls Tryz.prog 123 #[.int .u64 (x : Int), .int .u64 (y : Int)] w fun e w' => e = .returned (.int .i64 (Tm.cmpN x y)) ∧ w = w' := by
  go_enter Tryz.func123, Tryz.ntmps123
  go_wp2_with (go_at_call 147; refine (nan_any _ _).mono ?_; rintro e w' ⟨rfl, rfl⟩)
  all_goals
    go_ret
    refine ⟨ret_i64 ?_, rfl⟩
    unfold Tm.cmpN
    repeat' split
    all_goals first | rfl | omega

def orI (x y : Int) : Int := if x = 0 then y else x

set_option maxRecDepth 100000 in
set_option maxHeartbeats 800000 in
theorem or_any (g : Nat) (x y : Int) (w : World) (h0 : w.cell? ⟨g, 0, none⟩ = some (.int .i64 x)) (h1 : w.cell? ⟨g, 1, none⟩ = some (.int .i64 y)) :
    Calls Tryz.prog 122 #[.slice (some ⟨g, 0, none⟩) 2 2] w fun e w' => e = .returned (.int .i64 (orI x y)) ∧ w = w' := by
  go_enter Tryz.func122, Tryz.ntmps122
  go_wp2_with fail
  go_rounds 3
  all_goals
    go_ret
    refine ⟨ret_i64 ?_, rfl⟩
    unfold orI
    simp_all

set_option maxRecDepth 100000 in
set_option maxHeartbeats 800000 in
theorem cmpRounds_any (g o h p : Nat) (a b x y : Nat) (w : World) (h0 : w.cell? ⟨g, o, none⟩ = some (.int .u64 (a : Int))) (h1 : w.cell? ⟨g, o + 1, none⟩ = some (.int .u64 (b : Int)))
    (k0 : w.cell? ⟨h, p, none⟩ = some (.int .u64 (x : Int))) (k1 : w.cell? ⟨h, p + 1, none⟩ = some (.int .u64 (y : Int))) :
    Calls Tryz.prog 124 #[.slice (some ⟨g, o, none⟩) 2 2, .slice (some ⟨h, p, none⟩) 2 2] w fun e w' => e = .returned (.int .i64 (orI (Tm.cmpN a x) (Tm.cmpN b y))) ∧ w = w' := by
  go_enter Tryz.func124, Tryz.ntmps124
  go_wp2_with fail
  refine wp_loop_rounds 3 ?_
  rw [rounds_succ]
  go_wp2_with (go_at_call 123; refine (cmpNat_any _ _ _).mono ?_; rintro e w' ⟨rfl, rfl⟩)
  · go_ret
    exact ⟨ret_i64 (by unfold orI; simp_all), rfl⟩
  · rw [rounds_succ]
    go_wp2_with (go_at_call 123; refine (cmpNat_any _ _ _).mono ?_; rintro e w' ⟨rfl, rfl⟩)
    · go_ret
      exact ⟨ret_i64 (by unfold orI; simp_all), rfl⟩
    · rw [rounds_succ]
      go_wp2_with fail
      go_ret
      exact ⟨ret_i64 (by unfold orI; simp_all), rfl⟩

theorem cmp_or (s t : Tm) : orI (Tm.cmpN s.e t.e) (orI (Tm.cmpN s.a t.a) (Tm.cmpN s.b t.b)) = s.cmp t := by
  have h : ∀ x y, Tm.cmpN x y = 0 ↔ x = y := fun x y => by unfold Tm.cmpN; repeat' split
                                                           all_goals omega
  unfold orI Tm.cmp
  simp only [h]
  repeat' split
  all_goals first | rfl | omega

set_option maxRecDepth 100000 in
set_option maxHeartbeats 1600000 in
theorem compare_grows (s t : Tm) (w : World) :
    Calls Tryz.prog 106 #[s.val, t.val] w fun e w' => e = .returned (.int .i64 (s.cmp t)) ∧ ∃ q os, w' = grow (w.drewN q) os := by
  have hor := Lib.hid (cmp_or s t)
  obtain ⟨a, b, c⟩ := s
  obtain ⟨x, y, z⟩ := t
  unfold Tm.val
  dsimp only at hor ⊢
  generalize Tm.cmp _ _ = r at hor ⊢
  go_enter Tryz.func106, Tryz.ntmps106
  go_wp2_with fail
  go_region_held3 (fun w' => w'.cell? ⟨w.heap.size, 0, none⟩ = some (.int .u64 (a : Int)) ∧ w'.cell? ⟨w.heap.size, 1, none⟩ = some (.int .u64 (b : Int)) ∧ w'.cell? ⟨w.heap.size, 2, none⟩ = some (.int .u64 (c : Int)) ∧
      w'.cell? ⟨w.heap.size + 1, 0, none⟩ = some (.int .u64 (x : Int)) ∧ w'.cell? ⟨w.heap.size + 1, 1, none⟩ = some (.int .u64 (y : Int)) ∧ w'.cell? ⟨w.heap.size + 1, 2, none⟩ = some (.int .u64 (z : Int)))
    (go_keep)
    (first | (go_at_call 123; refine (cmpNat_any _ _ _).mono ?_; rintro e w1 ⟨rfl, rfl⟩)
           | (go_at_call 124; refine (cmpRounds_any _ _ _ _ b c y z _ ?_ ?_ ?_ ?_).mono ?_; (simp [*]); (simp [*]); (simp [*]); (simp [*]); rintro e w1 ⟨rfl, rfl⟩)
           | (go_at_call 122; refine (or_any _ (Tm.cmpN a x) (orI (Tm.cmpN b y) (Tm.cmpN c z)) _ ?_ ?_).mono ?_; (simp [go_sem]); (simp [go_sem]); rintro e w1 ⟨rfl, rfl⟩))
  all_goals
    go_wp2_with fail
    go_ret
    exact ⟨ret_i64 hor.out, 1, _, by rw [alloc_eq_grow, alloc_eq_grow, alloc_eq_grow, grow_grow, grow_grow]; rfl⟩
theorem below_grow (w : World) (q : Nat) (os : Array Obj) : Below w.heap.size w (grow (w.drewN q) os) :=
  ⟨rfl, rfl, rfl, by simp, fun k hk => heap_grow_old (w.drewN q) os hk⟩
end Go.Proofs.YtenjlhlighkenaaGreat
namespace Go.Proofs.YtenjlhlighkenaaGreat
open Go Go.RowKit Go.Sort

def Gr (w w' : World) : Prop := ∃ q os, w' = grow (w.drewN q) os
theorem Gr.refl (w : World) : Gr w w := ⟨0, #[], by simp [grow, World.drewN]⟩
theorem Gr.trans {a b c : World} (h : Gr a b) (k : Gr b c) : Gr a c := by
  obtain ⟨q, os, rfl⟩ := h
  obtain ⟨q', os', rfl⟩ := k
  exact ⟨q + q', os ++ os', by simp [grow, World.drewN, Array.append_assoc, Nat.add_assoc]⟩
theorem Gr.alloc {a b : World} (h : Gr a b) (o : Obj) : Gr a (b.alloc o) := by
  obtain ⟨q, os, rfl⟩ := h
  exact ⟨q, os ++ #[o], by rw [alloc_eq_grow, grow_grow]⟩
theorem Gr.drew {a b : World} (h : Gr a b) : Gr a b.drew := h.trans ⟨1, #[], by rw [grow_empty]; rfl⟩
theorem Gr.below {a b : World} (h : Gr a b) : Below a.heap.size a b := by
  obtain ⟨q, os, rfl⟩ := h
  exact below_grow a q os
theorem Gr.two (w : World) (o1 o2 : Obj) : Gr w ((w.alloc o1).alloc o2) := ((Gr.refl w).alloc o1).alloc o2
set_option maxRecDepth 100000 in
set_option maxHeartbeats 1600000 in
theorem vcompare_gr (a b : Vl) (w : World) :
    Calls Tryz.prog 95 #[a.val, b.val] w fun e w' => e = .returned (.int .i64 (a.cmp b)) ∧ Gr w w' := by
  have HB := Lib.hid (Gr.two w)
  obtain ⟨p, n, s⟩ := a
  obtain ⟨q, m, t⟩ := b
  unfold Vl.val Vl.cmp
  dsimp only
  cases p <;> cases q
  all_goals
    simp only [Bool.false_eq_true, if_false, if_true]
    go_enter Tryz.func95, Tryz.ntmps95
    go_wp2_with (first | (go_at_call 118; refine (cmpInt_any _ _ _).mono ?_; rintro e w' ⟨rfl, rfl⟩) | (go_at_call 117; refine (cmpStr_any _ _ _).mono ?_; rintro e w' ⟨rfl, rfl⟩))
    go_ret
    exact ⟨rfl, HB.out _ _⟩
set_option maxRecDepth 100000 in
set_option maxHeartbeats 1600000 in
theorem cmpFunc_gr (A A' : Option Addr) (c c' : Nat) (l m : List Vl) (w : World) (hl : Vals w w.heap.size A l) (hm : Vals w w.heap.size A' m) (hn : l.length ≤ maxLen) (hn' : m.length ≤ maxLen) :
    Calls Tryz.prog 94 #[.slice A l.length c, .slice A' m.length c', .func (.func 95) #[] #[]] w fun e w' => e = .returned (.int .i64 (cmpRows l m)) ∧ Gr w w' := by
  unfold maxLen at hn hn'
  have Hl := Lib.hid (And.intro hl hm)
  clear hl hm
  have hcmp := fun x y W => Lib.hid (vcompare_gr x y W)
  unfold Vl.val at hcmp
  go_enter Tryz.func94, Tryz.ntmps94
  go_wp2_with fail
  go_loopw [13] (fun i wr => ∃ k : Nat, i = .int .i64 (k : Int) ∧ k ≤ l.length ∧ k ≤ m.length ∧ Gr w wr ∧ ∀ (j : Nat) (x y : Vl), j < k → l[j]? = some x → m[j]? = some y → x.cmp y = 0)
    (fun i _ => l.length - (intOf i).toNat)
  case atStart => exact ⟨0, rfl, by omega, by omega, Gr.refl _, fun j x y hj => absurd hj (by omega)⟩
  case round =>
    obtain ⟨k, rfl, hk, hk', hg, hs⟩ := hrel
    have hb := hg.below
    by_cases hlt : k < l.length
    · have hx : l[k]? = some l[k] := List.getElem?_eq_getElem hlt
      obtain ⟨b, o, rfl, hB, hl⟩ := Hl.out.1 (by omega)
      obtain ⟨c0, c1, c2⟩ := (hl k _ hx).past hb hB
      have hB2 : b < wr.heap.size := by have := hb.size; omega
      by_cases hltm : k < m.length
      · have hy : m[k]? = some m[k] := List.getElem?_eq_getElem hltm
        obtain ⟨b', o', rfl, hB', hm⟩ := Hl.out.2 (by omega)
        obtain ⟨d0, d1, d2⟩ := (hm k _ hy).past hb hB'
        have hB3 : b' < wr.heap.size := by have := hb.size; omega
        have hB4 : b' < wr.heap.size + 1 := by omega
        have hat := fun h => cmpRows_at hs hx hy h
        generalize l[k] = x at *
        generalize m[k] = y at *
        have hcall := fun W => hcmp x y W
        have HH := Lib.hid (And.intro hg (And.intro hs (And.intro hx (And.intro hy hat))))
        clear hg hb hs hx hy hl hm hat hcmp
        have q0 : decide (m.length ≤ k) = false := by simp; omega
        by_cases hz : x.cmp y = 0
        · simp only [hz] at hcall
          have HZ := Lib.hid hz
          clear hz
          go_wp2_with fail
          refine (hcall _).out.mono ?_
          rintro e w1 ⟨rfl, h1⟩
          have H1 := Lib.hid ((Gr.two wr _ _).trans h1)
          clear h1
          go_wp2_with fail
          obtain ⟨hb, hs, hx, hy, hat⟩ := HH.out
          go_roundw
          case rel =>
            refine ⟨k + 1, by go_num, by omega, by omega, hb.trans H1.out, fun j u v hj hu hv => ?_⟩
            by_cases hjk : j = k
            · subst hjk
              rw [hx] at hu; rw [hy] at hv
              injection hu with hu; injection hv with hv
              subst hu hv
              exact HZ.out
            · exact hs j u v (by omega) hu hv
          case measure => simp [intOf]; omega
        · have hzb : (x.cmp y != 0) = true := by simpa using hz
          have hrr := HH.out.2.2.2.2 hz
          generalize x.cmp y = r at hcall hzb hrr
          have HZ := Lib.hid hrr
          clear hz hrr
          go_wp2_with fail
          refine (hcall _).out.mono ?_
          rintro e w1 ⟨rfl, h1⟩
          have H1 := Lib.hid ((Gr.two wr _ _).trans h1)
          clear h1
          go_wp2_with fail
          go_ret
          obtain ⟨hb, hs, hx, hy, hat⟩ := HH.out
          exact ⟨ret_i64 HZ.out.symm, hb.trans H1.out⟩
      · have hkm : k = m.length := by omega
        have hend := cmpRows_end hs (by omega) (by omega) (.inr hkm)
        rw [if_neg (by omega), if_pos (by omega)] at hend
        have HH := Lib.hid (And.intro hg hend)
        have q0 : decide (m.length ≤ k) = true := by simp; omega
        generalize l[k] = x at *
        clear hg hb hs hx hl hend hkm
        go_wp2_with fail
        go_ret
        exact ⟨ret_i64 HH.out.2.symm, HH.out.1.alloc _⟩
    · have hkl : k = l.length := by omega
      have hend := cmpRows_end hs (by omega) (by omega) (.inl hkl)
      rw [if_neg (show ¬ m.length < l.length by omega)] at hend
      have HH := Lib.hid (And.intro hg (And.intro hend hkl))
      clear hg hb hs hend
      by_cases hlm : l.length < m.length
      · have q1 : decide (l.length < m.length) = true := by simpa using hlm
        have HE := Lib.hid hlm
        clear hlm hkl
        go_wp2_with fail
        go_ret
        exact ⟨ret_i64 (by rw [HH.out.2.1, if_pos HE.out]), HH.out.1⟩
      · have q1 : decide (l.length < m.length) = false := by simpa using hlm
        have HE := Lib.hid hlm
        clear hlm hkl
        go_wp2_with fail
        go_ret
        exact ⟨ret_i64 (by rw [HH.out.2.1, if_neg HE.out]), HH.out.1⟩
set_option maxRecDepth 100000 in
set_option maxHeartbeats 400000 in
theorem rows_gr (A A' : Option Addr) (c c' : Nat) (l m : List Vl) (w : World) (hl : Vals w w.heap.size A l) (hm : Vals w w.heap.size A' m) (hn : l.length ≤ maxLen) (hn' : m.length ≤ maxLen) :
    Calls Tryz.prog 66 #[.slice A l.length c, .slice A' m.length c'] w fun e w' => e = .returned (.int .i64 (cmpRows l m)) ∧ Gr w w' := by
  have hcall := Lib.hid (cmpFunc_gr A A' c c' l m w hl hm hn hn')
  clear hl hm
  generalize cmpRows l m = r at *
  go_enter Tryz.func66, Tryz.ntmps66
  go_wp2_with fail
  refine hcall.out.mono ?_
  rintro e w1 ⟨rfl, h1⟩
  go_wp2_with fail
  go_ret
  exact ⟨rfl, h1⟩
end Go.Proofs.YtenjlhlighkenaaGreat
namespace Go.Proofs.YtenjlhlighkenaaGreat
open Go Go.RowKit

theorem cmpB_swap : ∀ a b : List UInt8, Lib.compareBytes b a = - Lib.compareBytes a b
  | [], [] => rfl
  | [], _ :: _ => rfl
  | _ :: _, [] => rfl
  | x :: a, y :: b => by
    have ih := cmpB_swap a b
    unfold Lib.compareBytes
    by_cases h1 : x < y
    · have h2 : ¬ y < x := by rw [UInt8.lt_iff_toNat_lt] at *; omega
      simp [h1, h2]
    · by_cases h2 : y < x
      · simp [h1, h2]
      · simp [h1, h2, ih]
theorem cmpB_zero {a b : List UInt8} : Lib.compareBytes a b = 0 ↔ a = b := by
  rcases cmpB_cases a b with ⟨h, _⟩ | ⟨h, _, rfl⟩ | ⟨h, _, hn⟩
  · rw [h]; refine ⟨fun h => by omega, fun e => ?_⟩
    subst e
    have := cmpB_swap a a
    omega
  · simp [h]
  · rw [h]; exact ⟨fun h => by omega, fun e => absurd e hn⟩
theorem cmpB_le : ∀ a b c : List UInt8, Lib.compareBytes a b ≤ 0 → Lib.compareBytes b c ≤ 0 → Lib.compareBytes a c ≤ 0 ∧ (Lib.compareBytes a b < 0 ∨ Lib.compareBytes b c < 0 → Lib.compareBytes a c < 0)
  | [], _, [], _, h => by
    rename_i b _
    cases b with
    | nil => exact ⟨by decide, by decide⟩
    | cons x b => simp [Lib.compareBytes] at h
  | [], [], _ :: _, _, _ => ⟨by simp [Lib.compareBytes], fun _ => by simp [Lib.compareBytes]⟩
  | [], _ :: _, _ :: _, _, _ => ⟨by simp [Lib.compareBytes], fun _ => by simp [Lib.compareBytes]⟩
  | _ :: _, [], _, h, _ => by simp [Lib.compareBytes] at h
  | _ :: _, _ :: _, [], _, h => by simp [Lib.compareBytes] at h
  | x :: a, y :: b, z :: c, h, k => by
    have ih := cmpB_le a b c
    unfold Lib.compareBytes at h k ⊢
    simp only [UInt8.lt_iff_toNat_lt] at *
    by_cases h1 : x.toNat < y.toNat
    · by_cases h2 : y.toNat < z.toNat
      · have h3 : x.toNat < z.toNat := by omega
        simp [h1, h2, h3]
      · by_cases h4 : z.toNat < y.toNat
        · simp [h2, h4] at k
        · have h3 : x.toNat < z.toNat := by omega
          simp [h1, h2, h4, h3]
    · by_cases h5 : y.toNat < x.toNat
      · simp [h1, h5] at h
      · by_cases h2 : y.toNat < z.toNat
        · have h3 : x.toNat < z.toNat := by omega
          simp [h1, h5, h2, h3]
        · by_cases h4 : z.toNat < y.toNat
          · simp [h2, h4] at k
          · have h3 : ¬ x.toNat < z.toNat := by omega
            have h6 : ¬ z.toNat < x.toNat := by omega
            simp only [h1, h5, h2, h4, h3, h6, if_false] at h k ⊢
            exact ih h k
namespace Vl
theorem cmp_swap (a b : Vl) : b.cmp a = - a.cmp b := by
  unfold cmp cmpI
  cases a.t <;> cases b.t
  · simp only [Bool.false_eq_true, if_false]; repeat' split
    all_goals omega
  · simp
  · simp
  · simp only [if_true]; exact cmpB_swap _ _
theorem cmp_self (a : Vl) : a.cmp a = 0 := by have := cmp_swap a a; omega
theorem cmp_le (a b c : Vl) (h : a.cmp b ≤ 0) (k : b.cmp c ≤ 0) : a.cmp c ≤ 0 ∧ (a.cmp b < 0 ∨ b.cmp c < 0 → a.cmp c < 0) := by
  obtain ⟨p, n, s⟩ := a
  obtain ⟨q, m, t⟩ := b
  obtain ⟨r, o, u⟩ := c
  unfold cmp cmpI at *
  cases p <;> cases q <;> cases r
  case true.true.true => simp only [if_true] at *; exact cmpB_le _ _ _ h k
  case false.false.false =>
    simp only [Bool.false_eq_true, if_false] at *
    by_cases h1 : n < m <;> by_cases h2 : m < n <;> by_cases h3 : m < o <;> by_cases h4 : o < m <;> by_cases h5 : n < o <;> by_cases h6 : o < n <;> simp only [h1, h2, h3, h4, h5, h6, if_true, if_false] at h k ⊢ <;> omega
  all_goals simp at h k ⊢
theorem cmp_right {a b : Vl} (ha : a.right = true) (hb : b.right = true) : a.cmp b = 0 ↔ a = b := by
  refine ⟨fun h => ?_, fun e => by subst e; exact cmp_self a⟩
  obtain ⟨p, n, s⟩ := a
  obtain ⟨q, m, t⟩ := b
  have se : ∀ s t : ByteArray, s.data.toList = t.data.toList → s = t := fun s t h => by cases s; cases t; simp only at h; congr 1; exact Array.toList_inj.1 h
  cases p <;> cases q
  · simp only [cmp, cmpI, right, Bool.false_eq_true, if_false, List.isEmpty_iff] at *
    rw [se s t (by rw [ha, hb])]
    have : n = m := by
      by_cases h1 : n < m
      · simp [h1] at h
      · by_cases h2 : m < n
        · simp [h1, h2] at h
        · omega
    rw [this]
  · simp [cmp] at h
  · simp [cmp] at h
  · simp only [cmp, right, if_true, Bool.and_eq_true, beq_iff_eq] at *
    rw [se s t (cmpB_zero.1 h), ha.1, hb.1]
end Vl
theorem cmpRows_swap : ∀ a b : List Vl, cmpRows b a = - cmpRows a b
  | [], [] => rfl
  | [], _ :: _ => rfl
  | _ :: _, [] => rfl
  | x :: a, y :: b => by
    have h := Vl.cmp_swap x y
    unfold cmpRows
    by_cases h0 : x.cmp y = 0
    · rw [if_pos h0, if_pos (by omega)]; exact cmpRows_swap a b
    · rw [if_neg h0, if_neg (by omega)]; exact h
theorem cmpRows_le : ∀ a b c : List Vl, cmpRows a b ≤ 0 → cmpRows b c ≤ 0 → cmpRows a c ≤ 0 ∧ (cmpRows a b < 0 ∨ cmpRows b c < 0 → cmpRows a c < 0)
  | [], [], [], _, _ => ⟨by decide, by decide⟩
  | [], _ :: _, [], _, h => by simp [cmpRows] at h
  | [], [], _ :: _, _, _ => ⟨by simp [cmpRows], fun _ => by simp [cmpRows]⟩
  | [], _ :: _, _ :: _, _, _ => ⟨by simp [cmpRows], fun _ => by simp [cmpRows]⟩
  | _ :: _, [], _, h, _ => by simp [cmpRows] at h
  | _ :: _, _ :: _, [], _, h => by simp [cmpRows] at h
  | x :: a, y :: b, z :: c, h, k => by
    have ih := cmpRows_le a b c
    have hv := Vl.cmp_le x y z
    have s1 := Vl.cmp_swap x y
    have s2 := Vl.cmp_swap y z
    have s3 := Vl.cmp_swap x z
    have w1 := Vl.cmp_le y x z
    have w2 := Vl.cmp_le z y x
    unfold cmpRows at h k ⊢
    by_cases h1 : x.cmp y = 0
    · rw [if_pos h1] at h ⊢
      by_cases h2 : y.cmp z = 0
      · rw [if_pos h2] at k ⊢
        have h3 : x.cmp z = 0 := by
          have e1 := (hv (by omega) (by omega)).1
          have e2 := (w2 (by omega) (by omega)).1
          omega
        rw [if_pos h3]
        exact ih h k
      · rw [if_neg h2] at k ⊢
        have h3 : x.cmp z < 0 := (hv (by omega) (by omega)).2 (by omega)
        rw [if_neg (by omega)]
        exact ⟨by omega, fun _ => h3⟩
    · rw [if_neg h1] at h ⊢
      have h3 : x.cmp z < 0 := by
        by_cases h2 : y.cmp z = 0
        · exact (hv (by omega) (by omega)).2 (by omega)
        · rw [if_neg h2] at k
          exact (hv (by omega) (by omega)).2 (by omega)
      rw [if_neg (show ¬ x.cmp z = 0 by omega)]
      exact ⟨by omega, fun _ => h3⟩
theorem cmpRows_right : ∀ {a b : List Vl}, a.all Vl.right = true → b.all Vl.right = true → (cmpRows a b = 0 ↔ a = b)
  | [], [], _, _ => by simp [cmpRows]
  | [], _ :: _, _, _ => by simp [cmpRows]
  | _ :: _, [], _, _ => by simp [cmpRows]
  | x :: a, y :: b, ha, hb => by
    rw [List.all_cons, Bool.and_eq_true] at ha hb
    have ih := cmpRows_right ha.2 hb.2
    have hv := Vl.cmp_right ha.1 hb.1
    unfold cmpRows
    by_cases h : x.cmp y = 0
    · rw [if_pos h, ih, hv.1 h]; simp
    · rw [if_neg h]
      refine ⟨fun e => absurd e h, fun e => ?_⟩
      exact absurd (hv.2 (List.cons.inj e).1) h
end Go.Proofs.YtenjlhlighkenaaGreat
namespace Go.Proofs.YtenjlhlighkenaaGreat
open Go Go.RowKit

def hiW (S : Int) : Int := (S / 18446744073709551616) % 18446744073709551616
def loW (S : Int) : Int := S % 18446744073709551616
def fits (S : Int) : Bool := decide (-9223372036854775808 ≤ S) && decide (S ≤ 9223372036854775807)
def fitN (S : Int) : Int := if fits S then S else 0
def fitE (S : Int) : Int := if fits S then 0 else 10
theorem hiW_bound (S : Int) : 0 ≤ hiW S ∧ hiW S < 18446744073709551616 := by unfold hiW; omega
theorem loW_bound (S : Int) : 0 ≤ loW S ∧ loW S < 18446744073709551616 := by unfold loW; omega
theorem fits_iff (S : Int) : fits S = true ↔ -9223372036854775808 ≤ S ∧ S ≤ 9223372036854775807 := by unfold fits; simp
theorem lo_add (S T : Int) : (loW S + loW T) % 18446744073709551616 = loW (S + T) := by unfold loW; omega
theorem hi_add (S T : Int) : (hiW S + hiW T + (loW S + loW T) / 18446744073709551616) % 18446744073709551616 = hiW (S + T) := by unfold hiW loW; omega
def sg (x : Int) : Int := if x < 9223372036854775808 then x else x - 18446744073709551616
theorem sg_lo (S : Int) (h : fits S = true) : sg (loW S) = S := by
  rw [fits_iff] at h; unfold sg loW; split <;> omega
theorem hi_fits (S : Int) (h1 : -170141183460469231731687303715884105728 ≤ S) (h2 : S < 170141183460469231731687303715884105728) :
    (hiW S == hiW (sg (loW S))) = fits S := by
  rw [Bool.eq_iff_iff, fits_iff, beq_iff_eq]
  unfold hiW sg loW
  split <;> omega
theorem sum_bound : ∀ (l : List Int), (∀ n ∈ l, -9223372036854775808 ≤ n ∧ n ≤ 9223372036854775807) → -9223372036854775808 * (l.length : Int) ≤ l.sum ∧ l.sum ≤ 9223372036854775808 * (l.length : Int)
  | [], _ => by simp
  | x :: l, h => by
    have h1 := h x (by simp)
    have h2 := sum_bound l fun n hn => h n (by simp [hn])
    simp only [List.sum_cons, List.length_cons]
    omega
end Go.Proofs.YtenjlhlighkenaaGreat
namespace Go.Proofs.YtenjlhlighkenaaGreat
open Go Go.RowKit

structure Lin {K : Type} (cmp : K → K → Int) (R : K → Prop) : Prop where
  swap : ∀ a b, cmp b a = - cmp a b
  le : ∀ a b c, cmp a b ≤ 0 → cmp b c ≤ 0 → cmp a c ≤ 0 ∧ (cmp a b < 0 ∨ cmp b c < 0 → cmp a c < 0)
  eq : ∀ a b, R a → R b → (cmp a b = 0 ↔ a = b)
section
variable {K : Type} {cmp : K → K → Int} {R : K → Prop}
theorem Lin.self (L : Lin cmp R) (a : K) : cmp a a = 0 := by have := L.swap a a; omega
theorem Lin.lt_trans (L : Lin cmp R) {a b c : K} (h : cmp a b < 0) (k : cmp b c < 0) : cmp a c < 0 := (L.le a b c (by omega) (by omega)).2 (.inl h)
theorem Lin.le_lt (L : Lin cmp R) {a b c : K} (h : cmp a b ≤ 0) (k : cmp b c < 0) : cmp a c < 0 := (L.le a b c h (by omega)).2 (.inr k)
theorem Lin.lt_le (L : Lin cmp R) {a b c : K} (h : cmp a b < 0) (k : cmp b c ≤ 0) : cmp a c < 0 := (L.le a b c (by omega) k).2 (.inl h)
theorem Lin.zero (L : Lin cmp R) {a b c : K} (h : cmp a b = 0) : cmp a c = 0 ↔ cmp b c = 0 := by
  have h' := L.swap a b
  have h1 := L.le a b c (by omega)
  have h2 := L.le b a c (by omega)
  have h3 := L.le c a b
  have h4 := L.le c b a
  have s1 := L.swap a c
  have s2 := L.swap b c
  constructor
  · intro h0
    have a1 := (h2 (by omega)).1
    have a2 := (h3 (by omega) (by omega)).1
    omega
  · intro h0
    have a1 := (h1 (by omega)).1
    have a2 := (h4 (by omega) (by omega)).1
    omega
def sumOf (cmp : K → K → Int) : List (K × Int) → K → Int
  | [], _ => 0
  | x :: l, k => (if cmp x.1 k = 0 then x.2 else 0) + sumOf cmp l k
theorem sumOf_append (l m : List (K × Int)) (k : K) : sumOf cmp (l ++ m) k = sumOf cmp l k + sumOf cmp m k := by
  induction l with
  | nil => simp [sumOf]
  | cons x l ih => simp only [List.cons_append, sumOf, ih]; omega
theorem sumOf_perm {l m : List (K × Int)} (h : l.Perm m) (k : K) : sumOf cmp l k = sumOf cmp m k := by
  induction h with
  | nil => rfl
  | cons x _ ih => simp only [sumOf, ih]
  | swap x y l => simp only [sumOf]; omega
  | trans _ _ ih1 ih2 => rw [ih1, ih2]
theorem sumOf_none {l : List (K × Int)} {k : K} (h : ∀ x ∈ l, cmp x.1 k ≠ 0) : sumOf cmp l k = 0 := by
  induction l with
  | nil => rfl
  | cons x l ih =>
    simp only [sumOf]
    rw [if_neg (h x (by simp)), ih fun y hy => h y (by simp [hy])]
    rfl
theorem sumOf_some {l : List (K × Int)} {k : K} (h : sumOf cmp l k ≠ 0) : ∃ x ∈ l, cmp x.1 k = 0 := by
  by_cases hx : ∃ x ∈ l, cmp x.1 k = 0
  · exact hx
  · exact absurd (sumOf_none fun x hm h0 => hx ⟨x, hm, h0⟩) h
def ins (cmp : K → K → Int) (x : K × Int) : List (K × Int) → List (K × Int)
  | [] => [x]
  | y :: t => if cmp y.1 x.1 = 0 then (y.1, y.2 + x.2) :: t else if cmp y.1 x.1 < 0 then y :: ins cmp x t else x :: y :: t
def asmF (cmp : K → K → Int) (a l : List (K × Int)) : List (K × Int) := l.foldl (fun a x => ins cmp x a) a
def asm (cmp : K → K → Int) (l : List (K × Int)) : List (K × Int) := asmF cmp [] l
def Srt (cmp : K → K → Int) (l : List (K × Int)) : Prop := l.Pairwise fun x y => cmp x.1 y.1 < 0
theorem ins_keys (x : K × Int) : ∀ (l : List (K × Int)) (y : K × Int), y ∈ ins cmp x l → y.1 = x.1 ∨ ∃ z ∈ l, z.1 = y.1
  | [], y, h => by
    obtain rfl : y = x := by simpa [ins] using h
    exact .inl rfl
  | z :: t, y, h => by
    unfold ins at h
    split at h
    · rcases List.mem_cons.1 h with rfl | h
      · exact .inr ⟨z, by simp, rfl⟩
      · exact .inr ⟨y, by simp [h], rfl⟩
    · split at h
      · rcases List.mem_cons.1 h with rfl | h
        · exact .inr ⟨y, by simp, rfl⟩
        · rcases ins_keys x t y h with h | ⟨u, hu, e⟩
          · exact .inl h
          · exact .inr ⟨u, by simp [hu], e⟩
      · rcases List.mem_cons.1 h with rfl | h
        · exact .inl rfl
        · exact .inr ⟨y, h, rfl⟩
theorem ins_srt (L : Lin cmp R) (x : K × Int) : ∀ (l : List (K × Int)), Srt cmp l → Srt cmp (ins cmp x l)
  | [], _ => by unfold ins Srt; simp
  | y :: t, h => by
    unfold Srt at h
    rw [List.pairwise_cons] at h
    have ih := ins_srt L x t h.2
    unfold ins
    split
    · unfold Srt
      rw [List.pairwise_cons]
      exact ⟨fun z hz => h.1 z hz, h.2⟩
    · rename_i h0
      split
      · rename_i h1
        unfold Srt
        rw [List.pairwise_cons]
        refine ⟨fun z hz => ?_, ih⟩
        rcases ins_keys x t z hz with e | ⟨u, hu, e⟩
        · rw [e]; exact h1
        · rw [← e]; exact h.1 u hu
      · rename_i h1
        have hxy : cmp x.1 y.1 < 0 := by have := L.swap x.1 y.1; omega
        unfold Srt
        rw [List.pairwise_cons, List.pairwise_cons]
        refine ⟨fun z hz => ?_, h.1, h.2⟩
        rcases List.mem_cons.1 hz with rfl | hz
        · exact hxy
        · exact L.lt_trans hxy (h.1 z hz)
theorem ins_sum (L : Lin cmp R) (x : K × Int) (k : K) : ∀ (l : List (K × Int)), sumOf cmp (ins cmp x l) k = sumOf cmp l k + (if cmp x.1 k = 0 then x.2 else 0)
  | [] => by simp only [ins, sumOf]; omega
  | y :: t => by
    unfold ins
    split
    · rename_i h0
      have hz := L.zero (c := k) h0
      simp only [sumOf]
      by_cases h1 : cmp y.1 k = 0
      · rw [if_pos h1, if_pos (hz.1 h1), if_pos h1]; omega
      · rw [if_neg h1, if_neg (fun h => h1 (hz.2 h)), if_neg h1]; omega
    · split
      · simp only [sumOf]
        rw [ins_sum L x k t]
        omega
      · simp only [sumOf]; omega
theorem asmF_srt (L : Lin cmp R) : ∀ (l a : List (K × Int)), Srt cmp a → Srt cmp (asmF cmp a l)
  | [], _, h => h
  | x :: l, a, h => asmF_srt L l (ins cmp x a) (ins_srt L x a h)
theorem asm_srt (L : Lin cmp R) (l : List (K × Int)) : Srt cmp (asm cmp l) := asmF_srt L l [] List.Pairwise.nil
theorem asmF_sum (L : Lin cmp R) (k : K) : ∀ (l a : List (K × Int)), sumOf cmp (asmF cmp a l) k = sumOf cmp a k + sumOf cmp l k
  | [], _ => by simp [asmF, sumOf]
  | x :: l, a => by
    show sumOf cmp (asmF cmp (ins cmp x a) l) k = _
    rw [asmF_sum L k l, ins_sum L x k a]
    simp only [sumOf]
    omega
theorem asm_sum (L : Lin cmp R) (l : List (K × Int)) (k : K) : sumOf cmp (asm cmp l) k = sumOf cmp l k := by
  unfold asm
  rw [asmF_sum L]
  simp [sumOf]
theorem asmF_keys : ∀ (l a : List (K × Int)) (y : K × Int), y ∈ asmF cmp a l → (∃ z ∈ l, z.1 = y.1) ∨ ∃ z ∈ a, z.1 = y.1
  | [], a, y, h => .inr ⟨y, h, rfl⟩
  | x :: l, a, y, h => by
    rcases asmF_keys l (ins cmp x a) y h with ⟨z, hz, e⟩ | ⟨z, hz, e⟩
    · exact .inl ⟨z, by simp [hz], e⟩
    · rcases ins_keys x a z hz with e' | ⟨u, hu, e'⟩
      · exact .inl ⟨x, by simp, by rw [← e', e]⟩
      · exact .inr ⟨u, hu, by rw [e', e]⟩
theorem asm_keys {l : List (K × Int)} {y : K × Int} (h : y ∈ asm cmp l) : ∃ z ∈ l, z.1 = y.1 := by
  rcases asmF_keys l [] y h with h | ⟨z, hz, _⟩
  · exact h
  · cases hz
theorem ins_skip (x : K × Int) : ∀ (a b : List (K × Int)), (∀ y ∈ a, cmp y.1 x.1 < 0) → ins cmp x (a ++ b) = a ++ ins cmp x b
  | [], _, _ => rfl
  | y :: a, b, h => by
    have h1 := h y (by simp)
    show ins cmp x (y :: (a ++ b)) = y :: (a ++ ins cmp x b)
    rw [show ins cmp x (y :: (a ++ b)) = if cmp y.1 x.1 = 0 then (y.1, y.2 + x.2) :: (a ++ b) else if cmp y.1 x.1 < 0 then y :: ins cmp x (a ++ b) else x :: y :: (a ++ b) from rfl, if_neg (by omega), if_pos h1, ins_skip x a b fun z hz => h z (by simp [hz])]
theorem asmF_skip : ∀ (l a b : List (K × Int)), (∀ y ∈ a, ∀ x ∈ l, cmp y.1 x.1 < 0) → asmF cmp (a ++ b) l = a ++ asmF cmp b l
  | [], _, _, _ => rfl
  | x :: l, a, b, h => by
    show asmF cmp (ins cmp x (a ++ b)) l = a ++ asmF cmp (ins cmp x b) l
    rw [ins_skip x a b fun y hy => h y hy x (by simp), asmF_skip l a _ fun y hy z hz => h y hy z (by simp [hz])]
theorem asm_append {t u : List (K × Int)} (h : ∀ x ∈ t, ∀ y ∈ u, cmp x.1 y.1 < 0) : asm cmp (t ++ u) = asm cmp t ++ asm cmp u := by
  unfold asm
  rw [show asmF cmp [] (t ++ u) = asmF cmp (asmF cmp [] t) u by unfold asmF; rw [List.foldl_append]]
  have := asmF_skip u (asmF cmp [] t) [] fun y hy x hx => by
    obtain ⟨z, hz, e⟩ := asm_keys (cmp := cmp) hy
    rw [← e]
    exact h z hz x hx
  rwa [List.append_nil] at this
theorem asm_one (L : Lin cmp R) (x : K × Int) : ∀ (l : List (K × Int)) (n : Int), (∀ y ∈ l, cmp x.1 y.1 = 0) → asmF cmp [(x.1, n)] l = [(x.1, n + (l.map (·.2)).sum)]
  | [], n, _ => by simp [asmF]
  | y :: l, n, h => by
    show asmF cmp (ins cmp y [(x.1, n)]) l = _
    have : ins cmp y [(x.1, n)] = [(x.1, n + y.2)] := by
      unfold ins
      rw [if_pos (h y (by simp))]
    rw [this, asm_one L x l _ fun z hz => h z (by simp [hz]), List.map_cons, List.sum_cons, Int.add_assoc]
theorem asm_group (L : Lin cmp R) (x : K × Int) (l : List (K × Int)) (h : ∀ y ∈ l, cmp x.1 y.1 = 0) : asm cmp (x :: l) = [(x.1, x.2 + (l.map (·.2)).sum)] := asm_one L x l x.2 h
theorem srt_ext (L : Lin cmp R) : ∀ (a b : List (K × Int)), Srt cmp a → Srt cmp b → (∀ x, x ∈ a ↔ x ∈ b) → a = b
  | [], [], _, _, _ => rfl
  | [], y :: b, _, _, h => absurd ((h y).2 (by simp)) (by simp)
  | x :: a, [], _, _, h => absurd ((h x).1 (by simp)) (by simp)
  | x :: a, y :: b, ha, hb, h => by
    unfold Srt at ha hb
    rw [List.pairwise_cons] at ha hb
    have hxy : x = y := by
      rcases List.mem_cons.1 ((h x).1 (by simp)) with e | h1
      · exact e
      · rcases List.mem_cons.1 ((h y).2 (by simp)) with e | h2
        · exact e.symm
        · have s1 := hb.1 x h1
          have s2 := ha.1 y h2
          have := L.swap x.1 y.1
          omega
    subst hxy
    have h0 : ∀ z : K × Int, z ∈ a → z ≠ x := fun z hz e => by subst e; have := ha.1 z hz; have := L.self z.1; omega
    have h1 : ∀ z : K × Int, z ∈ b → z ≠ x := fun z hz e => by subst e; have := hb.1 z hz; have := L.self z.1; omega
    rw [srt_ext L a b ha.2 hb.2 fun z => ⟨fun hz => by
      rcases List.mem_cons.1 ((h z).1 (by simp [hz])) with e | h2
      · exact absurd e (h0 z hz)
      · exact h2, fun hz => by
      rcases List.mem_cons.1 ((h z).2 (by simp [hz])) with e | h2
      · exact absurd e (h1 z hz)
      · exact h2⟩]
theorem srt_sum (L : Lin cmp R) : ∀ {l : List (K × Int)}, Srt cmp l → ∀ {x : K × Int}, x ∈ l → sumOf cmp l x.1 = x.2
  | [], _, _, h => by cases h
  | y :: l, hs, x, h => by
    unfold Srt at hs
    rw [List.pairwise_cons] at hs
    simp only [sumOf]
    rcases List.mem_cons.1 h with rfl | h
    · rw [if_pos (L.self _), sumOf_none fun z hz h0 => ?_]
      · omega
      · have := hs.1 z hz
        have := L.swap x.1 z.1
        omega
    · have h1 := hs.1 x h
      rw [if_neg (by omega), srt_sum L hs.2 h]
      omega
def nz (cmp : K → K → Int) (l : List (K × Int)) : List (K × Int) := (asm cmp l).filter fun x => x.2 != 0
def resE (cmp : K → K → Int) (l : List (K × Int)) : Int := if (asm cmp l).all (fun x => fits x.2) = true then 0 else 10
def resL (cmp : K → K → Int) (l : List (K × Int)) : List (K × Int) := if (asm cmp l).all (fun x => fits x.2) = true then nz cmp l else []
theorem nz_srt (L : Lin cmp R) (l : List (K × Int)) : Srt cmp (nz cmp l) := (asm_srt L l).filter _
theorem nz_mem (L : Lin cmp R) {l : List (K × Int)} (hR : ∀ x ∈ l, R x.1) (y : K × Int) : y ∈ nz cmp l ↔ R y.1 ∧ y.2 = sumOf cmp l y.1 ∧ y.2 ≠ 0 := by
  unfold nz
  rw [List.mem_filter]
  constructor
  · rintro ⟨h1, h2⟩
    obtain ⟨z, hz, e⟩ := asm_keys h1
    refine ⟨e ▸ hR z hz, ?_, by simpa using h2⟩
    rw [← asm_sum L, srt_sum L (asm_srt L l) h1]
  · rintro ⟨h1, h2, h3⟩
    obtain ⟨z, hz, h0⟩ := sumOf_some (cmp := cmp) (l := asm cmp l) (k := y.1) (by rw [asm_sum L, ← h2]; exact h3)
    obtain ⟨u, hu, e⟩ := asm_keys hz
    have hzk : z.1 = y.1 := (L.eq z.1 y.1 (e ▸ hR u hu) h1).1 h0
    have hzs := srt_sum L (asm_srt L l) hz
    rw [asm_sum L, hzk, ← h2] at hzs
    have : z = y := Prod.ext hzk hzs.symm
    exact ⟨this ▸ hz, by simpa using h3⟩
theorem fits0 : fits 0 = true := by decide
theorem fit_all (l : List (K × Int)) : (asm cmp l).all (fun x => fits x.2) = (nz cmp l).all (fun x => fits x.2) := by
  unfold nz
  rw [Bool.eq_iff_iff, List.all_eq_true, List.all_eq_true]
  constructor
  · intro h x hx
    exact h x (List.mem_filter.1 hx).1
  · intro h x hx
    by_cases h0 : x.2 = 0
    · rw [h0]; exact fits0
    · exact h x (List.mem_filter.2 ⟨hx, by simpa using h0⟩)
theorem nz_ext (L : Lin cmp R) {l m : List (K × Int)} (hl : ∀ x ∈ l, R x.1) (hm : ∀ x ∈ m, R x.1) (h : ∀ k, sumOf cmp l k = sumOf cmp m k) : nz cmp l = nz cmp m :=
  srt_ext L _ _ (nz_srt L l) (nz_srt L m) fun x => by rw [nz_mem L hl, nz_mem L hm, h]
theorem resL_ext (L : Lin cmp R) {l m : List (K × Int)} (hl : ∀ x ∈ l, R x.1) (hm : ∀ x ∈ m, R x.1) (h : ∀ k, sumOf cmp l k = sumOf cmp m k) : resL cmp l = resL cmp m ∧ resE cmp l = resE cmp m := by
  unfold resL resE
  rw [fit_all, fit_all, nz_ext L hl hm h]
  exact ⟨rfl, rfl⟩
theorem nz_keys {l : List (K × Int)} {y : K × Int} (h : y ∈ nz cmp l) : ∃ z ∈ l, z.1 = y.1 := asm_keys (List.mem_filter.1 h).1
theorem nz_right {l : List (K × Int)} (hl : ∀ x ∈ l, R x.1) : ∀ x ∈ nz cmp l, R x.1 := fun x hx => by
  obtain ⟨z, hz, e⟩ := nz_keys hx
  exact e ▸ hl z hz
theorem sumOf_filter (L : Lin cmp R) {l : List (K × Int)} (hs : Srt cmp l) (k : K) : sumOf cmp (l.filter fun x => x.2 != 0) k = sumOf cmp l k := by
  induction l with
  | nil => rfl
  | cons x l ih =>
    unfold Srt at hs
    rw [List.pairwise_cons] at hs
    have ih := ih hs.2
    rw [List.filter_cons]
    split
    · simp only [sumOf, ih]
    · rename_i h0
      have h0 : x.2 = 0 := by simpa using h0
      simp only [sumOf]
      rw [ih, h0]
      split <;> omega
theorem nz_sum (L : Lin cmp R) (l : List (K × Int)) (k : K) : sumOf cmp (nz cmp l) k = sumOf cmp l k := by
  unfold nz
  rw [sumOf_filter L (asm_srt L l), asm_sum L]
end
end Go.Proofs.YtenjlhlighkenaaGreat
namespace Go.Proofs.YtenjlhlighkenaaGreat
open Go Go.RowKit

structure Up where
  kA : Option Addr
  kc : Nat
  key : List Vl
  rA : Option Addr
  rc : Nat
  row : List Vl
  t : Tm
  d : Int
instance : Inhabited Up := ⟨⟨none, 0, [], none, 0, [], ⟨0, 0, 0⟩, 0⟩⟩
structure Uk where
  key : List Vl
  row : List Vl
  t : Tm
namespace Up
def cells (u : Up) : List Value := [.slice u.kA u.key.length u.kc, .slice u.rA u.row.length u.rc, .int .u64 (u.t.e : Int), .int .u64 (u.t.a : Int), .int .u64 (u.t.b : Int), .int .i64 u.d]
def val (u : Up) : Value := .agg #[.slice u.kA u.key.length u.kc, .slice u.rA u.row.length u.rc, .int .u64 (u.t.e : Int), .int .u64 (u.t.a : Int), .int .u64 (u.t.b : Int), .int .i64 u.d]
def k (u : Up) : Uk := ⟨u.key, u.row, u.t⟩
def p (u : Up) : Uk × Int := (u.k, u.d)
end Up
theorem ucells_len (u : Up) : u.cells.length = 6 := rfl
theorem ucells_one (u : Up) : ∀ v ∈ u.cells, v.oneCell' = true := by
  intro v hv
  simp only [Up.cells, List.mem_cons, List.not_mem_nil, or_false] at hv
  rcases hv with rfl | rfl | rfl | rfl | rfl | rfl <;> rfl
def Uk.cmp (a b : Uk) : Int := if cmpRows a.key b.key = 0 then (if cmpRows a.row b.row = 0 then a.t.cmp b.t else cmpRows a.row b.row) else cmpRows a.key b.key
def chkK (u : Uk) : Int := orI (chkRow u.key) (orI (chkRow u.row) (chk [u.t]))
def chkU (u : Up) : Int := chkK u.k
def chkUs : List Up → Int
  | [] => 0
  | u :: l => if chkU u = 0 then chkUs l else chkU u
theorem chkUs_take {l : List Up} {k : Nat} {u : Up} (h : l[k]? = some u) (h0 : chkUs (l.take k) = 0) : chkUs (l.take (k + 1)) = chkU u := by
  induction l generalizing k with
  | nil => simp at h
  | cons x l ih =>
    cases k with
    | zero =>
      obtain rfl : x = u := by simpa using h
      simp only [List.take_succ_cons, List.take_zero, chkUs]
      split <;> simp [*]
    | succ k =>
      simp only [List.take_succ_cons, chkUs] at h0 ⊢
      split at h0
      · rename_i hx
        rw [if_pos hx]
        exact ih (by simpa using h) h0
      · rename_i hx; exact absurd h0 hx
theorem chkUs_bad {l : List Up} {k : Nat} {u : Up} (h : l[k]? = some u) (h0 : chkUs (l.take k) = 0) (hu : chkU u ≠ 0) : chkUs l = chkU u := by
  induction l generalizing k with
  | nil => simp at h
  | cons x l ih =>
    cases k with
    | zero =>
      obtain rfl : x = u := by simpa using h
      simp only [chkUs]
      rw [if_neg hu]
    | succ k =>
      simp only [List.take_succ_cons, chkUs] at h0 ⊢
      split at h0
      · rename_i hx
        rw [if_pos hx]
        exact ih (by simpa using h) h0
      · rename_i hx; exact absurd h0 hx
theorem chkUs_all {l : List Up} : chkUs l = 0 ↔ ∀ u ∈ l, chkU u = 0 := by
  induction l with
  | nil => simp [chkUs]
  | cons x l ih =>
    simp only [chkUs]
    by_cases hx : chkU x = 0
    · rw [if_pos hx, ih]; simp [hx]
    · rw [if_neg hx]
      constructor
      · intro h; exact absurd h hx
      · intro h; exact h x (by simp)
theorem chkRow_zero {l : List Vl} (h : chkRow l = 0) : l.all Vl.right = true ∧ l.length ≤ 8 := by
  unfold chkRow at h
  split at h
  · rename_i h1
    rw [Bool.and_eq_true] at h1
    exact ⟨h1.1, by simpa using h1.2⟩
  · omega
theorem chkK_zero {u : Uk} (h : chkK u = 0) : chkRow u.key = 0 ∧ chkRow u.row = 0 ∧ chk [u.t] = 0 := by
  unfold chkK orI at h
  split at h
  · rename_i h1
    split at h
    · rename_i h2; exact ⟨h1, h2, h⟩
    · rename_i h2; exact absurd h h2
  · rename_i h1; exact absurd h h1
theorem tm_zero {s t : Tm} : s.cmp t = 0 ↔ s = t := by
  have h : ∀ x y, Tm.cmpN x y = 0 ↔ x = y := fun x y => by unfold Tm.cmpN; repeat' split
                                                           all_goals omega
  obtain ⟨a, b, c⟩ := s
  obtain ⟨x, y, z⟩ := t
  unfold Tm.cmp
  dsimp only
  simp only [Tm.mk.injEq]
  by_cases h1 : a = x
  · by_cases h2 : b = y
    · simp [h1, h2, h]
    · simp [h1, h2, h]
  · simp [h1, h]
theorem tm_swap (s t : Tm) : t.cmp s = - s.cmp t := by
  unfold Tm.cmp Tm.cmpN
  by_cases h1 : s.e = t.e
  · by_cases h2 : s.a = t.a
    · simp only [h1, h2, ne_eq, not_true_eq_false, if_false]
      repeat' split
      all_goals omega
    · simp only [h1, h2, fun h : t.a = s.a => h2 h.symm, ne_eq, not_true_eq_false, not_false_eq_true, if_false, if_true]
      repeat' split
      all_goals omega
  · simp only [h1, fun h : t.e = s.e => h1 h.symm, ne_eq, not_false_eq_true, if_true]
    repeat' split
    all_goals omega
theorem tm_lt {s t : Tm} : s.cmp t < 0 ↔ s.e < t.e ∨ (s.e = t.e ∧ (s.a < t.a ∨ (s.a = t.a ∧ s.b < t.b))) := by
  unfold Tm.cmp Tm.cmpN
  repeat' split
  all_goals omega
theorem tm_le {s t : Tm} : s.cmp t ≤ 0 ↔ s.e < t.e ∨ (s.e = t.e ∧ (s.a < t.a ∨ (s.a = t.a ∧ s.b ≤ t.b))) := by
  unfold Tm.cmp Tm.cmpN
  repeat' split
  all_goals omega
theorem tm_trans (a b c : Tm) (h : a.cmp b ≤ 0) (k : b.cmp c ≤ 0) : a.cmp c ≤ 0 ∧ (a.cmp b < 0 ∨ b.cmp c < 0 → a.cmp c < 0) := by
  rw [tm_le] at *
  rw [tm_lt, tm_lt, tm_lt]
  omega
theorem lex_le {x y z p q r : Int} (h : (if x = 0 then p else x) ≤ 0) (k : (if y = 0 then q else y) ≤ 0) (h1 : x ≤ 0 → y ≤ 0 → z ≤ 0 ∧ (x < 0 ∨ y < 0 → z < 0)) (h0 : x = 0 → y = 0 → z = 0) (h2 : p ≤ 0 → q ≤ 0 → r ≤ 0 ∧ (p < 0 ∨ q < 0 → r < 0)) :
    (if z = 0 then r else z) ≤ 0 ∧ ((if x = 0 then p else x) < 0 ∨ (if y = 0 then q else y) < 0 → (if z = 0 then r else z) < 0) := by
  by_cases hx : x = 0
  · rw [if_pos hx] at *
    by_cases hy : y = 0
    · rw [if_pos hy] at *
      rw [if_pos (h0 hx hy)]
      exact h2 h k
    · rw [if_neg hy] at *
      have := (h1 (by omega) k).2 (.inr (by omega))
      rw [if_neg (by omega)]
      exact ⟨by omega, fun _ => this⟩
  · rw [if_neg hx] at *
    have hy : y ≤ 0 := by split at k <;> omega
    have := (h1 h hy).2 (.inl (by omega))
    rw [if_neg (by omega)]
    exact ⟨by omega, fun _ => this⟩
theorem rows_zero {a b c : List Vl} (h : cmpRows a b = 0) (k : cmpRows b c = 0) : cmpRows a c = 0 := by
  have h1 := (cmpRows_le a b c (by omega) (by omega)).1
  have h2 := (cmpRows_le c b a (by rw [cmpRows_swap]; omega) (by rw [cmpRows_swap]; omega)).1
  rw [cmpRows_swap a c] at h2
  omega
def UkR (u : Uk) : Prop := chkK u = 0
theorem uk_lin : Lin Uk.cmp UkR where
  swap a b := by
    unfold Uk.cmp
    rw [cmpRows_swap a.key b.key, cmpRows_swap a.row b.row, tm_swap a.t b.t]
    by_cases h1 : cmpRows a.key b.key = 0
    · by_cases h2 : cmpRows a.row b.row = 0
      · simp [h1, h2]
      · rw [if_pos (by omega), if_neg (by omega), if_pos h1, if_neg h2]
    · rw [if_neg (by omega), if_neg h1]
  le a b c h k := by
    unfold Uk.cmp at *
    refine lex_le h k (cmpRows_le a.key b.key c.key) rows_zero fun h k => ?_
    exact lex_le h k (cmpRows_le a.row b.row c.row) rows_zero (tm_trans a.t b.t c.t)
  eq a b ha hb := by
    obtain ⟨a1, a2, _⟩ := chkK_zero ha
    obtain ⟨b1, b2, _⟩ := chkK_zero hb
    have e1 := cmpRows_right (chkRow_zero a1).1 (chkRow_zero b1).1
    have e2 := cmpRows_right (chkRow_zero a2).1 (chkRow_zero b2).1
    obtain ⟨ak, ar, at_⟩ := a
    obtain ⟨bk, br, bt⟩ := b
    unfold Uk.cmp
    dsimp only at *
    simp only [Uk.mk.injEq]
    by_cases h1 : cmpRows ak bk = 0
    · by_cases h2 : cmpRows ar br = 0
      · rw [if_pos h1, if_pos h2, tm_zero]
        exact ⟨fun h => ⟨e1.1 h1, e2.1 h2, h⟩, fun h => h.2.2⟩
      · rw [if_pos h1, if_neg h2]
        exact ⟨fun h => absurd h h2, fun h => absurd (e2.2 h.2.1) h2⟩
    · rw [if_neg h1]
      exact ⟨fun h => absurd h h1, fun h => absurd (e1.2 h.1) h1⟩
structure UIn (w : World) (B : Nat) (u : Up) : Prop where
  key : Vals w B u.kA u.key
  row : Vals w B u.rA u.row
theorem UIn.past {w w' : World} {B B' : Nat} {u : Up} (h : UIn w B u) (hb : Below B' w w') (hB : B ≤ B') : UIn w' B u := ⟨h.key.past hb hB, h.row.past hb hB⟩
theorem UIn.wide {w : World} {B B' : Nat} {u : Up} (h : UIn w B u) (hB : B ≤ B') : UIn w B' u := ⟨h.key.wide hB, h.row.wide hB⟩
theorem UIn.keep {w w' : World} {u : Up} (h : UIn w w.heap.size u) (hb : Below w.heap.size w w') : UIn w' w'.heap.size u := (h.past hb (Nat.le_refl _)).wide hb.size
structure UOk (u : Up) : Prop where
  kn : u.key.length ≤ 140737488351232
  rn : u.row.length ≤ 140737488351232
  ks : ∀ v ∈ u.key, VOk v
  rs : ∀ v ∈ u.row, VOk v
  dn : -9223372036854775808 ≤ u.d ∧ u.d ≤ 9223372036854775807
structure Ups (w : World) (B : Nat) (A : Option Addr) (l : List Up) : Prop where
  head : Lies 6 Up.cells w B A l
  each_ : ∀ u ∈ l, UIn w B u
theorem Ups.past {w w' : World} {B B' : Nat} {A : Option Addr} {l : List Up} (h : Ups w B A l) (hb : Below B' w w') (hB : B ≤ B') : Ups w' B A l := ⟨h.head.past hb hB, fun u hu => (h.each_ u hu).past hb hB⟩
theorem Ups.wide {w : World} {B B' : Nat} {A : Option Addr} {l : List Up} (h : Ups w B A l) (hB : B ≤ B') : Ups w B' A l := ⟨h.head.wide hB, fun u hu => (h.each_ u hu).wide hB⟩
theorem Ups.keep {w w' : World} {A : Option Addr} {l : List Up} (h : Ups w w.heap.size A l) (hb : Below w.heap.size w w') : Ups w' w'.heap.size A l := (h.past hb (Nat.le_refl _)).wide hb.size
def UAt (w : World) (b o : Nat) (u : Up) : Prop := ∀ (j : Nat) (v : Value), u.cells[j]? = some v → w.cell? ⟨b, o + j, none⟩ = some v
theorem UAt.six {w : World} {b o : Nat} {u : Up} (h : UAt w b o u) :
    w.cell? ⟨b, o, none⟩ = some (.slice u.kA u.key.length u.kc) ∧ w.cell? ⟨b, o + 1, none⟩ = some (.slice u.rA u.row.length u.rc) ∧ w.cell? ⟨b, o + 2, none⟩ = some (.int .u64 (u.t.e : Int)) ∧
      w.cell? ⟨b, o + 3, none⟩ = some (.int .u64 (u.t.a : Int)) ∧ w.cell? ⟨b, o + 4, none⟩ = some (.int .u64 (u.t.b : Int)) ∧ w.cell? ⟨b, o + 5, none⟩ = some (.int .i64 u.d) :=
  ⟨h 0 _ rfl, h 1 _ rfl, h 2 _ rfl, h 3 _ rfl, h 4 _ rfl, h 5 _ rfl⟩
theorem UAt.past_ {w w' : World} {B b o : Nat} {u : Up} (h : UAt w b o u) (hb : Below B w w') (hB : b < B) : UAt w' b o u := fun j v hj => (hb.cell (p := ⟨b, o + j, none⟩) hB).trans (h j v hj)
theorem lies_up {w : World} {B : Nat} {A : Option Addr} {l : List Up} (h : Lies 6 Up.cells w B A l) (hp : 0 < l.length) :
    ∃ b o, A = some ⟨b, o, none⟩ ∧ b < B ∧ ∀ (i : Nat) (x : Up), l[i]? = some x → UAt w b (o + i * 6) x := by
  obtain ⟨b, o, e, hb, hc⟩ := h hp
  exact ⟨b, o, e, hb, fun i x hi j u hj => hc i x hi j u hj⟩
theorem own6 {w : World} {P : Nat} {t : TypeId} {a0 a1 a2 a3 a4 a5 : Value} (h : Own w P t [a0, a1, a2, a3, a4, a5]) :
    w.cell? ⟨P, 0, none⟩ = some a0 ∧ w.cell? ⟨P, 1, none⟩ = some a1 ∧ w.cell? ⟨P, 2, none⟩ = some a2 ∧ w.cell? ⟨P, 3, none⟩ = some a3 ∧ w.cell? ⟨P, 4, none⟩ = some a4 ∧ w.cell? ⟨P, 5, none⟩ = some a5 :=
  ⟨h.at_ 0, h.at_ 1, h.at_ 2, h.at_ 3, h.at_ 4, h.at_ 5⟩
theorem upbox (w : World) (u : Up) : ∃ W, W = w.alloc (.cells #[.slice u.kA u.key.length u.kc, .slice u.rA u.row.length u.rc, .int .u64 (u.t.e : Int), .int .u64 (u.t.a : Int), .int .u64 (u.t.b : Int), .int .i64 u.d] 57) ∧
    Below w.heap.size w W ∧ W.heap.size = w.heap.size + 1 ∧ Own W w.heap.size 57 u.cells :=
  ⟨_, rfl, (Below.refl _ _).alloc (Nat.le_refl _) _, by simp, Own.made w 57 u.cells⟩
end Go.Proofs.YtenjlhlighkenaaGreat
namespace Go.Proofs.YtenjlhlighkenaaGreat
open Go Go.RowKit Go.Sort

theorem two_box (w : World) (a b : Up) : ∃ W, W = (w.alloc (.cells #[.slice a.kA a.key.length a.kc, .slice a.rA a.row.length a.rc, .int .u64 (a.t.e : Int), .int .u64 (a.t.a : Int), .int .u64 (a.t.b : Int), .int .i64 a.d] 57)).alloc (.cells #[.slice b.kA b.key.length b.kc, .slice b.rA b.row.length b.rc, .int .u64 (b.t.e : Int), .int .u64 (b.t.a : Int), .int .u64 (b.t.b : Int), .int .i64 b.d] 57) ∧ Gr w W ∧ Own W w.heap.size 57 a.cells ∧ Own W (w.heap.size + 1) 57 b.cells := by
  refine ⟨_, rfl, Gr.two w _ _, (Own.made w 57 a.cells).more _, ?_⟩
  have := Own.made (w.alloc (.cells #[.slice a.kA a.key.length a.kc, .slice a.rA a.row.length a.rc, .int .u64 (a.t.e : Int), .int .u64 (a.t.a : Int), .int .u64 (a.t.b : Int), .int .i64 a.d] 57)) 57 b.cells
  rw [show (w.alloc (.cells #[.slice a.kA a.key.length a.kc, .slice a.rA a.row.length a.rc, .int .u64 (a.t.e : Int), .int .u64 (a.t.a : Int), .int .u64 (a.t.b : Int), .int .i64 a.d] 57)).heap.size = w.heap.size + 1 by simp] at this
  exact this
theorem maxn {n : Nat} (h : n ≤ 140737488351232) : n ≤ maxLen := by unfold maxLen; omega
set_option maxRecDepth 100000 in
set_option maxHeartbeats 3200000 in
theorem dcompare_gr (a b : Up) (w : World) (ha : UIn w w.heap.size a) (hb : UIn w w.heap.size b) (oa : UOk a) (ob : UOk b) :
    Calls Tryz.prog 76 #[a.val, b.val] w fun e w' => e = .returned (.int .i64 (a.k.cmp b.k)) ∧ Gr w w' := by
  have y1 := fun W h1 h2 => Lib.hid (rows_gr a.kA b.kA a.kc b.kc a.key b.key W h1 h2 (maxn oa.kn) (maxn ob.kn))
  have y2 := fun W h1 h2 => Lib.hid (rows_gr a.rA b.rA a.rc b.rc a.row b.row W h1 h2 (maxn oa.rn) (maxn ob.rn))
  have y3 := fun W => Lib.hid (compare_grows a.t b.t W)
  have hc := Lib.hid (show a.k.cmp b.k = if cmpRows a.key b.key = 0 then (if cmpRows a.row b.row = 0 then a.t.cmp b.t else cmpRows a.row b.row) else cmpRows a.key b.key from rfl)
  obtain ⟨W, hW, hg, o1, o2⟩ := two_box w a b
  have HB := Lib.hid (And.intro hg (And.intro o1 (And.intro o2 (And.intro (ha.keep hg.below) (hb.keep hg.below)))))
  obtain ⟨a0, a1, a2, a3, a4, a5⟩ := own6 o1
  obtain ⟨b0, b1, b2, b3, b4, b5⟩ := own6 o2
  generalize cmpRows a.key b.key = x at *
  generalize cmpRows a.row b.row = y at *
  generalize a.t.cmp b.t = z at *
  unfold Tm.val at y3
  have hav : a.val = .agg #[.slice a.kA a.key.length a.kc, .slice a.rA a.row.length a.rc, .int .u64 (a.t.e : Int), .int .u64 (a.t.a : Int), .int .u64 (a.t.b : Int), .int .i64 a.d] := rfl
  have hbv : b.val = .agg #[.slice b.kA b.key.length b.kc, .slice b.rA b.row.length b.rc, .int .u64 (b.t.e : Int), .int .u64 (b.t.a : Int), .int .u64 (b.t.b : Int), .int .i64 b.d] := rfl
  rw [hav, hbv]
  clear hav hbv ha hb oa ob hg o1 o2
  go_enter Tryz.func76, Tryz.ntmps76
  go_upto_region 1 with fail
  rw [← hW]
  clear hW
  go_wp2_with fail
  refine (y1 _ HB.out.2.2.2.1.key HB.out.2.2.2.2.key).out.mono ?_
  rintro _ w1 ⟨rfl, g1⟩
  have H1 := Lib.hid (And.intro (HB.out.1.trans g1) (And.intro (HB.out.2.1.past g1.below HB.out.2.1.inside) (And.intro (HB.out.2.2.1.past g1.below HB.out.2.2.1.inside) (And.intro (HB.out.2.2.2.1.keep g1.below) (HB.out.2.2.2.2.keep g1.below)))))
  clear g1 a0 a1 a2 a3 a4 a5 b0 b1 b2 b3 b4 b5 y1
  obtain ⟨a0, a1, a2, a3, a4, a5⟩ := own6 H1.out.2.1
  obtain ⟨b0, b1, b2, b3, b4, b5⟩ := own6 H1.out.2.2.1
  by_cases hx : x = 0
  case neg =>
    have t1 : (x == 0) = false := beq_eq_false_iff_ne.2 hx
    rw [if_neg hx] at hc
    clear hx
    go_wp2_with fail
    go_ret
    exact ⟨ret_i64 hc.out.symm, H1.out.1⟩
  rw [if_pos hx] at hc
  subst hx
  go_wp2_with fail
  refine (y2 _ H1.out.2.2.2.1.row H1.out.2.2.2.2.row).out.mono ?_
  rintro _ w2 ⟨rfl, g2⟩
  have H2 := Lib.hid (And.intro (H1.out.1.trans g2) (And.intro (H1.out.2.1.past g2.below H1.out.2.1.inside) (H1.out.2.2.1.past g2.below H1.out.2.2.1.inside)))
  clear g2 a0 a1 a2 a3 a4 a5 b0 b1 b2 b3 b4 b5 y2
  obtain ⟨a0, a1, a2, a3, a4, a5⟩ := own6 H2.out.2.1
  obtain ⟨b0, b1, b2, b3, b4, b5⟩ := own6 H2.out.2.2
  by_cases hy : y = 0
  case neg =>
    have t1 : (y == 0) = false := beq_eq_false_iff_ne.2 hy
    rw [if_neg hy] at hc
    clear hy
    go_wp2_with fail
    go_ret
    exact ⟨ret_i64 hc.out.symm, H2.out.1⟩
  rw [if_pos hy] at hc
  subst hy
  go_wp2_with fail
  refine (y3 _).out.mono ?_
  rintro _ w3 ⟨rfl, g3⟩
  have H3 := Lib.hid (H2.out.1.trans g3)
  clear g3 a0 a1 a2 a3 a4 a5 b0 b1 b2 b3 b4 b5 y3
  go_wp2_with fail
  go_ret
  exact ⟨ret_i64 hc.out.symm, H3.out⟩
end Go.Proofs.YtenjlhlighkenaaGreat
namespace Go.Proofs.YtenjlhlighkenaaGreat
open Go Go.RowKit

set_option maxRecDepth 100000 in
set_option maxHeartbeats 800000 in
theorem orE_any (g : Nat) (x y z : Int) (w : World) (h0 : w.cell? ⟨g, 0, none⟩ = some (.int .i64 x)) (h1 : w.cell? ⟨g, 1, none⟩ = some (.int .i64 y)) (h2 : w.cell? ⟨g, 2, none⟩ = some (.int .i64 z)) :
    Calls Tryz.prog 34 #[.slice (some ⟨g, 0, none⟩) 3 3] w fun e w' => e = .returned (.int .i64 (orI x (orI y z))) ∧ w = w' := by
  go_enter Tryz.func34, Tryz.ntmps34
  go_wp2_with fail
  go_rounds 4
  all_goals
    go_ret
    refine ⟨ret_i64 ?_, rfl⟩
    unfold orI
    simp_all
theorem times_made (w : World) (t : Tm) : Times (w.alloc (.cells #[.int .u64 (t.e : Int), .int .u64 (t.a : Int), .int .u64 (t.b : Int)] 26)) (w.alloc (.cells #[.int .u64 (t.e : Int), .int .u64 (t.a : Int), .int .u64 (t.b : Int)] 26)).heap.size (some ⟨w.heap.size, 0, none⟩) [t] := fun _ => by
  have ho := Own.made w 26 t.cells
  refine ⟨w.heap.size, 0, rfl, by simp, fun i x hx => ?_⟩
  match i, hx with
  | 0, hx =>
    obtain rfl : t = x := by simpa using hx
    exact ⟨ho.at_ 0, ho.at_ 1, ho.at_ 2⟩
theorem times_made_drew (w : World) (t : Tm) : Times (w.alloc (.cells #[.int .u64 (t.e : Int), .int .u64 (t.a : Int), .int .u64 (t.b : Int)] 26)).drew (w.alloc (.cells #[.int .u64 (t.e : Int), .int .u64 (t.a : Int), .int .u64 (t.b : Int)] 26)).drew.heap.size (some ⟨w.heap.size, 0, none⟩) [t] := times_made w t
theorem tms_keep {a b : World} {A : Option Addr} {l : List Tm} (h : Times a a.heap.size A l) (hb : Below a.heap.size a b) : Times b b.heap.size A l := (h.past hb (Nat.le_refl _)).wide hb.size
def Bl (V w : World) : Prop := Below V.heap.size V w
theorem Bl.refl (V : World) : Bl V V := Below.refl _ _
theorem Bl.more {V w : World} (h : Bl V w) (o : Obj) : Bl V (w.alloc o) := h.alloc h.size o
theorem Bl.drew {V w : World} (h : Bl V w) : Bl V w.drew := Below.drew h
theorem Bl.call {V a b : World} (h : Bl V a) (k : Below a.heap.size a b) : Bl V b := belows h k
theorem Bl.below {V w : World} (h : Bl V w) : Below V.heap.size V w := h
set_option maxRecDepth 100000 in
set_option maxHeartbeats 6400000 in
theorem dcheck_any (A : Option Addr) (c : Nat) (l : List Up) (w : World) (hl : Ups w w.heap.size A l) (hn : l.length ≤ 140737488351232) (hk : ∀ u ∈ l, UOk u) :
    Calls Tryz.prog 35 #[.slice A l.length c] w fun x w' => x = .returned (.int .i64 (chkUs l)) ∧ Below w.heap.size w w' := by
  have HL := Lib.hid (And.intro hl hk)
  clear hl hk
  go_enter Tryz.func35, Tryz.ntmps35
  go_wp2_with fail
  go_loopw [8] (fun i wr => ∃ k : Nat, i = .int .i64 (k : Int) ∧ k ≤ l.length ∧ Below w.heap.size w wr ∧ chkUs (l.take k) = 0) (fun i _ => l.length - (intOf i).toNat)
  case atStart => exact ⟨0, rfl, by omega, Below.refl _ _, rfl⟩
  case round =>
    obtain ⟨k, rfl, hk, hb, h0⟩ := hrel
    by_cases hlt : k < l.length
    · have hx : l[k]? = some l[k] := List.getElem?_eq_getElem hlt
      have hmem := List.mem_of_getElem? hx
      obtain ⟨b, o, rfl, hB, hxs⟩ := lies_up HL.out.1.head (by omega)
      have hxa := (hxs k _ hx).past_ hb hB
      have hin := (HL.out.1.each_ _ hmem).past hb (Nat.le_refl _)
      have hok := HL.out.2 _ hmem
      have hnx := chkUs_take hx h0
      have hbad := fun h => chkUs_bad hx h0 h
      generalize l[k] = u at *
      obtain ⟨c0, c1, c2, c3, c4, c5⟩ := hxa.six
      obtain ⟨V, hV, hvb, hvs, hvo⟩ := upbox wr u
      have hin2 := (hin.wide hb.size).keep hvb
      have HV := Lib.hid (And.intro (hb.trans (hvb.mono hb.size)) (And.intro hvo (And.intro hnx hbad)))
      have x1 := fun W (h : Bl V W) => Lib.hid (vcheck_any u.kA u.kc u.key W (hin2.keep h).key (maxn hok.kn) (fun v hv => (hok.ks v hv).1))
      have x2 := fun W (h : Bl V W) => Lib.hid (vcheck_any u.rA u.rc u.row W (hin2.keep h).row (maxn hok.rn) (fun v hv => (hok.rs v hv).1))
      have x3 : ∀ W g, Times W W.heap.size (some ⟨g, 0, none⟩) [u.t] → Hid (Calls Tryz.prog 36 #[.slice (some ⟨g, 0, none⟩) 1 1] W fun e w' => e = .returned (.int .i64 (chk [u.t])) ∧ Below W.heap.size W w') := fun W g h => Lib.hid (check_any (some ⟨g, 0, none⟩) 1 [u.t] W h (by unfold maxLen; simp))
      have x4 := fun W g h1 h2 h3 => Lib.hid (orE_any g (chkRow u.key) (chkRow u.row) (chk [u.t]) W h1 h2 h3)
      have hcu := Lib.hid (show chkU u = orI (chkRow u.key) (orI (chkRow u.row) (chk [u.t])) from rfl)
      have HS := Lib.hid (fun W (h : Bl V W) => let k := own6 (hvo.past h hvo.inside); (⟨k.1, k.2.1, k.2.2.1, k.2.2.2.1, k.2.2.2.2.1⟩ : W.cell? ⟨wr.heap.size, 0, none⟩ = some (.slice u.kA u.key.length u.kc) ∧ W.cell? ⟨wr.heap.size, 1, none⟩ = some (.slice u.rA u.row.length u.rc) ∧ W.cell? ⟨wr.heap.size, 2, none⟩ = some (.int .u64 (u.t.e : Int)) ∧ W.cell? ⟨wr.heap.size, 3, none⟩ = some (.int .u64 (u.t.a : Int)) ∧ W.cell? ⟨wr.heap.size, 4, none⟩ = some (.int .u64 (u.t.b : Int))))
      have hself := Bl.refl V
      obtain ⟨d0, d1, d2, d3, d4, d5⟩ := own6 hvo
      have q0 : (0 : Int) ≤ (k : Int) := by omega
      have q1 : (k : Int) < (l.length : Int) := by omega
      have htm := Lib.hid (fun W => times_made W u.t)
      have htd := Lib.hid (fun W => times_made_drew W u.t)
      clear hx hmem hxs hxa hin hok hnx hbad hvb hvo hin2 hb h0 hvs
      go_upto_region 4 with fail
      rw [← hV]
      clear hV c0 c1 c2 c3 c4 c5
      go_cut [5] (fun s5 wx => s5 = .int .i64 (chkU u) ∧ Bl V wx)
      case first =>
        go_region_held3 (fun w' => Bl V w' ∧ (w'.cell? ⟨wr.heap.size, 0, none⟩ = some (.slice u.kA u.key.length u.kc) ∧ w'.cell? ⟨wr.heap.size, 1, none⟩ = some (.slice u.rA u.row.length u.rc) ∧ w'.cell? ⟨wr.heap.size, 2, none⟩ = some (.int .u64 (u.t.e : Int)) ∧ w'.cell? ⟨wr.heap.size, 3, none⟩ = some (.int .u64 (u.t.a : Int)) ∧ w'.cell? ⟨wr.heap.size, 4, none⟩ = some (.int .u64 (u.t.b : Int))))
          ((refine (fun h => And.intro h (HS.out _ h)) ?_; repeat (first | with_reducible exact hb3 | with_reducible exact hb2 | with_reducible exact hb1 | with_reducible exact hself | with_reducible refine Bl.more ?_ _ | with_reducible refine Bl.drew ?_)))
          (first | (go_at_call 63; have hq := hb1; refine (x2 _ (by repeat (first | with_reducible exact hb1 | with_reducible refine Bl.more ?_ _))).out.mono ?_; rintro _ w2 ⟨rfl, k2⟩; have hb2 : Bl V w2 := Bl.call (by repeat (first | with_reducible exact hb1 | with_reducible refine Bl.more ?_ _)) k2; first | have ht2 := tms_keep ht1 k2 | have ht2 := tms_keep (htm.out _) k2 | skip) | (go_at_call 63; refine (x1 _ (by repeat (first | with_reducible exact hself | with_reducible refine Bl.more ?_ _ | with_reducible refine Bl.drew ?_))).out.mono ?_; rintro _ w1 ⟨rfl, k1⟩; have hb1 : Bl V w1 := Bl.call (by repeat (first | with_reducible exact hself | with_reducible refine Bl.more ?_ _ | with_reducible refine Bl.drew ?_)) k1; first | have ht1 := tms_keep (htm.out _) k1 | have ht1 := tms_keep (htd.out _) k1 | skip) | (go_at_call 36; refine (x3 _ _ (by first | exact ht2 | exact htm.out _)).out.mono ?_; rintro _ w3 ⟨rfl, k3⟩; have hb3 : Bl V w3 := Bl.call (by repeat (first | with_reducible exact hb2 | with_reducible refine Bl.more ?_ _)) k3) | (go_at_call 34; refine (x4 _ _ ?_ ?_ ?_).out.mono ?_; (simp [go_sem]); (simp [go_sem]); (simp [go_sem]); rintro _ w4 ⟨rfl, rfl⟩))
        all_goals
          go_wp2_with fail
          go_meet
          exact ⟨by rw [hcu.out], hb3.more _⟩
      case rest =>
        obtain ⟨rfl, hcb⟩ := hcut
        have HX := Lib.hid (HV.out.1.trans (hcb.below.mono (Nat.le_trans HV.out.1.size (Nat.le_refl _))))
        by_cases hz : chkU u = 0
        · have t1 : (chkU u != 0) = false := by simp [hz]
          have HZ := Lib.hid hz
          clear hz hcb d0 d1 d2 d3 d4 d5
          go_wp2_with fail
          go_roundw
          case rel => exact ⟨k + 1, by go_num, by omega, HX.out, by rw [HV.out.2.2.1, HZ.out]⟩
          case measure => simp [intOf]; omega
        · have t1 : (chkU u != 0) = true := bne_iff_ne.2 hz
          have hr := Lib.hid (HV.out.2.2.2 hz)
          clear hz hcb d0 d1 d2 d3 d4 d5
          go_wp2_with fail
          go_ret
          exact ⟨ret_i64 hr.out.symm, HX.out⟩
    · have hk2 : k = l.length := by omega
      subst hk2
      rw [List.take_length] at h0
      have HX := Lib.hid (And.intro h0 hb)
      clear h0 hb
      go_wp2_with fail
      go_ret
      exact ⟨ret_i64 HX.out.1.symm, HX.out.2⟩
end Go.Proofs.YtenjlhlighkenaaGreat
namespace Go.Proofs.YtenjlhlighkenaaGreat
open Go Go.RowKit

instance : Inhabited Vl := ⟨⟨false, 0, ⟨#[]⟩⟩⟩
theorem vals_of_lies {W : World} {B : Nat} {A : Option Addr} {l : List Vl} (h : Lies 3 Vl.cells W B A l) : Vals W B A l := fun hp => by
  obtain ⟨b, o, e, hb, hc⟩ := h hp
  exact ⟨b, o, e, hb, fun i v hi => ⟨hc i v hi 0 _ rfl, hc i v hi 1 _ rfl, hc i v hi 2 _ rfl⟩⟩
theorem lies_of_vals {W : World} {B : Nat} {A : Option Addr} {l : List Vl} (h : Vals W B A l) : Lies 3 Vl.cells W B A l := fun hp => by
  obtain ⟨b, o, e, hb, hc⟩ := h hp
  refine ⟨b, o, e, hb, fun i v hi j u hj => ?_⟩
  obtain ⟨h0, h1, h2⟩ := hc i v hi
  match j, hj with
  | 0, hj => obtain rfl : Value.bool v.t = u := by simpa [Vl.cells] using hj
             exact h0
  | 1, hj => obtain rfl : Value.int .i64 v.n = u := by simpa [Vl.cells] using hj
             exact h1
  | 2, hj => obtain rfl : Value.string v.s = u := by simpa [Vl.cells] using hj
             exact h2
theorem infoVl : (Tryz.prog.info? 104).map (fun i => (i.zero, i.size, i.bytes)) = some (some (Vl.mk false 0 ⟨#[]⟩).val, 3, 32) := by kernel_rfl
theorem vl_one (x : Vl) : ∀ u ∈ x.cells, u.oneCell' = true := by
  intro u hu
  simp [Vl.cells] at hu
  rcases hu with rfl | rfl | rfl <;> rfl
end Go.Proofs.YtenjlhlighkenaaGreat
namespace Go.Proofs.YtenjlhlighkenaaGreat
open Go Go.RowKit

theorem own_made {w : World} {base g n s : Nat} {e : TypeId} {xs : List Value} (h : w.ownsRow base e s (.slice (some ⟨g, 0, none⟩) n n) n xs) : Own w g e xs := by
  rcases h.2 with ⟨h0, _⟩ | ⟨g', cap, cur, hv, hb, hg, h1, h2, h3, h4⟩
  · cases h0
  · simp only [Value.slice.injEq, Option.some.injEq, Addr.mk.injEq, and_true] at hv
    obtain ⟨rfl, _, rfl⟩ := hv
    rw [List.take_of_length_le (by rw [Array.length_toList, h3]; exact Nat.le_refl _)] at h4
    subst h4
    unfold Own
    rw [hg]
theorem run_copy_all {P : Program} (w : World) (dT sT ty elem : TypeId) (g n c c' k : Nat) (a : Addr) (cur cs : List Value) (t : TypeId) (hu : P.underlying dT = some (.slice elem)) (hs : (P.info? elem).map (·.size) = some k)
    (hg : Own w g t cur) (hcl : cs.length = n * k) (hsrc : ∀ j v, cs[j]? = some v → w.cell? (a.add j) = some v) (hfit : cs.length = cur.length) (h1 : ∀ v ∈ cs, v.oneCell' = true) :
    (Builtin.copy_ #[dT, sT] ty #[.slice (some ⟨g, 0, none⟩) n c, .slice (some a) n c']).run P w = .ok (goInt n) (w.setRow g cs.toArray) := by
  have hl := run_loadCells_list (P := P) w a cs hsrc
  have hst := run_storeCells_at P g 0 t cs 0 cur.toArray w hg (by simp; omega) h1
  have hcur : (cur.toArray.toList.take 0 ++ cs ++ cur.toArray.toList.drop (0 + cs.length)).toArray = cs.toArray := by
    rw [Nat.zero_add, hfit]; simp
  cases hq : P.info? elem with
  | none => simp [hq] at hs
  | some i =>
    have hi : i.size = k := by simpa [hq] using hs
    have hm : Nat.min n n = n := Nat.min_self n
    simp only [Nat.add_zero, Nat.zero_add] at hst
    have hz : (List.take 0 cur ++ cs ++ List.drop cs.length cur) = cs := by rw [hfit]; simp
    rw [hz] at hst
    simp [Builtin.copy_, run_underlying hu, Builtin.lenOf, Builtin.firstCells, sizeOf, typeInfo, hq, hi, hm, ← hcl, hl, hst]
theorem own_setRow {w : World} {g : Nat} {t : TypeId} {cur cs : List Value} (h : Own w g t cur) : Own (w.setRow g cs.toArray) g t cs := by
  unfold Own at *
  simp [World.setRow, Array.getElem?_modify, h]
set_option maxRecDepth 100000 in
set_option maxHeartbeats 3200000 in
theorem listV_any (A : Option Addr) (c : Nat) (l : List Vl) (w : World) (hl : Vals w w.heap.size A l) (hn : l.length * 32 ≤ 281474976710656) :
    Calls Tryz.prog 69 #[.slice A l.length c] w fun x w' => ∃ A' c', x = .returned (.slice A' l.length c') ∧ Vals w' w'.heap.size A' l ∧ (∀ b o, A' = some ⟨b, o, none⟩ → w.heap.size ≤ b ∧ b < w'.heap.size) ∧ Below w.heap.size w w' := by
  obtain ⟨i0, hi, hz0, hz1, hz2⟩ := info_parts infoVl
  have hU := Tryz.underlying55
  have hsz1 : (Tryz.prog.info? 104).map (·.size) = some 3 := by rw [hi]; simp [hz1]
  cases l with
  | nil =>
    clear hl hn hi hz0 hz1 hz2 hU hsz1
    go_enter Tryz.func69, Tryz.ntmps69
    go_wp2_with fail
    go_ret
    exact ⟨_, _, rfl, fun h => absurd h (by simp), fun _ _ h => (by cases h), Below.refl _ _⟩
  | cons t l =>
    obtain ⟨b, o, rfl, hB, hc⟩ := hl (by simp)
    obtain ⟨m, hm⟩ : ∃ m, m = t :: l := ⟨_, rfl⟩
    have hpos : 0 < m.length := by rw [hm]; simp
    rw [← hm] at hc hn ⊢
    have t1 : ((m.length : Int) == 0) = false := beq_eq_false_iff_ne.2 (by omega)
    have HC := Lib.hid hc
    clear hc hm hl
    go_enter Tryz.func69, Tryz.ntmps69
    go_wp2_with (refine wpList_make_full _ rfl (.tmp 8) (.tmp 8) 55 rfl w.heap.size 104 i0 _ 3 hU hi hz0 hz1 .i64 .i64 _ _ m.length rfl rfl rfl rfl ?c1 ?c2 ?c3 ?_)
    case c1 => rw [hz2]; omega
    case c2 => unfold maxLen; omega
    case c3 => exact Nat.le_refl _
    intro w1 ho1 hg1
    obtain ⟨cur, ho1⟩ : ∃ cur, w1.ownsRow w.heap.size 104 3 (.slice (some ⟨w.heap.size, 0, none⟩) m.length m.length) m.length cur := ⟨_, ho1⟩
    have hm1 := own_made ho1
    have hb1 : Below w.heap.size w w1 := (Below.refl _ _).grown hg1 (Nat.le_refl _) (fun k h => by cases h)
    have hlen1 : cur.length = m.length * 3 := ho1.1
    have hcl : (m.flatMap Vl.cells).length = m.length * 3 := flat_size (size := 3) (cells := Vl.cells) (fun _ => rfl) m
    have hsrc : ∀ j v, (m.flatMap Vl.cells)[j]? = some v → w1.cell? ((⟨b, o, none⟩ : Addr).add j) = some v := fun j v hv => by
      obtain ⟨i, r, x, rfl, hx, hr⟩ := flat_back (size := 3) (cells := Vl.cells) (by decide) (fun _ => rfl) m j v hv
      have ea : (⟨b, o, none⟩ : Addr).add (i * 3 + r) = ⟨b, o + i * 3 + r, none⟩ := by unfold Addr.add; split <;> simp_all <;> omega
      rw [ea, hb1.cell (p := ⟨b, o + i * 3 + r, none⟩) hB]
      obtain ⟨a0, a1, a2⟩ := HC.out i x hx
      match r, hr with
      | 0, hr => rw [← hr]; exact a0
      | 1, hr => rw [← hr]; exact a1
      | 2, hr => rw [← hr]; exact a2
    have hrun := fun ty => run_copy_all (P := Tryz.prog) w1 55 55 ty 104 w.heap.size m.length m.length c 3 ⟨b, o, none⟩ cur (m.flatMap Vl.cells) 104 hU hsz1 hm1 hcl hsrc (by rw [hcl, hlen1]) (fun v hv => by
      obtain ⟨x, _, hx⟩ := List.mem_flatMap.1 hv
      exact vl_one x v hx)
    have ho2 : Own (w1.setRow w.heap.size (m.flatMap Vl.cells).toArray) w.heap.size 104 (m.flatMap Vl.cells) := own_setRow hm1
    have hb2 : Below w.heap.size w (w1.setRow w.heap.size (m.flatMap Vl.cells).toArray) := below_setRow hb1 (Nat.le_refl _) _
    have HR := Lib.hid hrun
    obtain ⟨w2, hw2⟩ : ∃ w2, w2 = w1.setRow w.heap.size (m.flatMap Vl.cells).toArray := ⟨_, rfl⟩
    rw [← hw2] at HR ho2 hb2
    have H2 := Lib.hid (And.intro ho2 hb2)
    clear hw2 hrun ho2 hb2 hsrc hcl hm1 hb1 hlen1 ho1 hg1 hU hsz1 hi hz0 hz1 hz2
    go_wp2_with (refine Lib.wpList_copy_run _ rfl _ _ 55 55 rfl _ _ rfl rfl (HR.out _) ?_)
    go_wp2_with fail
    go_ret
    refine ⟨_, _, rfl, fun _ => ⟨w.heap.size, 0, rfl, H2.out.1.inside, fun i x hx => ?_⟩, fun b' o' e => ?_, H2.out.2⟩
    · have := fun r v hr => flat_of (cells := Vl.cells) (size := 3) (fun _ => rfl) m i r x v hx hr
      refine ⟨?_, ?_, ?_⟩
      · rw [H2.out.1.at_]; exact (by simpa using this 0 _ rfl)
      · rw [H2.out.1.at_]; exact (by simpa using this 1 _ rfl)
      · rw [H2.out.1.at_]; exact (by simpa using this 2 _ rfl)
    · simp only [Option.some.injEq, Addr.mk.injEq, and_true] at e
      have := H2.out.1.inside
      omega
end Go.Proofs.YtenjlhlighkenaaGreat
namespace Go.Proofs.YtenjlhlighkenaaGreat
open Go Go.RowKit

theorem ret_box (w : World) (u : Up) : ∃ V, V = (w.alloc (.cells #[.slice u.kA u.key.length u.kc, .slice u.rA u.row.length u.rc, .int .u64 (u.t.e : Int), .int .u64 (u.t.a : Int), .int .u64 (u.t.b : Int), .int .i64 u.d] 57)).alloc (.cells #[.slice none 0 0, .slice none 0 0, .int .u64 0, .int .u64 0, .int .u64 0, .int .i64 0] 57) ∧ Below w.heap.size w V ∧ Own V w.heap.size 57 u.cells ∧ Own V (w.heap.size + 1) 57 [.slice none 0 0, .slice none 0 0, .int .u64 0, .int .u64 0, .int .u64 0, .int .i64 0] := by
  refine ⟨_, rfl, ((Below.refl _ _).alloc (Nat.le_refl _) _).alloc (by simp) _, (Own.made w 57 u.cells).more _, ?_⟩
  have := Own.made (w.alloc (.cells #[.slice u.kA u.key.length u.kc, .slice u.rA u.row.length u.rc, .int .u64 (u.t.e : Int), .int .u64 (u.t.a : Int), .int .u64 (u.t.b : Int), .int .i64 u.d] 57)) 57 [.slice none 0 0, .slice none 0 0, .int .u64 0, .int .u64 0, .int .u64 0, .int .i64 0]
  rw [show (w.alloc (.cells #[.slice u.kA u.key.length u.kc, .slice u.rA u.row.length u.rc, .int .u64 (u.t.e : Int), .int .u64 (u.t.a : Int), .int .u64 (u.t.b : Int), .int .i64 u.d] 57)).heap.size = w.heap.size + 1 by simp] at this
  exact this
theorem own_six {w : World} {P : Nat} {t : TypeId} {z0 z1 z2 z3 z4 z5 : Value} (h : Own w P t [z0, z1, z2, z3, z4, z5]) (a b c d e f : Value) :
    ∃ X, X = ((((((w.setCell ⟨P, 0, none⟩ a).setCell ⟨P, 1, none⟩ b).setCell ⟨P, 2, none⟩ c).setCell ⟨P, 3, none⟩ d).setCell ⟨P, 4, none⟩ e).setCell ⟨P, 5, none⟩ f) ∧ Own X P t [a, b, c, d, e, f] ∧ (∀ B u, Below B u w → B ≤ P → Below B u X) ∧ X.heap.size = w.heap.size ∧ (∀ b, b ≠ P → X.heap[b]? = w.heap[b]?) :=
  ⟨_, rfl, (((((h.set_ 0 a).set_ 1 b).set_ 2 c).set_ 3 d).set_ 4 e).set_ 5 f, fun B u hb hB => (((((hb.setCell (p := ⟨P, 0, none⟩) hB _).setCell (p := ⟨P, 1, none⟩) hB _).setCell (p := ⟨P, 2, none⟩) hB _).setCell (p := ⟨P, 3, none⟩) hB _).setCell (p := ⟨P, 4, none⟩) hB _).setCell (p := ⟨P, 5, none⟩) hB _, by simp [World.setCell], fun b hb => by
    have k := fun (W : World) (i : Nat) (v : Value) => Below.heap_setCell W ⟨P, i, none⟩ v b hb
    rw [k, k, k, k, k, k]⟩
theorem vals_other {w X : World} {P : Nat} {A : Option Addr} {l : List Vl} (h : Vals w w.heap.size A l) (hA : ∀ b o, A = some ⟨b, o, none⟩ → P < b) (hs : X.heap.size = w.heap.size) (hX : ∀ b, b ≠ P → X.heap[b]? = w.heap[b]?) : Vals X X.heap.size A l := fun hp => by
  obtain ⟨b, o, e, hb, hc⟩ := h hp
  have hne : b ≠ P := by have := hA b o e; omega
  have hk : ∀ j, X.cell? ⟨b, j, none⟩ = w.cell? ⟨b, j, none⟩ := fun j => by unfold World.cell?; rw [hX b hne]
  refine ⟨b, o, e, by omega, fun i v hi => ?_⟩
  obtain ⟨a0, a1, a2⟩ := hc i v hi
  exact ⟨(hk _).trans a0, (hk _).trans a1, (hk _).trans a2⟩
theorem own_frozen6 {w : World} {P : Nat} {t : TypeId} {z0 z1 z2 z3 z4 z5 : Value} (h : Own w P t [z0, z1, z2, z3, z4, z5]) :
    w.frozen? ⟨P, 0, none⟩ = false ∧ w.frozen? ⟨P, 1, none⟩ = false ∧ w.frozen? ⟨P, 2, none⟩ = false ∧ w.frozen? ⟨P, 3, none⟩ = false ∧ w.frozen? ⟨P, 4, none⟩ = false ∧ w.frozen? ⟨P, 5, none⟩ = false :=
  ⟨h.open_ 0, h.open_ 1, h.open_ 2, h.open_ 3, h.open_ 4, h.open_ 5⟩
def Bm (B : Nat) (V w : World) : Prop := Below B V w
theorem Bm.of {B : Nat} {V w : World} (h : Bl V w) (hB : B ≤ V.heap.size) : Bm B V w := h.below.mono hB
theorem Bm.set {B P : Nat} {V w : World} (h : Bm B V w) (hP : B ≤ P) (i : Nat) (v : Value) : Bm B V (w.setCell ⟨P, i, none⟩ v) := Below.setCell (p := ⟨P, i, none⟩) h hP v
theorem Bm.more {B : Nat} {V w : World} (h : Bm B V w) (hB : B ≤ V.heap.size) (o : Obj) : Bm B V (w.alloc o) := Below.alloc h (Nat.le_trans hB h.size) o
theorem Bm.drew {B : Nat} {V w : World} (h : Bm B V w) : Bm B V w.drew := Below.drew h
def Kept (u : Up) (n : Int) (w : World) (x : Ending) (w' : World) : Prop :=
  ∃ u' : Up, x = .returned u'.val ∧ u'.key = u.key ∧ u'.row = u.row ∧ u'.t = u.t ∧ u'.d = n ∧ UIn w' w'.heap.size u' ∧ (∀ b o, (u'.kA = some ⟨b, o, none⟩ ∨ u'.rA = some ⟨b, o, none⟩) → w.heap.size ≤ b ∧ b < w'.heap.size) ∧ Below w.heap.size w w'
set_option maxRecDepth 100000 in
set_option maxHeartbeats 6400000 in
theorem retain_any (u : Up) (n : Int) (w : World) (hu : UIn w w.heap.size u) (ok : u.key.length * 32 ≤ 281474976710656 ∧ u.row.length * 32 ≤ 281474976710656) :
    Calls Tryz.prog 77 #[u.val, .int .i64 n] w (Kept u n w) := by
  obtain ⟨V, hV, hvb, hvo, hvz⟩ := ret_box w u
  have hin := hu.keep hvb
  have y1 := fun W (h : Bl V W) => Lib.hid (listV_any u.kA u.kc u.key W (hin.keep h).key ok.1)
  have y2 := fun W (h : Bl V W) => Lib.hid (listV_any u.rA u.rc u.row W (hin.keep h).row ok.2)
  have hB := hvz.inside
  have HS := Lib.hid (fun W (h : Bm (w.heap.size + 1) V W) => let k := own6 (hvo.past h (Nat.lt_succ_self _)); (⟨k.1, k.2.1, k.2.2.1, k.2.2.2.1, k.2.2.2.2.1⟩ : W.cell? ⟨w.heap.size, 0, none⟩ = some (.slice u.kA u.key.length u.kc) ∧ W.cell? ⟨w.heap.size, 1, none⟩ = some (.slice u.rA u.row.length u.rc) ∧ W.cell? ⟨w.heap.size, 2, none⟩ = some (.int .u64 (u.t.e : Int)) ∧ W.cell? ⟨w.heap.size, 3, none⟩ = some (.int .u64 (u.t.a : Int)) ∧ W.cell? ⟨w.heap.size, 4, none⟩ = some (.int .u64 (u.t.b : Int))))
  have HZ := Lib.hid (fun W (h : Bl V W) => hvz.past h hvz.inside)
  have HB := Lib.hid hvb
  have hself := Bl.refl V
  obtain ⟨d0, d1, d2, d3, d4, d5⟩ := own6 hvo
  have huv : u.val = .agg #[.slice u.kA u.key.length u.kc, .slice u.rA u.row.length u.rc, .int .u64 (u.t.e : Int), .int .u64 (u.t.a : Int), .int .u64 (u.t.b : Int), .int .i64 u.d] := rfl
  rw [huv]
  have hbs : w.heap.size + 1 ≤ V.heap.size := Nat.le_of_lt hB
  clear huv hu ok hvb hvo hvz hin
  go_enter Tryz.func77, Tryz.ntmps77
  go_upto_region 1 with fail
  rw [← hV]
  clear hV
  go_region_held3 (fun w' => Bm (w.heap.size + 1) V w' ∧ (w'.cell? ⟨w.heap.size, 0, none⟩ = some (.slice u.kA u.key.length u.kc) ∧ w'.cell? ⟨w.heap.size, 1, none⟩ = some (.slice u.rA u.row.length u.rc) ∧ w'.cell? ⟨w.heap.size, 2, none⟩ = some (.int .u64 (u.t.e : Int)) ∧ w'.cell? ⟨w.heap.size, 3, none⟩ = some (.int .u64 (u.t.a : Int)) ∧ w'.cell? ⟨w.heap.size, 4, none⟩ = some (.int .u64 (u.t.b : Int))))
    ((refine (fun h => And.intro h (HS.out _ h)) ?_; repeat (first | with_reducible exact Bm.of hb2 hbs | with_reducible exact Bm.of hb1 hbs | with_reducible exact Bm.of hself hbs | with_reducible refine Bm.set ?_ (Nat.le_refl _) _ _ | with_reducible refine Bm.more ?_ hbs _ | with_reducible refine Bm.drew ?_)))
    (first | (go_at_call 69; have hq := hb1; refine (y2 _ hb1).out.mono ?_; rintro _ w2 ⟨A2, k2, rfl, v2, n2, b2⟩; have hb2 : Bl V w2 := Bl.call hb1 b2; have v1 := vals_keep v1 b2; obtain ⟨f0, f1, f2, f3, f4, f5⟩ := own_frozen6 (HZ.out _ hb2); obtain ⟨e0, e1, e2, e3, e4, e5⟩ := own6 (HZ.out _ hb2)) | (go_at_call 69; refine (y1 _ hself.drew).out.mono ?_; rintro _ w1 ⟨A1, k1, rfl, v1, n1, b1⟩; have hb1 : Bl V w1 := Bl.call hself.drew b1))
  all_goals
    obtain ⟨X, hX, hXo, hXb, hXs, hXh⟩ := own_six (HZ.out _ hb2) (.slice A1 u.key.length k1) (.slice A2 u.row.length k2) (.int .u64 (u.t.e : Int)) (.int .u64 (u.t.a : Int)) (.int .u64 (u.t.b : Int)) (.int .i64 n)
    have v1' := vals_other v1 (fun b o e => by have := (n1 b o e).1; simp at this; omega) hXs hXh
    have v2' := vals_other v2 (fun b o e => by have := (n2 b o e).1; have := hb1.size; omega) hXs hXh
    have hfar : ∀ b o, (A1 = some (⟨b, o, none⟩ : Addr) ∨ A2 = some (⟨b, o, none⟩ : Addr)) → w.heap.size ≤ b ∧ b < X.heap.size := fun b o h => by
      rcases h with h | h
      · have h1 := n1 b o h
        have h2 := b2.size
        have h3 := h1.1
        have h4 := h1.2
        simp at h3
        omega
      · have h1 := n2 b o h
        have h2 := hb1.size
        have h3 := h1.1
        have h4 := h1.2
        omega
    have hbX := hXb w.heap.size w (HB.out.trans (hb2.below.mono HB.out.size)) (Nat.le_succ _)
    rw [← hX]
    obtain ⟨x0, x1, x2, x3, x4, x5⟩ := own6 hXo
    clear hX hXo hXb hXs hXh f0 f1 f2 f3 f4 f5 e0 e1 e2 e3 e4 e5
    go_wp2_with fail
    exact bodyPost_ret (v := .agg #[.slice A1 u.key.length k1, .slice A2 u.row.length k2, .int .u64 (u.t.e : Int), .int .u64 (u.t.a : Int), .int .u64 (u.t.b : Int), .int .i64 n]) (by simp [results, Tryz.results77, go_sem, x0, x1, x2, x3, x4, x5]) rfl ⟨⟨A1, k1, u.key, A2, k2, u.row, u.t, n⟩, rfl, rfl, rfl, rfl, rfl, ⟨v1', v2'⟩, hfar, hbX⟩
end Go.Proofs.YtenjlhlighkenaaGreat
namespace Go.Proofs.YtenjlhlighkenaaGreat
open Go Go.RowKit

theorem add64 (x y c : Int) (hx : 0 ≤ x) (hy : 0 ≤ y) (hc0 : 0 ≤ c) (hc : c ≤ 1) (w : World) : (callFunc 120 #[.int .u64 x, .int .u64 y, .int .u64 c]).run Tryz.prog w =
    .ok (.value (.tuple #[.int .u64 ((x + y + c) % 18446744073709551616), .int .u64 ((x + y + c) / 18446744073709551616)])) w := by
  rw [run_callFunc_extern Tryz.func120 (by kernel_rfl) (by kernel_rfl) (by kernel_rfl) (e := add64Entry) (by kernel_rfl), run_add64 x y c hx hy hc0 hc]
  rfl

theorem wrapU (x : Int) : IntKind.u64.wrap x = x % 18446744073709551616 := by simp [IntKind.wrap, IntKind.bits, IntKind.signed]
theorem wrapS (x : Int) (h1 : 0 ≤ x) (h2 : x < 18446744073709551616) : wrap64 x = sg x := by unfold wrap64 sg; split <;> omega
set_option maxRecDepth 100000 in
set_option maxHeartbeats 400000 in
theorem of_any (n : Int) (w : World) (h1 : -9223372036854775808 ≤ n) (h2 : n ≤ 9223372036854775807) :
    Calls Tryz.prog 37 #[.int .i64 n] w fun e w' => e = .returned (.agg #[.int .u64 (hiW n), .int .u64 (loW n)]) ∧ Below w.heap.size w w' := by
  have e1 : IntKind.u64.wrap (n / 9223372036854775808) = hiW n := by rw [wrapU]; unfold hiW; omega
  have e2 : IntKind.u64.wrap n = loW n := by rw [wrapU]; rfl
  have HE := Lib.hid (And.intro e1 e2)
  clear e1 e2
  go_enter Tryz.func37, Tryz.ntmps37
  go_wp2_with fail
  obtain ⟨e1, e2⟩ := HE.out
  rw [e1, e2]
  exact bodyPost_ret (v := .agg #[.int .u64 (hiW n), .int .u64 (loW n)]) (by simp [results, Tryz.results37, go_sem]) rfl ⟨rfl, (Below.refl _ _).alloc (Nat.le_refl _) _⟩

set_option maxRecDepth 100000 in
set_option maxHeartbeats 400000 in
theorem number_any (S : Int) (w : World) (h1 : -170141183460469231731687303715884105728 ≤ S) (h2 : S < 170141183460469231731687303715884105728) :
    Calls Tryz.prog 99 #[.agg #[.int .u64 (hiW S), .int .u64 (loW S)]] w fun e w' => e = .returned (.tuple #[.int .i64 (fitN S), .int .i64 (fitE S)]) ∧ Below w.heap.size w w' := by
  obtain ⟨l1, l2⟩ := loW_bound S
  have e0 : wrap64 (loW S) = sg (loW S) := wrapS _ l1 l2
  have e1 : IntKind.u64.wrap (wrap64 (loW S) / 9223372036854775808) = hiW (sg (loW S)) := by rw [e0, wrapU]; unfold hiW sg; split <;> omega
  have e2 := hi_fits S h1 h2
  have e3 := sg_lo S
  clear h1 h2 l1 l2
  have HE := Lib.hid (And.intro e0 e3)
  by_cases hf : fits S = true
  · have t1 : (hiW S != IntKind.u64.wrap (wrap64 (loW S) / 9223372036854775808)) = false := by rw [e1, bne, e2, hf]; rfl
    have HF := Lib.hid hf
    clear e0 e1 e2 e3 hf
    go_enter Tryz.func99, Tryz.ntmps99
    go_wp2_with fail
    obtain ⟨e0, e3⟩ := HE.out
    rw [e0, e3 HF.out]
    go_ret2
    exact ⟨by unfold fitN fitE; rw [HF.out]; rfl, (Below.refl _ _).alloc (Nat.le_refl _) _⟩
  · have hf : fits S = false := by simpa using hf
    have t1 : (hiW S != IntKind.u64.wrap (wrap64 (loW S) / 9223372036854775808)) = true := by rw [e1, bne, e2, hf]; rfl
    have HF := Lib.hid hf
    clear e0 e1 e2 e3 hf
    go_enter Tryz.func99, Tryz.ntmps99
    go_wp2_with fail
    go_ret2
    exact ⟨by unfold fitN fitE; rw [HF.out]; rfl, (Below.refl _ _).alloc (Nat.le_refl _) _⟩

end Go.Proofs.YtenjlhlighkenaaGreat
namespace Go.Proofs.YtenjlhlighkenaaGreat
open Go Go.RowKit

set_option maxRecDepth 100000 in
set_option maxHeartbeats 1600000 in
theorem add_line (S T : Int) (g : Nat) (t : TypeId) (rest : List Value) (w : World) (h : Own w g t (.int .u64 (hiW S) :: .int .u64 (loW S) :: rest)) :
    Calls Tryz.prog 98 #[.pointer (some ⟨g, 0, none⟩), .agg #[.int .u64 (hiW T), .int .u64 (loW T)]] w fun e w' => e = .returned (.tuple #[]) ∧ Own w' g t (.int .u64 (hiW (S + T)) :: .int .u64 (loW (S + T)) :: rest) ∧ ∀ B, B ≤ g → Below B w w' := by
  have c0 := h.at_ 0
  have c1 := h.at_ 1
  have f1 := h.open_ 1
  have f0 := h.open_ 0
  have hg := h.inside
  simp only [List.getElem?_cons_zero, List.getElem?_cons_succ] at c0 c1
  obtain ⟨a1, a2⟩ := loW_bound S
  obtain ⟨b1, b2⟩ := loW_bound T
  obtain ⟨a3, a4⟩ := hiW_bound S
  obtain ⟨b3, b4⟩ := hiW_bound T
  have k1 := add64 (loW S) (loW T) 0 a1 b1 (by omega) (by omega)
  have k2 := add64 (hiW S) (hiW T) ((loW S + loW T) / 18446744073709551616) a3 b3 (by omega) (by omega)
  clear a1 a2 b1 b2 a3 a4 b3 b4
  go_enter Tryz.func98, Tryz.ntmps98
  go_wp2_with fail
  go_region_with (simp only [k1])
  all_goals
    go_wp2_with fail
    go_region_with (simp only [k2])
  all_goals
    go_wp2_with fail
    rw [lo_add, hi_add]
    exact bodyPost_end (results_none rfl _ _ _) rfl ⟨rfl, own_of ((((h.set_ 1 _).set_ 0 _).more _).draws 2) rfl, fun B hB => ((((Below.refl B w).setCell hB _).setCell hB _).alloc (by simp; omega) _).drew.drew⟩
end Go.Proofs.YtenjlhlighkenaaGreat
