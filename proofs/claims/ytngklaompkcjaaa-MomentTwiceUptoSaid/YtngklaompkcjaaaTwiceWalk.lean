/- The walk of the law on bounds of some, and of others. -/
import Derived.Test.YtngklaompkcjaaaLatticeWalk
import Derived.Test.YtngklaompkcjaaaAppendTm
namespace Go.Proofs.Ytngklaompkcjaaa
open Go Go.RowKit

theorem lub_le' (l : List Tm) (s : Tm) : (lub l).le s = l.all (·.le s) := by
  by_cases h : l = []
  · subst h; simp [lub, Tm.le]
  · exact lub_le h s
theorem lub_append (a b : List Tm) : lub (a ++ b) = lub [lub a, lub b] := by
  have key : ∀ s : Tm, (lub (a ++ b)).le s = (lub [lub a, lub b]).le s := by
    intro s
    rw [lub_le', lub_le', List.all_append, ← lub_le', ← lub_le']
    simp
  exact le_anti (by rw [key]; exact le_refl' _) (by rw [← key]; exact le_refl' _)
theorem glb_append (a b : List Tm) (ha : a ≠ []) (hb : b ≠ []) : glb (a ++ b) = glb [glb a, glb b] := by
  have key : ∀ s : Tm, s.le (glb (a ++ b)) = s.le (glb [glb a, glb b]) := by
    intro s
    rw [le_glb (by simp [ha]), le_glb (by simp), List.all_append, ← le_glb ha, ← le_glb hb]
    simp
  exact le_anti (by rw [← key]; exact le_refl' _) (by rw [key]; exact le_refl' _)

set_option maxRecDepth 100000 in
set_option maxHeartbeats 3200000 in
theorem twice_walk (A : Option Addr) (c : Nat) (a : List Tm) (A' : Option Addr) (c' : Nat) (b : List Tm) (w : World) (ha : Times w w.heap.size A a) (hc : a.length ≤ c) (hn : a.length * 24 ≤ 140737488351232) (hm : c ≤ maxLen)
    (hb : Times w w.heap.size A' b) (hc' : b.length ≤ c') (hn' : b.length * 24 ≤ 140737488351232) (hm' : c' ≤ maxLen) (hsum : a.length + b.length ≤ 1048576) :
    Calls Try.prog 10 #[.slice A a.length c, .slice A' b.length c'] w fun e w' => e = .returned (.bool true) ∧ Below w.heap.size w w' := by
  have a1 := fun W h => Lib.hid (lub_any A c a W h hc hm)
  have a2 := fun W h => Lib.hid (lub_any A' c' b W h hc' hm')
  have a3 := fun B k W h hk hm => Lib.hid (lub_any B k (a ++ b) W h hk hm)
  have a4 := fun B W h => Lib.hid (lub_any B 2 [lub a, lub b] W h (by simp) (by unfold maxLen; omega))
  have g1 := fun W h => Lib.hid (glb_any A c a W h hc hm)
  have g2 := fun W h => Lib.hid (glb_any A' c' b W h hc' hm')
  have g3 := fun B k W h hk hm => Lib.hid (glb_any B k (a ++ b) W h hk hm)
  have g4 := fun B W h => Lib.hid (glb_any B 2 [glb a, glb b] W h (by simp) (by unfold maxLen; omega))
  rw [← lub_append] at a4
  have hga : a ≠ [] → b ≠ [] → glb [glb a, glb b] = glb (a ++ b) := fun h k => (glb_append a b h k).symm
  have hgd := fun (x1 y1 : Operand) (xs ys : Array Value) (w : World) => grd_time .eql x1 y1 xs ys w
  have q1 := fun (x : Tm) W => eql_time x x W
  have eself : ∀ t : Tm, eqT t t = true := fun t => eqT_iff.2 rfl
  simp only [eself] at q1
  clear eself
  have hlen : (a ++ b).length = a.length + b.length := List.length_append
  have t2 := fun w N (hN : w.heap.size = N) => times_two' (w := w) (N := N) (lub a) (lub b) hN
  have s2 := fun w N (hN : w.heap.size = N) => times_two' (w := w) (N := N) (glb a) (glb b) hN
  generalize lub a = ua at *
  generalize lub b = ub at *
  generalize lub (a ++ b) = u at *
  unfold Tm.val at *
  have Hl := Lib.hid (And.intro ha hb)
  clear ha hb
  have Hlen := Lib.hid hlen
  clear hlen
  go_enter Try.func10, Try.ntmps10
  go_wp2_with fail
  refine (bounds_true _).mono ?_
  rintro e w1 ⟨rfl, b1⟩
  have HT := Lib.hid (And.intro (times_keep Hl.out.1 b1) (times_keep Hl.out.2 b1))
  have H1 := Lib.hid b1
  clear b1
  have hnews := HT.out.1.past ((Below.refl _ _).alloc (Nat.le_refl _) (.cells #[] 25)) (Nat.le_refl _)
  have h0 := World.ownsRow_made (base := w1.heap.size) (e := 25) (size := 3) w1 #[] 0 (Nat.le_refl _) (Nat.zero_le _) rfl
  have HN := Lib.hid (And.intro hnews h0)
  clear hnews h0
  go_wp2_with (at_builtin; refine wpList_append_tm _ rfl (.tmp 8) (.tmp 9) rfl w1.heap.size _ 0 [] rfl HN.out.2 w1.heap.size A c a rfl HN.out.1 ?c1 ?c2 ?_)
  case c1 => omega
  case c2 => simp
  intro v1 w2 ho1 hb1
  have hw2 : Below w1.heap.size w1 w2 := ((Below.refl _ _).alloc (Nat.le_refl _) _).trans hb1
  have H2 := Lib.hid (And.intro hw2 (And.intro ho1 (HT.out.2.past hw2 (Nat.le_refl _))))
  clear ho1 hb1 hw2
  go_wp2_with (at_builtin; refine wpList_append_tm _ rfl (.tmp 10) (.tmp 11) rfl w1.heap.size _ _ _ rfl H2.out.2.1 w1.heap.size A' c' b rfl H2.out.2.2 ?c1 ?c2 ?_)
  case c1 => omega
  case c2 => exact H2.out.1.size
  intro v2 w3 ho2 hb2
  have hw3 : Below w1.heap.size w1 w3 := H2.out.1.trans hb2
  rw [← List.flatMap_append] at ho2
  obtain ⟨Ax, cx, rfl, hcx, hcmx, htx⟩ := times_of_own Hlen.out.symm ho2
  rw [Hlen.out]
  have Hx := Lib.hid (And.intro hcx (And.intro hcmx htx))
  have H3 := Lib.hid (And.intro (H1.out.trans (hw3.mono H1.out.size)) (And.intro (times_keep HT.out.1 hw3) (times_keep HT.out.2 hw3)))
  clear ho2 hb2 hw3 hcx hcmx htx H2 HN HT H1
  simp only [Hlen.out] at a3 g3
  have A3 := fun W h => (a3 Ax cx W h (Hlen.out ▸ Hx.out.1) Hx.out.2.1)
  have G3 := fun W h => (g3 Ax cx W h (Hlen.out ▸ Hx.out.1) Hx.out.2.1)
  clear a3 g3
  by_cases ha0 : a.length = 0
  · have h15 : ((a.length : Int) == 0) = true := by rw [beq_iff_eq]; omega
    clear ha0 hga g1 g2 g4 G3 s2
    go_wp2_with fail
    refine (A3 _ Hx.out.2.2).out.mono ?_
    rintro e x1 ⟨rfl, b1⟩
    go_wp2_with fail
    refine (a1 _ (times_keep H3.out.2.1 b1)).out.mono ?_
    rintro e x2 ⟨rfl, b2⟩
    go_wp2_with fail
    refine (a2 _ (times_keep H3.out.2.2 (belows b1 b2))).out.mono ?_
    rintro e x3 ⟨rfl, b3⟩
    go_wp2_with fail
    refine (a4 _ _ (times_here (t2 _ _ rfl) (by simp))).out.mono ?_
    rintro e x4 ⟨rfl, b4⟩
    go_wp2_with fail
    go_ret
    exact ⟨rfl, H3.out.1.trans ((belows b1 (belows b2 (belows b3 (below_then ((Below.refl _ _).alloc (Nat.le_refl _) _) (by simp) b4)))).mono H3.out.1.size)⟩
  · have h15 : ((a.length : Int) == 0) = false := by rw [beq_eq_false_iff_ne]; omega
    by_cases hb0 : b.length = 0
    · have h19 : ((b.length : Int) == 0) = true := by rw [beq_iff_eq]; omega
      clear ha0 hb0 hga g1 g2 g4 G3 s2
      go_wp2_with fail
      refine (A3 _ Hx.out.2.2).out.mono ?_
      rintro e x1 ⟨rfl, b1⟩
      go_wp2_with fail
      refine (a1 _ (times_keep H3.out.2.1 b1)).out.mono ?_
      rintro e x2 ⟨rfl, b2⟩
      go_wp2_with fail
      refine (a2 _ (times_keep H3.out.2.2 (belows b1 b2))).out.mono ?_
      rintro e x3 ⟨rfl, b3⟩
      go_wp2_with fail
      refine (a4 _ _ (times_here (t2 _ _ rfl) (by simp))).out.mono ?_
      rintro e x4 ⟨rfl, b4⟩
      go_wp2_with fail
      go_ret
      exact ⟨rfl, H3.out.1.trans ((belows b1 (belows b2 (belows b3 (below_then ((Below.refl _ _).alloc (Nat.le_refl _) _) (by simp) b4)))).mono H3.out.1.size)⟩
    · have h19 : ((b.length : Int) == 0) = false := by rw [beq_eq_false_iff_ne]; omega
      have hgg := hga (fun h => ha0 (by rw [h]; rfl)) (fun h => hb0 (by rw [h]; rfl))
      rw [hgg] at g4
      generalize glb a = ga at *
      generalize glb b = gb at *
      generalize glb (a ++ b) = gu at *
      clear ha0 hb0 hga hgg
      go_wp2_with fail
      refine (A3 _ Hx.out.2.2).out.mono ?_
      rintro e x1 ⟨rfl, b1⟩
      go_wp2_with fail
      refine (a1 _ (times_keep H3.out.2.1 b1)).out.mono ?_
      rintro e x2 ⟨rfl, b2⟩
      go_wp2_with fail
      refine (a2 _ (times_keep H3.out.2.2 (belows b1 b2))).out.mono ?_
      rintro e x3 ⟨rfl, b3⟩
      go_wp2_with fail
      refine (a4 _ _ (times_here (t2 _ _ rfl) (by simp))).out.mono ?_
      rintro e x4 ⟨rfl, b4⟩
      go_wp2_with fail
      have K := Lib.hid (belows b1 (belows b2 (belows b3 (below_then ((Below.refl _ _).alloc (Nat.le_refl _) _) (by simp) b4))))
      clear b1 b2 b3 b4
      have HT4 := Lib.hid (And.intro (times_keep Hx.out.2.2 K.out) (And.intro (times_keep H3.out.2.1 K.out) (times_keep H3.out.2.2 K.out)))
      refine (G3 _ HT4.out.1).out.mono ?_
      rintro e y1 ⟨rfl, g1'⟩
      go_wp2_with fail
      refine (g1 _ (times_keep HT4.out.2.1 g1')).out.mono ?_
      rintro e y2 ⟨rfl, g2'⟩
      go_wp2_with fail
      refine (g2 _ (times_keep HT4.out.2.2 (belows g1' g2'))).out.mono ?_
      rintro e y3 ⟨rfl, g3'⟩
      go_wp2_with fail
      refine (g4 _ _ (times_here (s2 _ _ rfl) (by simp))).out.mono ?_
      rintro e y4 ⟨rfl, g4'⟩
      go_wp2_with fail
      go_ret
      exact ⟨rfl, H3.out.1.trans ((K.out.trans ((belows g1' (belows g2' (belows g3' (below_then ((Below.refl _ _).alloc (Nat.le_refl _) _) (by simp) g4')))).mono K.out.size)).mono H3.out.1.size)⟩
end Go.Proofs.Ytngklaompkcjaaa
