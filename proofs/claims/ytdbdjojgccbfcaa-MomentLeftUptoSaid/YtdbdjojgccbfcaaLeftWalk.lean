/- The walk of the law on the frontier of all that two frontiers have. -/
import Derived.Test.YtdbdjojgccbfcaaQuiet
import Derived.Test.YtdbdjojgccbfcaaFrontFacts
import Derived.Test.YtdbdjojgccbfcaaAppendTm
import Derived.Test.YtdbdjojgccbfcaaSame
namespace Go.Proofs.Ytdbdjojgccbfcaa
open Go Go.RowKit

theorem beyond_app (a b : List Tm) (t : Tm) : beyond (a ++ b) t = (beyond a t || beyond b t) := by simp [beyond]
theorem frontL_len (l : List Tm) : (frontL l).length ≤ l.length := Nat.le_trans (frontTo_len (sortT l) (sortT l).length (Nat.le_refl _)) (by rw [sortT_len]; exact Nat.le_refl _)

set_option maxRecDepth 100000 in
set_option maxHeartbeats 6400000 in
theorem left_walk (A : Option Addr) (c : Nat) (a : List Tm) (A' : Option Addr) (c' : Nat) (b : List Tm) (t : Tm) (w : World) (ha : Times w w.heap.size A a) (hc : a.length ≤ c) (hn : a.length * 24 ≤ 140737488351232) (hm : c ≤ maxLen)
    (hb : Times w w.heap.size A' b) (hc' : b.length ≤ c') (hn' : b.length * 24 ≤ 140737488351232) (hm' : c' ≤ maxLen) (hsum : a.length + b.length ≤ 1048576) :
    Calls Try.prog 4 #[.slice A a.length c, .slice A' b.length c', t.val] w fun e w' => e = .returned (.bool true) ∧ Below w.heap.size w w' := by
  have hfe : frontL (frontL a ++ frontL b) = frontL (a ++ b) := front_congr fun u => by rw [beyond_app, beyond_app, (frontL_facts a).2.2, (frontL_facts b).2.2]
  have hall : beyond (frontL (a ++ b)) t = (beyond a t || beyond b t) := by rw [(frontL_facts _).2.2, beyond_app]
  have la := frontL_len a
  have lb := frontL_len b
  have lab := frontL_len (a ++ b)
  rw [List.length_append] at lab
  have f1 := fun W h => Lib.hid (front_any A c a W h hn)
  have f2 := fun W h => Lib.hid (front_any A' c' b W h hn')
  have f3 := fun B k W h => Lib.hid (front_any B k (frontL a ++ frontL b) W h (by rw [List.length_append]; omega))
  have f4 := fun B k W h => Lib.hid (front_any B k (a ++ b) W h (by rw [List.length_append]; omega))
  rw [hfe] at f3
  simp only [List.length_append] at f3 f4
  have s1 := fun A1 A2 k1 k2 W h1 h2 => Lib.hid (same_any A1 A2 k1 k2 (frontL (a ++ b)) (frontL (a ++ b)) W h1 h2 (by unfold maxLen; omega) (by unfold maxLen; omega))
  have hdt : decide (frontL (a ++ b) = frontL (a ++ b)) = true := by simp
  rw [hdt] at s1
  have g1 := fun W h => Lib.hid (beyond_any A c a t W h (by unfold maxLen; omega))
  have g2 := fun W h => Lib.hid (beyond_any A' c' b t W h (by unfold maxLen; omega))
  have g3 := fun B k W h => Lib.hid (beyond_any B k (frontL (a ++ b)) t W h (by unfold maxLen; omega))
  rw [hall] at g3
  have l3 : (frontL a ++ frontL b).length = (frontL a).length + (frontL b).length := List.length_append
  have l4 : (a ++ b).length = a.length + b.length := List.length_append
  generalize beyond a t = p at *
  generalize beyond b t = q at *
  have HL := Lib.hid (And.intro l3 l4)
  clear hfe hall hdt l3 l4
  unfold Tm.val at *
  have Hl := Lib.hid (And.intro ha hb)
  clear ha hb
  generalize hfl : frontL (a ++ b) = fl at *
  go_enter Try.func4, Try.ntmps4
  go_wp2_with fail
  obtain ⟨W, hW, fb, f0⟩ := boxes1 w t
  rw [← hW]
  refine (fronts_true _).mono ?_
  rintro e w1 ⟨rfl, b1⟩
  have fb1 := fb.trans (b1.mono fb.size)
  have H1 := Lib.hid (And.intro fb1 (And.intro (f0.past b1 f0.inside) (And.intro (times_keep Hl.out.1 fb1) (times_keep Hl.out.2 fb1))))
  clear hW fb f0 b1 fb1
  go_wp2_with fail
  refine (f1 _ H1.out.2.2.1).out.mono ?_
  rintro e w2 ⟨v1, rfl, ho1, b2⟩
  have H2 := Lib.hid (And.intro ho1 b2)
  clear ho1 b2
  go_wp2_with fail
  refine (f2 _ (times_keep H1.out.2.2.2 H2.out.2)).out.mono ?_
  rintro e w3 ⟨v2, rfl, ho2, b3⟩
  obtain ⟨A2, c2, rfl, _, _, ht2⟩ := times_of_own rfl ho2
  have hb13 := belows H2.out.2 b3
  have H3 := Lib.hid (And.intro hb13 (And.intro (own_below H2.out.1 b3) ht2))
  clear ho2 b3 ht2 hb13 H2
  go_wp2_with (at_builtin; refine wpList_append_tm _ rfl (.tmp 12) (.tmp 14) rfl w1.heap.size v1 _ _ rfl H3.out.2.1 w3.heap.size A2 c2 (frontL b) rfl H3.out.2.2 ?c1 ?c2 ?_)
  case c1 => omega
  case c2 => exact H3.out.1.size
  intro v3 w4 ho3 hb4
  rw [← List.flatMap_append] at ho3
  obtain ⟨A3, c3, rfl, _, _, ht3⟩ := times_of_own HL.out.1.symm ho3
  have H4 := Lib.hid (And.intro (H3.out.1.trans hb4) ht3)
  clear ho3 hb4 ht3 H3
  go_wp2_with fail
  refine (f3 A3 c3 _ H4.out.2).out.mono ?_
  rintro e w5 ⟨v5, rfl, ho5, b5⟩
  obtain ⟨A5, c5, rfl, _, _, ht5⟩ := times_of_own rfl ho5
  have hb15 := belows H4.out.1 b5
  have H5 := Lib.hid (And.intro hb15 (And.intro ht5 (times_keep H1.out.2.2.1 hb15)))
  clear ho5 b5 ht5 H4 hb15
  have hnews := H5.out.2.2.past ((Below.refl _ _).alloc (Nat.le_refl _) (.cells #[] 26)) (Nat.le_refl _)
  have h0 := World.ownsRow_made (base := w5.heap.size) (e := 26) (size := 3) w5 #[] 0 (Nat.le_refl _) (Nat.zero_le _) rfl
  have HN := Lib.hid (And.intro hnews h0)
  clear hnews h0
  go_wp2_with (at_builtin; refine wpList_append_tm _ rfl (.tmp 17) (.tmp 18) rfl w5.heap.size _ 0 [] rfl HN.out.2 w5.heap.size A c a rfl HN.out.1 ?c1 ?c2 ?_)
  case c1 => omega
  case c2 => simp
  intro v6 w6 ho6 hb6
  have hw6 : Below w5.heap.size w5 w6 := ((Below.refl _ _).alloc (Nat.le_refl _) _).trans hb6
  have H6 := Lib.hid (And.intro hw6 (And.intro ho6 ((times_keep H1.out.2.2.2 (belows H5.out.1 hw6)))))
  clear ho6 hb6 hw6
  go_wp2_with (at_builtin; refine wpList_append_tm _ rfl (.tmp 19) (.tmp 20) rfl w5.heap.size _ _ _ rfl H6.out.2.1 w6.heap.size A' c' b rfl H6.out.2.2 ?c1 ?c2 ?_)
  case c1 => omega
  case c2 => exact H6.out.1.size
  intro v7 w7 ho7 hb7
  have hw7 : Below w5.heap.size w5 w7 := H6.out.1.trans hb7
  rw [← List.flatMap_append] at ho7
  obtain ⟨A7, c7, rfl, _, _, ht7⟩ := times_of_own (by rw [HL.out.2]) ho7
  have H7 := Lib.hid (And.intro hw7 ht7)
  clear ho7 hb7 hw7 ht7 H6 HN
  go_wp2_with fail
  refine (f4 A7 c7 _ H7.out.2).out.mono ?_
  rintro e w8 ⟨v8, rfl, ho8, b8⟩
  try rw [hfl] at ho8
  obtain ⟨A8, c8, rfl, _, _, ht8⟩ := times_of_own rfl ho8
  have hb58 := belows H7.out.1 b8
  have hb18 := belows H5.out.1 hb58
  have HT := Lib.hid (And.intro (times_keep H5.out.2.1 hb58) (And.intro ht8 (And.intro (times_keep H1.out.2.2.1 hb18) (times_keep H1.out.2.2.2 hb18))))
  have HB := Lib.hid (H1.out.1.trans (hb18.mono H1.out.1.size))
  obtain ⟨c0, c1, c2'⟩ := past_cells (H1.out.2.1.past hb18 H1.out.2.1.inside)
  have k1 := fun P : Past w8 => Lib.hid (calls_past (s1 A5 A8 c5 c8 P.w (past_times HT.out.1 P) (past_times HT.out.2.1 P)).out)
  have k2 := fun P : Past w8 => Lib.hid (calls_past (g3 A8 c8 P.w (past_times HT.out.2.1 P)).out)
  have k3 := fun P : Past w8 => Lib.hid (calls_past (g1 P.w (past_times HT.out.2.2.1 P)).out)
  have k4 := fun P : Past w8 => Lib.hid (calls_past (g2 P.w (past_times HT.out.2.2.2 P)).out)
  clear ho8 b8 ht8 hb58 hb18 H1 H5 H7 HT s1 g1 g2 g3 f1 f2 f3 f4
  go_wp2_with fail
  cases p <;> cases q
  all_goals
    refine wp_region_past w8 (by kernel_rfl) (by kernel_rfl) (Below.refl _ _) ?_
    repeat (first | go_big_quiet_step ((first | (go_at_call 6; exact (k1 _).out) | (go_at_call 9; first | with_reducible exact (k2 _).out | with_reducible exact (k3 _).out | with_reducible exact (k4 _).out))) | quiet_step ((first | (go_at_call 6; exact (k1 _).out) | (go_at_call 9; first | with_reducible exact (k2 _).out | with_reducible exact (k3 _).out | with_reducible exact (k4 _).out))))
    refine wpQuiet_nil ?_
    intro _ hw'
    obtain ⟨⟨wz, hbz⟩, hw''⟩ := hw'
    subst hw''
    go_wp2_with fail
    go_ret
    exact ⟨rfl, HB.out.trans (hbz.mono HB.out.size)⟩
end Go.Proofs.Ytdbdjojgccbfcaa
