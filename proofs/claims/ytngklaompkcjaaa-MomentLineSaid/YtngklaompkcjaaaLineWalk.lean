/- The walk of the law on the line of times. -/
import Derived.Test.YtngklaompkcjaaaQuiet
import Derived.Test.YtngklaompkcjaaaFartherWalk
namespace Go.Proofs.Ytngklaompkcjaaa
open Go Go.RowKit

theorem cmp_self (a : Tm) : a.cmp a = 0 := by unfold Tm.cmp Tm.cmpN; repeat' split
                                              all_goals omega
theorem line_cases (a b : Tm) : a = b ∨ (a.cmp b = -1 ∧ b.cmp a = 1 ∧ b.le a = false ∧ eqT a b = false) ∨ (a.cmp b = 1 ∧ b.cmp a = -1 ∧ a.le b = false ∧ eqT a b = false) := by
  obtain ⟨x, y, z⟩ := a
  obtain ⟨e, f, g⟩ := b
  have hE : ∀ {p : Bool}, (¬ p = true) → p = false := fun h => by simpa using h
  by_cases h0 : x = e ∧ y = f ∧ z = g
  · left; simp [h0]
  · right
    have hne : eqT ⟨x, y, z⟩ ⟨e, f, g⟩ = false := hE (by rw [eqT_iff]; simp; omega)
    rcases (by omega : (x < e ∨ x = e ∧ (y < f ∨ y = f ∧ z < g)) ∨ (e < x ∨ x = e ∧ (f < y ∨ y = f ∧ g < z))) with h | h
    · left
      refine ⟨?_, ?_, hE (by rw [Tm.le_iff]; simp; omega), hne⟩ <;> (unfold Tm.cmp Tm.cmpN; dsimp only; repeat' split) <;> omega
    · right
      refine ⟨?_, ?_, hE (by rw [Tm.le_iff]; simp; omega), hne⟩ <;> (unfold Tm.cmp Tm.cmpN; dsimp only; repeat' split) <;> omega

set_option maxRecDepth 100000 in
set_option maxHeartbeats 6400000 in
theorem line_walk (a b c : Tm) (w : World) :
    Calls Try.prog 6 #[a.val, b.val, c.val] w fun e w' => e = .returned (.bool true) ∧ Below w.heap.size w w' := by
  have a1 := fun W => Lib.hid (ahead_any a b W)
  have a2 := fun W => Lib.hid (ahead_any b a W)
  have a3 := fun W => Lib.hid (compare_any a b W)
  have a4 := fun W => Lib.hid (compare_any b a W)
  have a5 := fun W => Lib.hid (ahead_any a a W)
  have a6 := fun W => Lib.hid (ahead_any b c W)
  have a7 := fun W => Lib.hid (ahead_any a c W)
  have q1 := fun W => eql_time a b W
  have q2 := fun W => neq_time a b W
  have hgd := fun (op : BinOp) (x1 y1 : Operand) (xs ys : Array Value) (w : World) => grd_time op x1 y1 xs ys w
  have hcase : (a.le b = true ∧ b.le a = true ∧ a.cmp b = 0 ∧ b.cmp a = 0 ∧ eqT a b = true) ∨ (a.le b = true ∧ b.le a = false ∧ a.cmp b = -1 ∧ b.cmp a = 1 ∧ eqT a b = false) ∨
      (a.le b = false ∧ b.le a = false ∧ a.cmp b = -1 ∧ b.cmp a = 1 ∧ eqT a b = false) ∨ (a.le b = false ∧ b.le a = b.le a ∧ a.cmp b = 1 ∧ b.cmp a = -1 ∧ eqT a b = false) := by
    rcases line_cases a b with rfl | ⟨h1, h2, h3, h4⟩ | ⟨h1, h2, h3, h4⟩
    · exact .inl ⟨le_refl' a, le_refl' a, cmp_self a, cmp_self a, eqT_iff.2 rfl⟩
    · cases hp : a.le b with
      | true => exact .inr (.inl ⟨rfl, h3, h1, h2, h4⟩)
      | false => exact .inr (.inr (.inl ⟨rfl, h3, h1, h2, h4⟩))
    · exact .inr (.inr (.inr ⟨h3, rfl, h1, h2, h4⟩))
  have hbc : a.le b = true → b.le c = true → a.le c = true := le_trans'
  rw [le_refl'] at a5
  generalize a.le b = p at *
  generalize b.le a = q at *
  generalize a.cmp b = r at *
  generalize b.cmp a = r' at *
  generalize eqT a b = e at *
  generalize b.le c = bc at *
  generalize a.le c = ac at *
  unfold Tm.val at *
  have core : (p = true ∧ q = true ∧ r = 0 ∧ r' = 0 ∧ e = true ∧ bc = true ∧ ac = true) ∨ (p = true ∧ q = true ∧ r = 0 ∧ r' = 0 ∧ e = true ∧ bc = false ∧ ac = ac) ∨
      (p = true ∧ q = false ∧ r = -1 ∧ r' = 1 ∧ e = false ∧ bc = true ∧ ac = true) ∨ (p = true ∧ q = false ∧ r = -1 ∧ r' = 1 ∧ e = false ∧ bc = false ∧ ac = ac) ∨
      (p = false ∧ q = q ∧ r = -1 ∧ r' = 1 ∧ e = false ∧ bc = bc ∧ ac = ac) ∨ (p = false ∧ q = q ∧ r = 1 ∧ r' = -1 ∧ e = false ∧ bc = bc ∧ ac = ac) := by
    rcases hcase with ⟨rfl, rfl, rfl, rfl, rfl⟩ | ⟨rfl, rfl, rfl, rfl, rfl⟩ | ⟨rfl, rfl, rfl, rfl, rfl⟩ | ⟨rfl, _, rfl, rfl, rfl⟩ <;> cases bc <;> simp_all
  clear hcase hbc
  rcases core with ⟨rfl, rfl, rfl, rfl, rfl, rfl, rfl⟩ | ⟨rfl, rfl, rfl, rfl, rfl, rfl, _⟩ | ⟨rfl, rfl, rfl, rfl, rfl, rfl, rfl⟩ | ⟨rfl, rfl, rfl, rfl, rfl, rfl, _⟩ | ⟨rfl, _, rfl, rfl, rfl, _, _⟩ | ⟨rfl, _, rfl, rfl, rfl, _, _⟩
  all_goals
    go_enter Try.func6, Try.ntmps6
    go_wp2_with fail
    obtain ⟨W, hW, fb, f0, f1, f2⟩ := boxes3 w a b c
    rw [← hW]
    have hB := Lib.hid (And.intro fb (Below.refl W.heap.size W))
    obtain ⟨c0, c1, c2⟩ := past_cells f0
    obtain ⟨c3, c4, c5⟩ := past_cells f1
    obtain ⟨c6, c7, c8⟩ := past_cells f2
    clear hW fb f0 f1 f2
    refine (orders_true _).mono ?_
    rintro e0 w0 ⟨rfl, b0⟩
    have HB0 := Lib.hid b0
    clear b0
    go_wp2_with fail
    refine wp_region_past W (by kernel_rfl) (by kernel_rfl) HB0.out ?_
    repeat (quiet_step ((first | (go_at_call 14; first | with_reducible exact calls_past (a1 _).out | with_reducible exact calls_past (a2 _).out | with_reducible exact calls_past (a5 _).out | with_reducible exact calls_past (a6 _).out | with_reducible exact calls_past (a7 _).out) | (go_at_call 16; first | with_reducible exact calls_past (a3 _).out | with_reducible exact calls_past (a4 _).out))))
    refine wpQuiet_nil ?_
    intro _ hw'
    obtain ⟨⟨w1, hb1⟩, hw''⟩ := hw'
    subst hw''
    go_wp2_with fail
    refine wp_region_past W (by kernel_rfl) (by kernel_rfl) hb1 ?_
    repeat (quiet_step ((first | (go_at_call 14; first | with_reducible exact calls_past (a1 _).out | with_reducible exact calls_past (a2 _).out | with_reducible exact calls_past (a5 _).out | with_reducible exact calls_past (a6 _).out | with_reducible exact calls_past (a7 _).out) | (go_at_call 16; first | with_reducible exact calls_past (a3 _).out | with_reducible exact calls_past (a4 _).out))))
    refine wpQuiet_nil ?_
    intro _ hw'
    obtain ⟨⟨w2, hb2⟩, hw''⟩ := hw'
    subst hw''
    go_wp2_with fail
    go_ret
    exact ⟨rfl, hB.out.1.trans (hb2.mono hB.out.1.size)⟩
end Go.Proofs.Ytngklaompkcjaaa
