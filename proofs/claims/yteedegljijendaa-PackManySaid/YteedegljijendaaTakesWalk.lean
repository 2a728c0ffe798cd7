/- The walks of the laws on taking counts, numbers and texts. -/
import Derived.Test.YteedegljijendaaTakeMore
import Derived.Test.YteedegljijendaaNumber
namespace Go.Proofs.Yteedegljijendaa
open Go.RowKit

set_option maxRecDepth 100000 in
set_option maxHeartbeats 400000 in
theorem takes_walk (s : ByteArray) (w : World) (hs : s.size ≤ maxLen) :
    Calls Try.prog 5 #[.string s] w fun e w' => e = .returned (.bool true) ∧ Below w.heap.size w w' := by
  have c1 := fun w => Lib.hid (takeCount_any s w hs)
  have c2 := fun w => Lib.hid (refTakeCount_any s w hs)
  have c3 := fun w => Lib.hid (takeNumber_any s w hs)
  have c4 := fun w => Lib.hid (refTakeNumber_any s w hs)
  generalize tc 0 0 s.data.toList = r at c1 c2 c3 c4
  generalize tn r = q at c3 c4
  obtain ⟨a, b, c⟩ := r
  obtain ⟨d, f, g⟩ := q
  go_enter Try.func5, Try.ntmps5
  go_wp2_with fail
  refine (c1 _).out.mono ?_
  rintro e w1 ⟨rfl, h1⟩
  unfold triple
  go_wp2_with fail
  refine (c2 _).out.mono ?_
  rintro e w2 ⟨rfl, h2⟩
  unfold triple
  go_wp2_with fail
  refine (c3 _).out.mono ?_
  rintro e w3 ⟨rfl, h3⟩
  unfold tripleI
  go_wp2_with fail
  refine (c4 _).out.mono ?_
  rintro e w4 ⟨rfl, h4⟩
  unfold tripleI
  go_wp2_with fail
  refine (counts_true _).mono ?_
  rintro e w5 ⟨rfl, h5⟩
  go_wp2_with fail
  go_ret
  have k4 := h4.trans (h5.mono h4.size)
  have k3 := h3.trans (k4.mono h3.size)
  have k2 := h2.trans (k3.mono h2.size)
  exact ⟨rfl, h1.trans (k2.mono h1.size)⟩

theorem tt_x : tt (tc 0 0 [1, 120, 121]) = ([120], [121], 0) := by decide +kernel

set_option maxRecDepth 100000 in
set_option maxHeartbeats 400000 in
theorem texts_walk (s : ByteArray) (w : World) (hs : s.size ≤ maxLen) :
    Calls Try.prog 6 #[.string s] w fun e w' => e = .returned (.bool true) ∧ Below w.heap.size w w' := by
  have c1 := fun w => Lib.hid (takeText_any s w hs)
  have c2 := fun w => Lib.hid (refTakeText_any s w hs)
  have c3 := fun w => Lib.hid (takeText_any ⟨#[1, 120, 121]⟩ w (by unfold maxLen; decide))
  rw [show (⟨#[1, 120, 121]⟩ : ByteArray).data.toList = [1, 120, 121] from rfl, tt_x] at c3
  generalize tt (tc 0 0 s.data.toList) = r at c1 c2
  obtain ⟨a, b, c⟩ := r
  go_enter Try.func6, Try.ntmps6
  go_wp2_with fail
  refine (c1 _).out.mono ?_
  rintro e w1 ⟨rfl, h1⟩
  unfold tripleS
  go_wp2_with fail
  refine (c2 _).out.mono ?_
  rintro e w2 ⟨rfl, h2⟩
  unfold tripleS
  go_wp2_with fail
  refine (c3 _).out.mono ?_
  rintro e w3 ⟨rfl, h3⟩
  unfold tripleS
  go_wp2_with fail
  go_ret
  have k2 := h2.trans (h3.mono h2.size)
  exact ⟨rfl, h1.trans (k2.mono h1.size)⟩
end Go.Proofs.Yteedegljijendaa
