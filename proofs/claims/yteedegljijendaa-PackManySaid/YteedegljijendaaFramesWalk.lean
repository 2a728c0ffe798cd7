/- The walk of the law on frames. -/
import Derived.Test.YteedegljijendaaTakeFrame
namespace Go.Proofs.Yteedegljijendaa
open Go.RowKit

theorem frm_a : frm [97] = ([1, 97, 48, 67, 208, 193], 0) := by
  rw [frm_fits (by simp)]
  unfold txt
  rw [show ([97] : List UInt8).length = 1 from rfl, enc_1, show sealS [97] = [48, 67, 208, 193] by decide +kernel]
  rfl
theorem tf_a : tf (tt (tc 0 0 [1, 97, 48, 67, 208, 193, 98])) = ([97], [98], 0) := by
  rw [show tt (tc 0 0 [1, 97, 48, 67, 208, 193, 98]) = ([97], [48, 67, 208, 193, 98], 0) by decide +kernel]
  exact tf_good (by decide) (by decide +kernel)

set_option maxRecDepth 100000 in
set_option maxHeartbeats 400000 in
theorem frames_true (w : World) : Calls Try.prog 33 #[] w fun e w' => e = .returned (.bool true) ∧ Below w.heap.size w w' := by
  have c1 := fun w => Lib.hid (frame_any ⟨#[97]⟩ w (by unfold maxLen; decide))
  rw [show (⟨#[97]⟩ : ByteArray).data.toList = [97] from rfl, frm_a] at c1
  have c2 := fun w => Lib.hid (takeFrame_any ⟨#[1, 97, 48, 67, 208, 193, 98]⟩ w (by unfold maxLen; decide))
  rw [show (⟨#[1, 97, 48, 67, 208, 193, 98]⟩ : ByteArray).data.toList = [1, 97, 48, 67, 208, 193, 98] from rfl, tf_a] at c2
  have e1 : (⟨#[1, 97, 48, 67, 208, 193]⟩ : ByteArray) ++ ⟨#[98]⟩ = ⟨#[1, 97, 48, 67, 208, 193, 98]⟩ := by decide
  go_enter Try.func33, Try.ntmps33
  go_wp2_with fail
  refine (c1 _).out.mono ?_
  rintro e w1 ⟨rfl, h1⟩
  unfold pairS
  go_wp2_with fail
  refine (c2 _).out.mono ?_
  rintro e w2 ⟨rfl, h2⟩
  unfold tripleS
  go_wp2_with fail
  go_ret
  exact ⟨rfl, h1.trans (h2.mono h1.size)⟩

set_option maxRecDepth 100000 in
set_option maxHeartbeats 400000 in
theorem frames_walk (p s : ByteArray) (w : World) (hp : p.size ≤ maxLen) (hs : s.size ≤ maxLen) :
    Calls Try.prog 7 #[.string p, .string s] w fun e w' => e = .returned (.bool true) ∧ Below w.heap.size w w' := by
  have c1 := fun w => Lib.hid (frame_any p w hp)
  have c2 := fun w => Lib.hid (refFrame_any p w hp)
  have c3 := fun w => Lib.hid (takeFrame_any s w hs)
  have c4 := fun w => Lib.hid (refTakeFrame_any s w hs)
  generalize frm p.data.toList = q at c1 c2
  generalize tf (tt (tc 0 0 s.data.toList)) = r at c3 c4
  obtain ⟨a, b⟩ := q
  obtain ⟨c, d, g⟩ := r
  go_enter Try.func7, Try.ntmps7
  go_wp2_with fail
  refine (c1 _).out.mono ?_
  rintro e w1 ⟨rfl, h1⟩
  unfold pairS
  go_wp2_with fail
  refine (c2 _).out.mono ?_
  rintro e w2 ⟨rfl, h2⟩
  unfold pairS
  go_wp2_with fail
  refine (c3 _).out.mono ?_
  rintro e w3 ⟨rfl, h3⟩
  unfold tripleS
  go_wp2_with fail
  refine (c4 _).out.mono ?_
  rintro e w4 ⟨rfl, h4⟩
  unfold tripleS
  go_wp2_with fail
  refine (frames_true _).mono ?_
  rintro e w5 ⟨rfl, h5⟩
  go_wp2_with fail
  go_ret
  have k4 := h4.trans (h5.mono h4.size)
  have k3 := h3.trans (k4.mono h3.size)
  have k2 := h2.trans (k3.mono h2.size)
  exact ⟨rfl, h1.trans (k2.mono h1.size)⟩
end Go.Proofs.Yteedegljijendaa
