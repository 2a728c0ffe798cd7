/- Frames are taken by the program and by the reference as the plain function says. -/
import Derived.Test.YteedegljijendaaFrame
import Derived.Test.YteedegljijendaaTakeMore
import Derived.Deep.RegionWith
namespace Go.Proofs.Yteedegljijendaa
open Go.RowKit

/-- a frame taken: of a text taken -/
def tf (r : List UInt8 × List UInt8 × Int) : List UInt8 × List UInt8 × Int :=
  if r.2.2 = 0 then (if r.2.1.length < 4 then ([], [], 3) else if r.2.1.take 4 = sealS r.1 then (r.1, r.2.1.drop 4, 0) else ([], [], 4)) else ([], [], r.2.2)
theorem tf_no {a b : List UInt8} {y : Int} (h : y ≠ 0) : tf (a, b, y) = ([], [], y) := by simp [tf, h]
theorem tf_short {a b : List UInt8} (h : b.length < 4) : tf (a, b, 0) = ([], [], 3) := by simp [tf, h]
theorem tf_bad {a b : List UInt8} (h : ¬ b.length < 4) (h2 : ¬ b.take 4 = sealS a) : tf (a, b, 0) = ([], [], 4) := by simp [tf, h, h2]
theorem tf_good {a b : List UInt8} (h : ¬ b.length < 4) (h2 : b.take 4 = sealS a) : tf (a, b, 0) = (a, b.drop 4, 0) := by simp [tf, h, h2]

theorem tt_ok (l : List UInt8) : (tt (tc 0 0 l)).1.length ≤ l.length ∧ (tt (tc 0 0 l)).2.1.length ≤ l.length := by
  have hb := tc_ok l 0 0 (by omega) (by omega)
  generalize tc 0 0 l = r at hb
  obtain ⟨m, k, y⟩ := r
  obtain ⟨_, hy⟩ := hb
  simp only at hy
  rcases hy with ⟨rfl, h⟩ | h | h
  · by_cases h1 : 65536 < m
    · rw [tt_long h1]; simp
    · by_cases h2 : k.length < m
      · rw [tt_short h1 h2]; simp
      · rw [tt_fits h1 h2]; simp; omega
  all_goals
    obtain ⟨rfl, rfl, rfl⟩ : m = 0 ∧ k = [] ∧ y = _ := by simpa using h
    simp [tt]

theorem ext4 (b : List UInt8) : ((⟨b.toArray⟩ : ByteArray).extract 0 4).toList = b.take 4 := by
  rw [extract_upto, ByteArray.toList_eq]

set_option maxRecDepth 100000 in
set_option maxHeartbeats 400000 in
theorem takeFrame_any (s : ByteArray) (w : World) (hs : s.size ≤ maxLen) :
    Calls Try.prog 31 #[.string s] w fun e w' => e = .returned (tripleS (tf (tt (tc 0 0 s.data.toList)))) ∧ Below w.heap.size w w' := by
  have hb := tt_ok s.data.toList
  have H := Lib.hid (takeText_any s w hs)
  rw [len_of] at hb
  generalize tt (tc 0 0 s.data.toList) = r at hb H
  obtain ⟨a, b, y⟩ := r
  simp only at hb
  obtain ⟨ha, hb⟩ := hb
  have hms := hs
  unfold maxLen at hs
  have za := sizeL a
  have zb := sizeL b
  by_cases hy : y = 0
  · subst hy
    by_cases h4 : b.length < 4
    · rw [tf_short h4]
      go_enter Try.func31, Try.ntmps31
      go_wp2_with fail
      refine H.out.mono ?_
      rintro e w1 ⟨rfl, h1⟩
      unfold tripleS
      go_wp2_with fail
      go_ret3
      exact ⟨rfl, h1⟩
    · by_cases h5 : b.take 4 = sealS a
      · rw [tf_good h4 h5]
        have heq : (((⟨b.toArray⟩ : ByteArray).extract 0 4).toList == sealS a) = true := by rw [ext4, h5]; simp
        have heq2 : (((⟨b.toArray⟩ : ByteArray).extract 0 4).toList == le4 (sumS a)) = true := heq
        have H5 := Lib.hid h5; clear h5
        go_enter Try.func31, Try.ntmps31
        go_wp2_with fail
        refine H.out.mono ?_
        rintro e w1 ⟨rfl, h1⟩
        unfold tripleS
        go_wp2_with fail
        go_region_with (go_at_call 37; refine (seal_any _ _ (by omega)).mono ?_; rintro e w2 ⟨rfl, h2⟩)
        go_wp2_with fail
        go_quiet (fail)
        go_wp2
        go_ret3
        refine ⟨?_, below_draws (((h1.drew).trans (h2.mono h1.size))) _⟩
        show Ending.returned (.tuple #[.string ⟨a.toArray⟩, .string ((⟨b.toArray⟩ : ByteArray).extract 4 (⟨b.toArray⟩ : ByteArray).size), _]) = _
        rw [extract_from]
        rfl
      · rw [tf_bad h4 h5]
        have heq : (((⟨b.toArray⟩ : ByteArray).extract 0 4).toList == sealS a) = false := by rw [ext4]; simpa using h5
        have heq2 : (((⟨b.toArray⟩ : ByteArray).extract 0 4).toList == le4 (sumS a)) = false := heq
        have H5 := Lib.hid h5; clear h5
        go_enter Try.func31, Try.ntmps31
        go_wp2_with fail
        refine H.out.mono ?_
        rintro e w1 ⟨rfl, h1⟩
        unfold tripleS
        go_wp2_with fail
        go_region_with (go_at_call 37; refine (seal_any _ _ (by omega)).mono ?_; rintro e w2 ⟨rfl, h2⟩)
        go_wp2_with fail
        go_ret3
        exact ⟨rfl, ((h1.drew).trans (h2.mono h1.size))⟩
  · rw [tf_no hy]
    have hy1 : (y == 0) = false := by simpa using hy
    have hy2 : (y != 0) = true := by simpa using hy
    go_enter Try.func31, Try.ntmps31
    go_wp2_with fail
    refine H.out.mono ?_
    rintro e w1 ⟨rfl, h1⟩
    unfold tripleS
    go_wp2_with fail
    go_ret3
    exact ⟨rfl, h1⟩

set_option maxRecDepth 100000 in
set_option maxHeartbeats 400000 in
theorem refTakeFrame_any (s : ByteArray) (w : World) (hs : s.size ≤ maxLen) :
    Calls Try.prog 32 #[.string s] w fun e w' => e = .returned (tripleS (tf (tt (tc 0 0 s.data.toList)))) ∧ Below w.heap.size w w' := by
  have hb := tt_ok s.data.toList
  have H := Lib.hid (refTakeText_any s w hs)
  rw [len_of] at hb
  generalize tt (tc 0 0 s.data.toList) = r at hb H
  obtain ⟨a, b, y⟩ := r
  simp only at hb
  obtain ⟨ha, hb⟩ := hb
  have hms := hs
  unfold maxLen at hs
  have za := sizeL a
  have zb := sizeL b
  by_cases hy : y = 0
  · subst hy
    by_cases h4 : b.length < 4
    · rw [tf_short h4]
      go_enter Try.func32, Try.ntmps32
      go_wp2_with fail
      refine H.out.mono ?_
      rintro e w1 ⟨rfl, h1⟩
      unfold tripleS
      go_wp2_with fail
      go_ret3
      exact ⟨rfl, h1⟩
    · by_cases h5 : b.take 4 = sealS a
      · rw [tf_good h4 h5]
        have heq : (((⟨b.toArray⟩ : ByteArray).extract 0 4).toList == sealS a) = true := by rw [ext4, h5]; simp
        have heq2 : (((⟨b.toArray⟩ : ByteArray).extract 0 4).toList == le4 (sumS a)) = true := heq
        have H5 := Lib.hid h5; clear h5
        go_enter Try.func32, Try.ntmps32
        go_wp2_with fail
        refine H.out.mono ?_
        rintro e w1 ⟨rfl, h1⟩
        unfold tripleS
        go_wp2_with fail
        go_region_with (first | (go_at_call 15; refine (refSum_any _ _ (by omega)).mono ?_; rintro e w2 ⟨rfl, rfl⟩) | (go_at_call 38; refine (four_any _ _ (sumS_lt _)).mono ?_; rintro e w3 ⟨rfl, h2⟩))
        go_wp2_with fail
        go_quiet (fail)
        go_wp2
        go_ret3
        refine ⟨?_, below_draws (((h1.drew).trans (h2.mono h1.size))) _⟩
        show Ending.returned (.tuple #[.string ⟨a.toArray⟩, .string ((⟨b.toArray⟩ : ByteArray).extract 4 (⟨b.toArray⟩ : ByteArray).size), _]) = _
        rw [extract_from]
        rfl
      · rw [tf_bad h4 h5]
        have heq : (((⟨b.toArray⟩ : ByteArray).extract 0 4).toList == sealS a) = false := by rw [ext4]; simpa using h5
        have heq2 : (((⟨b.toArray⟩ : ByteArray).extract 0 4).toList == le4 (sumS a)) = false := heq
        have H5 := Lib.hid h5; clear h5
        go_enter Try.func32, Try.ntmps32
        go_wp2_with fail
        refine H.out.mono ?_
        rintro e w1 ⟨rfl, h1⟩
        unfold tripleS
        go_wp2_with fail
        go_region_with (first | (go_at_call 15; refine (refSum_any _ _ (by omega)).mono ?_; rintro e w2 ⟨rfl, rfl⟩) | (go_at_call 38; refine (four_any _ _ (sumS_lt _)).mono ?_; rintro e w3 ⟨rfl, h2⟩))
        go_wp2_with fail
        go_ret3
        exact ⟨rfl, ((h1.drew).trans (h2.mono h1.size))⟩
  · rw [tf_no hy]
    have hy1 : (y == 0) = false := by simpa using hy
    have hy2 : (y != 0) = true := by simpa using hy
    go_enter Try.func32, Try.ntmps32
    go_wp2_with fail
    refine H.out.mono ?_
    rintro e w1 ⟨rfl, h1⟩
    unfold tripleS
    go_wp2_with fail
    go_ret3
    exact ⟨rfl, h1⟩
end Go.Proofs.Yteedegljijendaa
