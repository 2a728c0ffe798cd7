/- The walk of the law 'cut short'. -/
import Derived.Test.YteedegljijendaaBackWalk
namespace Go.Proofs.Yteedegljijendaa
open Go.RowKit

set_option maxRecDepth 100000 in
set_option maxHeartbeats 800000 in
theorem short_walk (n : Int) (t : ByteArray) (a : Int) (w : World) (h0 : 0 ≤ n) (h1 : n ≤ 18446744073709551615) (ht : t.size ≤ maxLen) (a0 : -9223372036854775808 ≤ a) (a1 : a ≤ 9223372036854775807) :
    Calls Try.prog 9 #[.int .u64 n, .string t, .int .i64 a] w fun e w' => e = .returned (.bool true) ∧ Below w.heap.size w w' := by
  have he1 := enc_len10 (n := n.toNat) (by omega)
  have z1 := sizeL (enc n.toNat)
  have c3 := fun w => Lib.hid (frame_any t w ht)
  have hms := ht
  unfold maxLen at ht
  have lt := len_of t
  -- the frame: none, or its bytes
  have hf : (65536 < t.data.toList.length ∧ frm t.data.toList = ([], 2)) ∨ (¬ 65536 < t.data.toList.length ∧ frm t.data.toList = (txt t.data.toList ++ sealS t.data.toList, 0)) := by
    by_cases h : 65536 < t.data.toList.length
    · exact .inl ⟨h, frm_long h⟩
    · exact .inr ⟨h, frm_fits h⟩
  have ht1 := txt_len (l := t.data.toList) (by omega)
  have zs := seal_len t.data.toList
  -- the count cut short
  have cC : ∀ j : Nat, j < (enc n.toNat).length → ∀ w, Hid (Calls Try.prog 23 #[.string ((⟨(enc n.toNat).toArray⟩ : ByteArray).extract 0 j)] w fun e w' => e = .returned (.tuple #[.int .u64 0, .string ⟨#[]⟩, .int .i64 3]) ∧ Below w.heap.size w w') := fun j hj w => by
    have := takeCount_any ((⟨(enc n.toNat).toArray⟩ : ByteArray).extract 0 j) w (by rw [extract_upto, sizeL, List.length_take]; unfold maxLen; simp; omega)
    have hx := extract_upto ⟨(enc n.toNat).toArray⟩ j
    rw [hx] at this ⊢
    simp only at this
    rw [tc_cut n.toNat j (by omega) hj] at this
    exact Lib.hid this
  have cF : ∀ j : Nat, ¬ 65536 < t.data.toList.length → j < (txt t.data.toList ++ sealS t.data.toList).length → ∀ w, Hid (Calls Try.prog 31 #[.string ((⟨(txt t.data.toList ++ sealS t.data.toList).toArray⟩ : ByteArray).extract 0 j)] w fun e w' => e = .returned (.tuple #[.string ⟨#[]⟩, .string ⟨#[]⟩, .int .i64 3]) ∧ Below w.heap.size w w') := fun j hl hj w => by
    have := takeFrame_any ((⟨(txt t.data.toList ++ sealS t.data.toList).toArray⟩ : ByteArray).extract 0 j) w (by rw [extract_upto, sizeL, List.length_take]; unfold maxLen; simp only [List.length_append] at hj ⊢; omega)
    have hx := extract_upto ⟨(txt t.data.toList ++ sealS t.data.toList).toArray⟩ j
    rw [hx] at this ⊢
    simp only at this
    rw [tf_cut _ j hl hj] at this
    exact Lib.hid this
  by_cases ha : 0 ≤ a
  · obtain ⟨j, rfl⟩ := Int.eq_ofNat_of_zero_le ha
    by_cases hj : j < (enc n.toNat).length
    · have C := cC j hj
      rcases hf with ⟨hl, hf⟩ | ⟨hl, hf⟩
      · rw [hf] at c3
        clear hf cC cF
        go_enter Try.func9, Try.ntmps9
        go_wp2_with fail
        refine (counts_true _).mono ?_
        rintro e w1 ⟨rfl, b1⟩
        go_wp2_with fail
        refine (frames_true _).mono ?_
        rintro e w2 ⟨rfl, b2⟩
        go_wp2_with fail
        refine (c3 _).out.mono ?_
        rintro e w3 ⟨rfl, b3⟩
        unfold pairS
        go_wp2_with fail
        refine (count_any n _ h0 h1).mono ?_
        rintro e w4 ⟨rfl, b4⟩
        go_wp2_with fail
        refine (C _).out.mono ?_
        rintro e w5 ⟨rfl, b5⟩
        go_wp2_with fail
        go_ret
        exact ⟨rfl, belows b1 (belows b2 (belows b3 (belows b4 b5)))⟩
      · rw [hf] at c3
        by_cases hk : j < (txt t.data.toList ++ sealS t.data.toList).length
        · have F := cF j hl hk
          rw [List.length_append, zs] at hk
          clear hf cC cF
          go_enter Try.func9, Try.ntmps9
          go_wp2_with fail
          refine (counts_true _).mono ?_
          rintro e w1 ⟨rfl, b1⟩
          go_wp2_with fail
          refine (frames_true _).mono ?_
          rintro e w2 ⟨rfl, b2⟩
          go_wp2_with fail
          refine (c3 _).out.mono ?_
          rintro e w3 ⟨rfl, b3⟩
          unfold pairS
          go_wp2_with fail
          refine (count_any n _ h0 h1).mono ?_
          rintro e w4 ⟨rfl, b4⟩
          go_wp2_with fail
          refine (C _).out.mono ?_
          rintro e w5 ⟨rfl, b5⟩
          go_wp2_with fail
          refine (F _).out.mono ?_
          rintro e w6 ⟨rfl, b6⟩
          go_wp2_with fail
          go_ret
          exact ⟨rfl, belows b1 (belows b2 (belows b3 (belows b4 (belows b5 b6))))⟩
        · rw [List.length_append, zs] at hk
          clear hf cC cF
          go_enter Try.func9, Try.ntmps9
          go_wp2_with fail
          refine (counts_true _).mono ?_
          rintro e w1 ⟨rfl, b1⟩
          go_wp2_with fail
          refine (frames_true _).mono ?_
          rintro e w2 ⟨rfl, b2⟩
          go_wp2_with fail
          refine (c3 _).out.mono ?_
          rintro e w3 ⟨rfl, b3⟩
          unfold pairS
          go_wp2_with fail
          refine (count_any n _ h0 h1).mono ?_
          rintro e w4 ⟨rfl, b4⟩
          go_wp2_with fail
          refine (C _).out.mono ?_
          rintro e w5 ⟨rfl, b5⟩
          go_wp2_with fail
          go_ret
          exact ⟨rfl, belows b1 (belows b2 (belows b3 (belows b4 b5)))⟩
    · rcases hf with ⟨hl, hf⟩ | ⟨hl, hf⟩
      · rw [hf] at c3
        clear hf cC cF
        go_enter Try.func9, Try.ntmps9
        go_wp2_with fail
        refine (counts_true _).mono ?_
        rintro e w1 ⟨rfl, b1⟩
        go_wp2_with fail
        refine (frames_true _).mono ?_
        rintro e w2 ⟨rfl, b2⟩
        go_wp2_with fail
        refine (c3 _).out.mono ?_
        rintro e w3 ⟨rfl, b3⟩
        unfold pairS
        go_wp2_with fail
        refine (count_any n _ h0 h1).mono ?_
        rintro e w4 ⟨rfl, b4⟩
        go_wp2_with fail
        go_ret
        exact ⟨rfl, belows b1 (belows b2 (belows b3 b4))⟩
      · rw [hf] at c3
        by_cases hk : j < (txt t.data.toList ++ sealS t.data.toList).length
        · have F := cF j hl hk
          rw [List.length_append, zs] at hk
          clear hf cC cF
          go_enter Try.func9, Try.ntmps9
          go_wp2_with fail
          refine (counts_true _).mono ?_
          rintro e w1 ⟨rfl, b1⟩
          go_wp2_with fail
          refine (frames_true _).mono ?_
          rintro e w2 ⟨rfl, b2⟩
          go_wp2_with fail
          refine (c3 _).out.mono ?_
          rintro e w3 ⟨rfl, b3⟩
          unfold pairS
          go_wp2_with fail
          refine (count_any n _ h0 h1).mono ?_
          rintro e w4 ⟨rfl, b4⟩
          go_wp2_with fail
          refine (F _).out.mono ?_
          rintro e w5 ⟨rfl, b5⟩
          go_wp2_with fail
          go_ret
          exact ⟨rfl, belows b1 (belows b2 (belows b3 (belows b4 b5)))⟩
        · rw [List.length_append, zs] at hk
          clear hf cC cF
          go_enter Try.func9, Try.ntmps9
          go_wp2_with fail
          refine (counts_true _).mono ?_
          rintro e w1 ⟨rfl, b1⟩
          go_wp2_with fail
          refine (frames_true _).mono ?_
          rintro e w2 ⟨rfl, b2⟩
          go_wp2_with fail
          refine (c3 _).out.mono ?_
          rintro e w3 ⟨rfl, b3⟩
          unfold pairS
          go_wp2_with fail
          refine (count_any n _ h0 h1).mono ?_
          rintro e w4 ⟨rfl, b4⟩
          go_wp2_with fail
          go_ret
          exact ⟨rfl, belows b1 (belows b2 (belows b3 b4))⟩
  · rcases hf with ⟨hl, hf⟩ | ⟨hl, hf⟩
    · rw [hf] at c3
      clear hf cC cF
      go_enter Try.func9, Try.ntmps9
      go_wp2_with fail
      refine (counts_true _).mono ?_
      rintro e w1 ⟨rfl, b1⟩
      go_wp2_with fail
      refine (frames_true _).mono ?_
      rintro e w2 ⟨rfl, b2⟩
      go_wp2_with fail
      refine (c3 _).out.mono ?_
      rintro e w3 ⟨rfl, b3⟩
      unfold pairS
      go_wp2_with fail
      refine (count_any n _ h0 h1).mono ?_
      rintro e w4 ⟨rfl, b4⟩
      go_wp2_with fail
      go_ret
      exact ⟨rfl, belows b1 (belows b2 (belows b3 b4))⟩
    · rw [hf] at c3
      clear hf cC cF
      go_enter Try.func9, Try.ntmps9
      go_wp2_with fail
      refine (counts_true _).mono ?_
      rintro e w1 ⟨rfl, b1⟩
      go_wp2_with fail
      refine (frames_true _).mono ?_
      rintro e w2 ⟨rfl, b2⟩
      go_wp2_with fail
      refine (c3 _).out.mono ?_
      rintro e w3 ⟨rfl, b3⟩
      unfold pairS
      go_wp2_with fail
      refine (count_any n _ h0 h1).mono ?_
      rintro e w4 ⟨rfl, b4⟩
      go_wp2_with fail
      go_ret
      exact ⟨rfl, belows b1 (belows b2 (belows b3 b4))⟩

end Go.Proofs.Yteedegljijendaa
