/- The walks of the laws 'there and back', 'cut short'. -/
import Derived.Test.YteedegljijendaaBack
import Derived.Test.YteedegljijendaaFramesWalk
import Derived.Test.YteedegljijendaaTakesWalk
namespace Go.Proofs.Yteedegljijendaa
open Go.RowKit

set_option maxRecDepth 100000 in
set_option maxHeartbeats 800000 in
theorem back_walk (n m : Int) (t r : ByteArray) (w : World) (h0 : 0 ≤ n) (h1 : n ≤ 18446744073709551615) (m0 : -9223372036854775808 ≤ m) (m1 : m ≤ 9223372036854775807) (ht : t.size ≤ 140737488351232) (hr : r.size ≤ 140737488351232) :
    Calls Try.prog 8 #[.int .u64 n, .int .i64 m, .string t, .string r] w fun e w' => e = .returned (.bool true) ∧ Below w.heap.size w w' := by
  have he1 := enc_len10 (n := n.toNat) (by omega)
  have he2 := enc_len10 (n := zig m) (zig_lt m0 m1)
  have ht1 := txt_len (l := t.data.toList) (by rw [len_of]; omega)
  have lt := len_of t
  have lr := len_of r
  have z1 := sizeL (enc n.toNat)
  have z2 := sizeL (enc (zig m))
  have z3 := sizeL (txt t.data.toList)
  have c1 := fun w => Lib.hid (takeCount_any ((⟨(enc n.toNat).toArray⟩ : ByteArray) ++ r) w (by rw [str_app_of, sizeL, List.length_append]; unfold maxLen; omega))
  have c2 := fun w => Lib.hid (takeNumber_any ((⟨(enc (zig m)).toArray⟩ : ByteArray) ++ r) w (by rw [str_app_of, sizeL, List.length_append]; unfold maxLen; omega))
  have c3 := fun w => Lib.hid (takeText_any ((⟨(txt t.data.toList).toArray⟩ : ByteArray) ++ r) w (by rw [str_app_of, sizeL, List.length_append]; unfold maxLen; omega))
  have e1 : tc 0 0 ((⟨(enc n.toNat).toArray⟩ : ByteArray) ++ r).data.toList = (n.toNat, r.data.toList, 0) := by
    rw [str_app_of]; exact tc_back _ _ (by omega)
  have e2 : tn (tc 0 0 ((⟨(enc (zig m)).toArray⟩ : ByteArray) ++ r).data.toList) = (m, r.data.toList, 0) := by
    rw [str_app_of]; show tn (tc 0 0 (_ ++ _)) = _; rw [tc_back _ _ (zig_lt m0 m1), tn_back]
  rw [e1] at c1
  rw [e2] at c2
  clear e1 e2
  have en : (n.toNat : Int) = n := Int.toNat_of_nonneg h0
  have er : (⟨r.data.toList.toArray⟩ : ByteArray) = r := (str_of r).symm
  have C1 : ∀ w, Hid (Calls Try.prog 23 #[.string ((⟨(enc n.toNat).toArray⟩ : ByteArray) ++ r)] w fun e w' => e = .returned (.tuple #[.int .u64 n, .string r, .int .i64 0]) ∧ Below w.heap.size w w') := fun w => by
    have := (c1 w).out; unfold triple at this; simp only [en, er] at this; exact Lib.hid this
  have C2 : ∀ w, Hid (Calls Try.prog 25 #[.string ((⟨(enc (zig m)).toArray⟩ : ByteArray) ++ r)] w fun e w' => e = .returned (.tuple #[.int .i64 m, .string r, .int .i64 0]) ∧ Below w.heap.size w w') := fun w => by
    have := (c2 w).out; unfold tripleI at this; simp only [er] at this; exact Lib.hid this
  clear c1 c2 en
  by_cases h : 65536 < t.size
  · have e3 : tt (tc 0 0 ((⟨(txt t.data.toList).toArray⟩ : ByteArray) ++ r).data.toList) = ([], [], 2) := by
      rw [str_app_of]; exact tt_back_long _ _ (by rw [len_of]; exact h) (by rw [len_of]; omega)
    rw [e3] at c3
    have c4 := fun w => Lib.hid (frame_any t w (by unfold maxLen; omega))
    rw [frm_long (by rw [len_of]; exact h)] at c4
    have c5 := fun w => Lib.hid (takeFrame_any ((⟨#[]⟩ : ByteArray) ++ r) w (by rw [show (⟨#[]⟩ : ByteArray) = ⟨([] : List UInt8).toArray⟩ from rfl, str_app_of, sizeL, List.nil_append]; unfold maxLen; omega))
    generalize tf (tt (tc 0 0 ((⟨#[]⟩ : ByteArray) ++ r).data.toList)) = q at c5
    obtain ⟨qa, qb, qc⟩ := q
    clear e3 er
    go_enter Try.func8, Try.ntmps8
    go_wp2_with fail
    refine (counts_true _).mono ?_
    rintro e w1 ⟨rfl, b1⟩
    go_wp2_with fail
    refine (frames_true _).mono ?_
    rintro e w2 ⟨rfl, b2⟩
    go_wp2_with fail
    refine (count_any n _ h0 h1).mono ?_
    rintro e w3 ⟨rfl, b3⟩
    go_wp2_with fail
    refine (C1 _).out.mono ?_
    rintro e w4 ⟨rfl, b4⟩
    go_wp2_with fail
    refine (number_any m _ m0 m1).mono ?_
    rintro e w5 ⟨rfl, b5⟩
    go_wp2_with fail
    refine (C2 _).out.mono ?_
    rintro e w6 ⟨rfl, b6⟩
    go_wp2_with fail
    refine (text_any t _ ht).mono ?_
    rintro e w7 ⟨rfl, b7⟩
    go_wp2_with fail
    refine (c3 _).out.mono ?_
    rintro e w8 ⟨rfl, b8⟩
    unfold tripleS
    go_wp2_with fail
    refine (c4 _).out.mono ?_
    rintro e w9 ⟨rfl, b9⟩
    unfold pairS
    go_wp2_with fail
    refine (c5 _).out.mono ?_
    rintro e w10 ⟨rfl, b10⟩
    unfold tripleS
    go_wp2_with fail
    go_ret
    exact ⟨rfl, belows b1 (belows b2 (belows b3 (belows b4 (belows b5 (belows b6 (belows b7 (belows b8 (belows b9 b10))))))))⟩
  · have hl : ¬ 65536 < t.data.toList.length := by rw [len_of]; exact h
    have e3 : tt (tc 0 0 ((⟨(txt t.data.toList).toArray⟩ : ByteArray) ++ r).data.toList) = (t.data.toList, r.data.toList, 0) := by
      rw [str_app_of]; exact tt_back _ _ hl
    rw [e3] at c3
    have c4 := fun w => Lib.hid (frame_any t w (by unfold maxLen; omega))
    rw [frm_fits hl] at c4
    have zs := seal_len t.data.toList
    have zf := sizeL (txt t.data.toList ++ sealS t.data.toList)
    rw [List.length_append, zs] at zf
    have c5 := fun w => Lib.hid (takeFrame_any ((⟨(txt t.data.toList ++ sealS t.data.toList).toArray⟩ : ByteArray) ++ r) w (by rw [str_app_of, sizeL, List.length_append, List.length_append]; unfold maxLen; omega))
    have e5 : tf (tt (tc 0 0 ((⟨(txt t.data.toList ++ sealS t.data.toList).toArray⟩ : ByteArray) ++ r).data.toList)) = (t.data.toList, r.data.toList, 0) := by
      rw [str_app_of]; exact tf_back _ _ hl
    rw [e5] at c5
    have et : (⟨t.data.toList.toArray⟩ : ByteArray) = t := (str_of t).symm
    have C3 : ∀ w, Hid (Calls Try.prog 27 #[.string ((⟨(txt t.data.toList).toArray⟩ : ByteArray) ++ r)] w fun e w' => e = .returned (.tuple #[.string t, .string r, .int .i64 0]) ∧ Below w.heap.size w w') := fun w => by
      have := (c3 w).out; unfold tripleS at this; simp only [et, er] at this; exact Lib.hid this
    have C5 : ∀ w, Hid (Calls Try.prog 31 #[.string ((⟨(txt t.data.toList ++ sealS t.data.toList).toArray⟩ : ByteArray) ++ r)] w fun e w' => e = .returned (.tuple #[.string t, .string r, .int .i64 0]) ∧ Below w.heap.size w w') := fun w => by
      have := (c5 w).out; unfold tripleS at this; simp only [et, er] at this; exact Lib.hid this
    clear e3 e5 er et c3 c5
    go_enter Try.func8, Try.ntmps8
    go_wp2_with fail
    refine (counts_true _).mono ?_
    rintro e w1 ⟨rfl, b1⟩
    go_wp2_with fail
    refine (frames_true _).mono ?_
    rintro e w2 ⟨rfl, b2⟩
    go_wp2_with fail
    refine (count_any n _ h0 h1).mono ?_
    rintro e w3 ⟨rfl, b3⟩
    go_wp2_with fail
    refine (C1 _).out.mono ?_
    rintro e w4 ⟨rfl, b4⟩
    go_wp2_with fail
    refine (number_any m _ m0 m1).mono ?_
    rintro e w5 ⟨rfl, b5⟩
    go_wp2_with fail
    refine (C2 _).out.mono ?_
    rintro e w6 ⟨rfl, b6⟩
    go_wp2_with fail
    refine (text_any t _ ht).mono ?_
    rintro e w7 ⟨rfl, b7⟩
    go_wp2_with fail
    refine (C3 _).out.mono ?_
    rintro e w8 ⟨rfl, b8⟩
    go_wp2_with fail
    refine (c4 _).out.mono ?_
    rintro e w9 ⟨rfl, b9⟩
    unfold pairS
    go_wp2_with fail
    refine (C5 _).out.mono ?_
    rintro e w10 ⟨rfl, b10⟩
    go_wp2_with fail
    go_ret
    exact ⟨rfl, belows b1 (belows b2 (belows b3 (belows b4 (belows b5 (belows b6 (belows b7 (belows b8 (belows b9 b10))))))))⟩

end Go.Proofs.Yteedegljijendaa
