/- The walk of the law 'turned'. -/
import Derived.Test.YteedegljijendaaBackWalk
namespace Go.Proofs.Yteedegljijendaa
open Go.RowKit

/-- '[]byte(s)': what the new row holds -/
theorem bytes_of {P : Program} (w : World) (src dst e : TypeId) (l : List UInt8) (hs : P.underlying src = some .string) (hd : P.underlying dst = some (.slice e)) (he : P.underlying e = some (.int .u8)) :
    ∃ cap w', (convert src dst (.string ⟨l.toArray⟩)).run P w = .ok (.slice (some ⟨w.heap.size, 0, none⟩) l.length cap) w' ∧ Below w.heap.size w w' ∧
      (∀ (j : Nat) b, l[j]? = some b → w'.cell? ⟨w.heap.size, j, none⟩ = some (.int .u8 (b.toNat : Int))) ∧ (∀ j, j < l.length → w'.frozen? ⟨w.heap.size, j, none⟩ = false) ∧ w.heap.size < w'.heap.size := by
  have h := run_bytes_of_string (P := P) w src dst e ⟨l.toArray⟩ hs hd he
  rw [sizeL] at h
  generalize grownCap w l.length 0 e = cap at h
  have hnew : ∀ (C : Array Value) (f : Nat × Nat), (w.drew.alloc (.cells C e f)).heap[w.heap.size]? = some (.cells C e f) := fun C f => by
    show (w.heap.push (.cells C e f))[w.heap.size]? = _
    simp
  have hlen : l.length ≤ (bytesRow ⟨l.toArray⟩ cap).size := by simp [bytesRow]
  refine ⟨cap, _, h, (Below.refl _ _).drew.alloc (by simp) _, ?_, ?_, by simp⟩
  · intro j b hb
    have hj := (List.getElem?_eq_some_iff.1 hb).1
    simp only [World.cell?, hnew]
    simp only [bytesRow, Option.isSome_none, Bool.false_eq_true, ↓reduceIte]
    rw [Array.getElem?_append_left (by simpa using hj)]
    simp [hb]
  · intro j hj
    simp only [World.frozen?, hnew]
    simp; omega

theorem turn_bit (x : UInt8) (m : Nat) (hm : m < 8) : ∃ y : UInt8, y ≠ x ∧ bits .xor .u8 (x.toNat : Int) (2 ^ m % 256) = (y.toNat : Int) := by
  have H : ∀ (a : Fin 256) (m : Fin 8), bits .xor .u8 ((a.val : Nat) : Int) (2 ^ m.val % 256) = (((a.val ^^^ 2 ^ m.val : Nat)) : Int) ∧ (a.val ^^^ 2 ^ m.val) ≠ a.val ∧ (a.val ^^^ 2 ^ m.val) < 256 := by decide +kernel
  obtain ⟨h1, h2, h3⟩ := H ⟨x.toNat, x.toNat_lt⟩ ⟨m, hm⟩
  simp only at h1 h2 h3
  refine ⟨UInt8.ofNat (x.toNat ^^^ 2 ^ m), fun e => h2 ?_, ?_⟩
  · have := congrArg UInt8.toNat e
    rw [UInt8.toNat_ofNat_of_lt' (by simpa using h3)] at this
    exact this
  · rw [h1, UInt8.toNat_ofNat_of_lt' (by simpa using h3)]

set_option maxRecDepth 100000 in
set_option maxHeartbeats 800000 in
theorem turned_walk (t : ByteArray) (a b : Int) (w : World) (ht : t.size ≤ maxLen) (a0 : -9223372036854775808 ≤ a) (a1 : a ≤ 9223372036854775807) (b0 : 0 ≤ b) (b1 : b ≤ 255) :
    Calls Try.prog 10 #[.string t, .int .i64 a, .int .u8 b] w fun e w' => e = .returned (.bool true) ∧ Below w.heap.size w w' := by
  have c3 := fun w => Lib.hid (frame_any t w ht)
  have hms := ht
  unfold maxLen at ht
  have lt := len_of t
  have z1 := sizeL (enc t.size)
  have he1 := enc_len10 (n := t.size) (by omega)
  by_cases hl : 65536 < t.data.toList.length
  · rw [frm_long hl] at c3
    go_enter Try.func10, Try.ntmps10
    go_wp2_with fail
    refine (frames_true _).mono ?_
    rintro e w1 ⟨rfl, b1⟩
    go_wp2_with fail
    refine (c3 _).out.mono ?_
    rintro e w2 ⟨rfl, b2⟩
    unfold pairS
    go_wp2_with fail
    refine (count_any t.size _ (by omega) (by omega)).mono ?_
    rintro e w3 ⟨rfl, b3⟩
    go_wp2_with fail
    go_ret
    exact ⟨rfl, belows b1 (belows b2 b3)⟩
  · rw [frm_fits hl] at c3
    have ht1 := txt_len (l := t.data.toList) (by omega)
    have zs := seal_len t.data.toList
    have hlo : (enc t.size).length = (txt t.data.toList).length - t.size := by unfold txt; rw [List.length_append, lt]; omega
    have htot : (txt t.data.toList ++ sealS t.data.toList).length = (txt t.data.toList).length + 4 := by rw [List.length_append, zs]
    by_cases ha : ((enc t.size).length : Int) ≤ a ∧ a < (txt t.data.toList).length + 4
    · obtain ⟨j, rfl⟩ := Int.eq_ofNat_of_zero_le (show 0 ≤ a by omega)
      have hj : j < (txt t.data.toList ++ sealS t.data.toList).length := by omega
      have T := tf_turned t.data.toList j
      clear hlo
      go_enter Try.func10, Try.ntmps10
      go_wp2_with fail
      refine (frames_true _).mono ?_
      rintro e w1 ⟨rfl, b1⟩
      go_wp2_with fail
      refine (c3 _).out.mono ?_
      rintro e w2 ⟨rfl, b2⟩
      unfold pairS
      go_wp2_with fail
      refine (count_any t.size _ (by omega) (by omega)).mono ?_
      rintro e w3 ⟨rfl, b3⟩
      rw [Int.toNat_natCast]
      obtain ⟨cap, w4, hrun, b4, hcell, hfree, hsz⟩ := bytes_of (P := Try.prog) w3 9 43 5 (txt t.data.toList ++ sealS t.data.toList) Try.underlying9 Try.underlying43 Try.underlying5
      generalize hF : txt t.data.toList ++ sealS t.data.toList = F at hj hrun hcell hfree htot
      have hc1 := hcell j F[j] (by rw [List.getElem?_eq_getElem hj])
      have hf1 := hfree j hj
      have HF := Lib.hid hF; clear hF
      rw [htot] at hrun
      obtain ⟨y, hy, hxor⟩ := turn_bit F[j] (b % 8).toNat (by omega)
      have hcv := run_convert_bytes_back (P := Try.prog) (w4.setCell ⟨w3.heap.size, j, none⟩ (.int .u8 (y.toNat : Int))) 43 9 5 ⟨w3.heap.size, 0, none⟩ cap (F.set j y) Try.underlying43 Try.underlying5 Try.underlying9 (by
        intro i hi
        rw [List.length_set] at hi
        have hadd : (⟨w3.heap.size, 0, none⟩ : Addr).add i = ⟨w3.heap.size, i, none⟩ := by unfold Addr.add; split <;> simp_all
        rw [hadd]
        by_cases hij : j = i
        · subst hij
          rw [World.cell?_setCell_same w4 _ _ hc1]
          simp
        · rw [World.cell?_setCell_other w4 _ _ _ (by simp [hij]), hcell i F[i] (by rw [List.getElem?_eq_getElem hi]), List.getElem_set_ne hij])
      rw [List.length_set, htot] at hcv
      have hT := T y hl (by rw [lt]; omega) (by rw [HF.out]; exact hj) (by simp only [HF.out]; exact hy)
      rw [HF.out] at hT
      have hms2 : (⟨(F.set j y).toArray⟩ : ByteArray).size ≤ maxLen := by rw [sizeL, List.length_set, htot]; unfold maxLen; omega
      have C := fun w => takeFrame_any ⟨(F.set j y).toArray⟩ w hms2
      simp only at C
      rw [hT] at C
      have C' := fun w => Lib.hid (C w)
      clear hcell hfree C hT T hy hms2
      go_wp2_with fail
      refine (C' _).out.mono ?_
      rintro e w5 ⟨rfl, b5⟩
      unfold tripleS
      go_wp2_with fail
      go_ret
      have b4' : Below w3.heap.size w3 (w4.setCell ⟨w3.heap.size, j, none⟩ (.int .u8 (y.toNat : Int))) := b4.setCell (Nat.le_refl _) _
      exact ⟨rfl, belows b1 (belows b2 (belows b3 (belows b4' b5)))⟩
    · have hT : a < (enc t.size).length ∨ ¬ a < (enc t.size).length ∧ (txt t.data.toList).length + 4 ≤ a := by omega
      clear hlo htot ha
      rcases hT with hT | ⟨hT1, hT2⟩
      all_goals
        go_enter Try.func10, Try.ntmps10
        go_wp2_with fail
        refine (frames_true _).mono ?_
        rintro e w1 ⟨rfl, b1⟩
        go_wp2_with fail
        refine (c3 _).out.mono ?_
        rintro e w2 ⟨rfl, b2⟩
        unfold pairS
        go_wp2_with fail
        refine (count_any t.size _ (by omega) (by omega)).mono ?_
        rintro e w3 ⟨rfl, b3⟩
        rw [Int.toNat_natCast]
        go_wp2_with fail
        go_ret
        exact ⟨rfl, belows b1 (belows b2 b3)⟩
end Go.Proofs.Yteedegljijendaa
