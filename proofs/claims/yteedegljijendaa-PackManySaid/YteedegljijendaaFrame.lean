/- Frames, by the program and by the reference. -/
import Derived.Test.YteedegljijendaaText
import Derived.Test.YteedegljijendaaRefSum
namespace Go.Proofs.Yteedegljijendaa
open Go.RowKit

/-- four bytes of a checksum, the least one first -/
def le4 (n : Nat) : List UInt8 := [UInt8.ofNat (n % 256), UInt8.ofNat (n / 256 % 256), UInt8.ofNat (n / 65536 % 256), UInt8.ofNat (n / 16777216 % 256)]
/-- the checksum as a frame has it -/
def sealS (l : List UInt8) : List UInt8 := le4 (sumS l)
/-- a frame, and why not -/
def frm (l : List UInt8) : List UInt8 × Int := if 65536 < l.length then ([], 2) else (txt l ++ sealS l, 0)
def pairS (r : List UInt8 × Int) : Value := .tuple #[.string ⟨r.1.toArray⟩, .int .i64 r.2]
theorem le4_len (n : Nat) : (le4 n).length = 4 := rfl

theorem bytes_four {P : Program} (W : World) (src dst e : TypeId) (l : List UInt8) (hl : l.length = 4) (hs : P.underlying src = some (.slice e)) (he : P.underlying e = some (.int .u8)) (hd : P.underlying dst = some .string) :
    (convert src dst (.slice (some ⟨W.heap.size, 0, none⟩) 4 4)).run P (W.alloc (.cells (l.map cellB).toArray e)) = .ok (.string ⟨l.toArray⟩) (W.alloc (.cells (l.map cellB).toArray e)) := by
  rw [← hl]
  refine run_convert_bytes_back (W.alloc (.cells (l.map cellB).toArray e)) src dst e ⟨W.heap.size, 0, none⟩ l.length l hs he hd fun j hj => ?_
  have : (⟨W.heap.size, 0, none⟩ : Addr).add j = ⟨W.heap.size, j, none⟩ := by unfold Addr.add; split <;> simp_all
  rw [this, World.cell?_alloc_at _ _ _ _ rfl]
  simp [List.getElem?_eq_getElem hj, cellB]

set_option maxRecDepth 100000 in
set_option maxHeartbeats 400000 in
theorem four_any (n : Nat) (w : World) (hn : n < 4294967296) :
    Calls Try.prog 38 #[.int .u32 (n : Int)] w fun e w' => e = .returned (.string ⟨(le4 n).toArray⟩) ∧ Below w.heap.size w w' := by
  have hcv := bytes_four (P := Try.prog) w 43 9 5 (le4 n) rfl Try.underlying43 Try.underlying5 Try.underlying9
  have e1 : ((le4 n).map cellB).toArray = #[.int .u8 ((n : Int) % 256), .int .u8 ((n : Int) / 256 % 256), .int .u8 ((n : Int) / 65536 % 256), .int .u8 ((n : Int) / 16777216)] := by
    simp [le4, cellB]; omega
  rw [e1] at hcv
  clear e1
  go_enter Try.func38, Try.ntmps38
  go_wp2
  go_ret
  exact ⟨rfl, (Below.refl _ _).alloc (Nat.le_refl _) _⟩

set_option maxRecDepth 100000 in
set_option maxHeartbeats 800000 in
theorem seal_any (s : ByteArray) (w : World) (hs : s.size ≤ maxLen) :
    Calls Try.prog 37 #[.string s] w fun e w' => e = .returned (.string ⟨(sealS s.data.toList).toArray⟩) ∧ Below w.heap.size w w' := by
  have hn := sumS_lt s.data.toList
  have H := fun w => Lib.hid (sum_any s w hs)
  have ht : sealS s.data.toList = le4 (sumS s.data.toList) := rfl
  rw [ht]
  generalize sumS s.data.toList = n at hn H ⊢
  have hmk : ∀ w, (Instr.makeSlice 43 (.int .i64 4) (.int .i64 4)).run Try.prog w = .ok (.slice (some ⟨w.heap.size, 0, none⟩) 4 4) (w.alloc (.cells #[.int .u8 0, .int .u8 0, .int .u8 0, .int .u8 0] 5)) := fun _ => by kernel_rfl
  have hcv := fun w => bytes_four (P := Try.prog) w 43 9 5 (le4 n) rfl Try.underlying43 Try.underlying5 Try.underlying9
  have e1 : ((le4 n).map cellB).toArray = #[.int .u8 ((n : Int) % 256), .int .u8 ((n : Int) / 256 % 256), .int .u8 ((n : Int) / 65536 % 256), .int .u8 ((n : Int) / 16777216)] := by
    simp [le4, cellB]; omega
  rw [e1] at hcv
  clear e1 ht
  go_enter Try.func37, Try.ntmps37
  go_wp2_with fail
  refine (H _).out.mono ?_
  rintro e w1 ⟨rfl, h1⟩
  go_wp2
  refine wp_loop_rounds 5 ?_
  rw [rounds_succ]
  go_wp2
  rw [rounds_succ]
  go_wp2
  rw [rounds_succ]
  go_wp2
  rw [rounds_succ]
  go_wp2
  rw [rounds_succ]
  go_wp2
  go_ret
  exact ⟨rfl, h1.alloc h1.size _⟩

theorem frm_long {l : List UInt8} (h : 65536 < l.length) : frm l = ([], 2) := by unfold frm; rw [if_pos h]
theorem frm_fits {l : List UInt8} (h : ¬ 65536 < l.length) : frm l = (txt l ++ sealS l, 0) := by unfold frm; rw [if_neg h]
theorem seal_len (l : List UInt8) : (sealS l).length = 4 := rfl

set_option maxRecDepth 100000 in
set_option maxHeartbeats 400000 in
theorem frame_any (s : ByteArray) (w : World) (hs : s.size ≤ maxLen) :
    Calls Try.prog 29 #[.string s] w fun e w' => e = .returned (pairS (frm s.data.toList)) ∧ Below w.heap.size w w' := by
  have hms := hs
  unfold maxLen at hs
  by_cases h : 65536 < s.size
  · rw [frm_long (by rw [len_of]; exact h)]
    go_enter Try.func29, Try.ntmps29
    go_wp2_with fail
    go_ret2
    exact ⟨rfl, Below.refl _ _⟩
  · rw [frm_fits (by rw [len_of]; exact h)]
    have hl1 := txt_len (l := s.data.toList) (by rw [len_of]; omega)
    have hl2 := sizeL (txt s.data.toList)
    have hl3 := sizeL (sealS s.data.toList)
    have hl4 := seal_len s.data.toList
    have hl5 := len_of s
    go_enter Try.func29, Try.ntmps29
    go_wp2_with fail
    refine (text_any s _ (by omega)).mono ?_
    rintro e w1 ⟨rfl, h1⟩
    go_wp2_with fail
    refine (seal_any s _ hms).mono ?_
    rintro e w2 ⟨rfl, h2⟩
    go_wp2_with fail
    refine (concat_two ⟨(txt s.data.toList).toArray⟩ ⟨(sealS s.data.toList).toArray⟩ w2 (by omega)).mono ?_
    rintro e w3 ⟨rfl, h3⟩
    go_wp2_with fail
    go_ret2
    exact ⟨rfl, h1.trans ((h2.trans (h3.mono h2.size)).mono h1.size)⟩

set_option maxRecDepth 100000 in
set_option maxHeartbeats 400000 in
theorem refFrame_any (s : ByteArray) (w : World) (hs : s.size ≤ maxLen) :
    Calls Try.prog 30 #[.string s] w fun e w' => e = .returned (pairS (frm s.data.toList)) ∧ Below w.heap.size w w' := by
  have hms := hs
  unfold maxLen at hs
  by_cases h : 65536 < s.size
  · rw [frm_long (by rw [len_of]; exact h)]
    go_enter Try.func30, Try.ntmps30
    go_wp2_with fail
    go_ret2
    exact ⟨rfl, Below.refl _ _⟩
  · rw [frm_fits (by rw [len_of]; exact h)]
    have hl1 := txt_len (l := s.data.toList) (by rw [len_of]; omega)
    have hl2 := sizeL (txt s.data.toList)
    have hl3 := sizeL (sealS s.data.toList)
    have hl4 := seal_len s.data.toList
    have hl5 := len_of s
    have hl6 := sumS_lt s.data.toList
    have hl7 := sizeL (le4 (sumS s.data.toList))
    have hl8 := le4_len (sumS s.data.toList)
    go_enter Try.func30, Try.ntmps30
    go_wp2_with fail
    refine (refText_any s _ (by omega)).mono ?_
    rintro e w1 ⟨rfl, h1⟩
    go_wp2_with fail
    refine (refSum_any s _ hms).mono ?_
    rintro e w2 ⟨rfl, rfl⟩
    go_wp2_with fail
    refine (four_any _ _ hl6).mono ?_
    rintro e w3 ⟨rfl, h3⟩
    go_wp2_with fail
    go_ret2
    refine ⟨?_, h1.trans (h3.mono h1.size)⟩
    show Ending.returned (.tuple #[.string ((⟨(txt s.data.toList).toArray⟩ : ByteArray) ++ ⟨(le4 (sumS s.data.toList)).toArray⟩), _]) = _
    rw [str_app]
    rfl
end Go.Proofs.Yteedegljijendaa
