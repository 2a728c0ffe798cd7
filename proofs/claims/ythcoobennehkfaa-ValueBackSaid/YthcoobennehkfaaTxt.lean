/- The bytes of a text, by the program and by the reference. -/
import Derived.Test.YthcoobennehkfaaRefCount
import Derived.Test.YthcoobennehkfaaJoin
namespace Go.Proofs.Ythcoobennehkfaa
open Go.RowKit

set_option maxRecDepth 100000 in
set_option maxHeartbeats 400000 in
theorem refNumber_any (n : Int) (w : World) (h0 : -9223372036854775808 ≤ n) (h1 : n ≤ 9223372036854775807) :
    Calls Try.prog 69 #[.int .i64 n] w fun e w' => e = .returned (.string ⟨(enc (zig n)).toArray⟩) ∧ Below w.heap.size w w' := by
  by_cases hn : n < 0
  · have hz : zig n = (2 * (-1 - n) + 1).toNat := by unfold zig; rw [if_pos hn]
    rw [hz]; clear hz
    go_enter Try.func69, Try.ntmps69
    go_wp2_with fail
    refine (refCount_any _ _ (by omega) (by omega)).mono ?_
    rintro e w' ⟨rfl, hb⟩
    go_wp2_with fail
    go_ret
    exact ⟨rfl, hb⟩
  · have hz : zig n = (2 * n).toNat := by unfold zig; rw [if_neg hn]
    rw [hz]; clear hz
    go_enter Try.func69, Try.ntmps69
    go_wp2_with fail
    refine (refCount_any _ _ (by omega) (by omega)).mono ?_
    rintro e w' ⟨rfl, hb⟩
    go_wp2_with fail
    go_ret
    exact ⟨rfl, hb⟩

theorem join_two (a b : List UInt8) : Lib.join [a, b] [] = a ++ b := by simp [Lib.join, List.intercalate]

/-- two strings, one behind the other -/
theorem concat_two (a b : ByteArray) (w : World) (hab : a.size + b.size ≤ 140737488355328) :
    Calls Try.prog 66 #[.slice (some ⟨w.heap.size, 0, none⟩) 2 2] (w.alloc (.cells #[.string a, .string b] 9)) fun e w' => e = .returned (.string ⟨(a.data.toList ++ b.data.toList).toArray⟩) ∧ Below w.heap.size w w' := by
  have hc : ∀ (j : Nat) x, [a, b][j]? = some x → (w.alloc (.cells #[.string a, .string b] 9)).cell? ⟨w.heap.size, 0 + j, none⟩ = some (.string x) := by
    intro j x hx
    rw [World.cell?_alloc_at _ _ _ _ rfl]
    match j, hx with
    | 0, hx => simp at hx; subst hx; rfl
    | 1, hx => simp at hx; subst hx; rfl
    | j + 2, hx => simp at hx
  have hl : a.data.toList.length = a.size := by rw [Array.length_toList]; rfl
  have hl2 : b.data.toList.length = b.size := by rw [Array.length_toList]; rfl
  have hlen : (Lib.join ([a, b].map (·.data.toList)) (⟨#[]⟩ : ByteArray).data.toList).length ≤ 140737488355328 := by
    show (Lib.join [a.data.toList, b.data.toList] []).length ≤ _
    rw [join_two, List.length_append]; omega
  have H := Lib.hid (Try.strings_Join w.heap.size 0 2 [a, b] ⟨#[]⟩ (w.alloc (.cells #[.string a, .string b] 9)) hc (by simp) (by simp) (by simp) hlen)
  rw [show Lib.join ([a, b].map (·.data.toList)) (⟨#[]⟩ : ByteArray).data.toList = a.data.toList ++ b.data.toList from join_two _ _] at H
  clear hlen hc
  go_enter Try.func66, Try.ntmps66
  go_wp2_with fail
  refine H.out.mono ?_
  rintro e w' ⟨rfl, hb⟩
  go_wp2_with fail
  go_ret
  exact ⟨rfl, ((Below.refl _ _).alloc (Nat.le_refl _) _).trans (hb.mono (by simp))⟩

/-- the bytes of a text -/
def txt (l : List UInt8) : List UInt8 := enc l.length ++ l
theorem txt_len {l : List UInt8} (h : l.length < 18446744073709551616) : (txt l).length ≤ l.length + 10 := by
  unfold txt; rw [List.length_append]; have := enc_len10 h; omega

set_option maxRecDepth 100000 in
set_option maxHeartbeats 400000 in
theorem text_any (s : ByteArray) (w : World) (hs : s.size ≤ 140737488351232) :
    Calls Try.prog 45 #[.string s] w fun e w' => e = .returned (.string ⟨(txt s.data.toList).toArray⟩) ∧ Below w.heap.size w w' := by
  have hl : (enc s.size).length ≤ 10 := enc_len10 (by omega)
  have ht : txt s.data.toList = enc s.size ++ s.data.toList := by unfold txt; rw [len_of]
  have hd : (⟨(enc s.size).toArray⟩ : ByteArray).size = (enc s.size).length := sizeL _
  rw [ht]
  clear ht
  go_enter Try.func45, Try.ntmps45
  go_wp2_with fail
  refine (count_any _ _ (by omega) (by omega)).mono ?_
  rintro e w1 ⟨rfl, h1⟩
  rw [Int.toNat_natCast]
  go_wp2_with fail
  refine (concat_two ⟨(enc s.size).toArray⟩ s w1 (by omega)).mono ?_
  rintro e w2 ⟨rfl, h2⟩
  go_wp2_with fail
  go_ret
  exact ⟨rfl, h1.trans (h2.mono h1.size)⟩

set_option maxRecDepth 100000 in
set_option maxHeartbeats 400000 in
theorem refText_any (s : ByteArray) (w : World) (hs : s.size ≤ 140737488351232) :
    Calls Try.prog 68 #[.string s] w fun e w' => e = .returned (.string ⟨(txt s.data.toList).toArray⟩) ∧ Below w.heap.size w w' := by
  have hl : (enc s.size).length ≤ 10 := enc_len10 (by omega)
  have ht : txt s.data.toList = enc s.size ++ s.data.toList := by unfold txt; rw [len_of]
  rw [ht]
  clear ht
  go_enter Try.func68, Try.ntmps68
  go_wp2_with fail
  refine (refCount_any _ _ (by omega) (by omega)).mono ?_
  rintro e w1 ⟨rfl, h1⟩
  rw [Int.toNat_natCast]
  go_wp2_with fail
  go_ret
  refine ⟨?_, h1⟩
  show Ending.returned (.string ((⟨(enc s.size).toArray⟩ : ByteArray) ++ s)) = _
  rw [str_app_of]

end Go.Proofs.Ythcoobennehkfaa
