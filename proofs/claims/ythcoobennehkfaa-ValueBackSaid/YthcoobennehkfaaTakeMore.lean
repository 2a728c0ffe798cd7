/- Numbers and texts are taken as the plain functions say, by the program and by the reference. -/
import Derived.Test.YthcoobennehkfaaRefTakeCount
namespace Go.Proofs.Ythcoobennehkfaa
open Go.RowKit

theorem tc_ok : ∀ (l : List UInt8) (k n : Nat), k ≤ 9 → n < 128 ^ k →
    (tc k n l).1 ≤ 18446744073709551615 ∧ ((tc k n l).2.2 = 0 ∧ (tc k n l).2.1.length ≤ l.length ∨ tc k n l = (0, [], 3) ∨ tc k n l = (0, [], 4)) := by
  intro l
  induction l with
  | nil => intro k n _ _; exact ⟨by simp [tc], .inr (.inl rfl)⟩
  | cons b l ih =>
    intro k n hk hn
    unfold tc
    by_cases hbad : (k = 9 ∧ 1 < b.toNat) ∨ (0 < k ∧ b.toNat = 0)
    · rw [if_pos hbad]; exact ⟨by simp, .inr (.inr rfl)⟩
    · rw [if_neg hbad]
      have h9 : k = 9 → b.toNat ≤ 1 := fun h => by omega
      by_cases hl : b.toNat < 128
      · rw [if_pos hl]; exact ⟨sum_lt hk h9 hn, .inl ⟨rfl, by simp⟩⟩
      · rw [if_neg hl]
        have := ih (k + 1) (n + b.toNat % 128 * 128 ^ k) (by omega) (gather_lt hn)
        refine ⟨this.1, ?_⟩
        rcases this.2 with ⟨h1, h2⟩ | h | h
        · exact .inl ⟨h1, by simp; omega⟩
        · exact .inr (.inl h)
        · exact .inr (.inr h)

/-- a number taken -/
def tn (r : Nat × List UInt8 × Int) : Int × List UInt8 × Int :=
  if r.2.2 = 0 then ((if r.1 % 2 = 1 then -1 - ((r.1 / 2 : Nat) : Int) else ((r.1 / 2 : Nat) : Int)), r.2.1, 0) else (0, [], r.2.2)
def tripleI (r : Int × List UInt8 × Int) : Value := .tuple #[.int .i64 r.1, .string ⟨r.2.1.toArray⟩, .int .i64 r.2.2]

/-- a text taken -/
def tt (r : Nat × List UInt8 × Int) : List UInt8 × List UInt8 × Int :=
  if r.2.2 = 0 then (if 65536 < r.1 then ([], [], 2) else if r.2.1.length < r.1 then ([], [], 3) else (r.2.1.take r.1, r.2.1.drop r.1, 0)) else ([], [], r.2.2)
def tripleS (r : List UInt8 × List UInt8 × Int) : Value := .tuple #[.string ⟨r.1.toArray⟩, .string ⟨r.2.1.toArray⟩, .int .i64 r.2.2]

theorem size_list (l : List UInt8) : (⟨l.toArray⟩ : ByteArray).size = l.length := by simp [ByteArray.size]
theorem tn_odd {m : Nat} {l : List UInt8} (h : m % 2 = 1) : tn (m, l, 0) = (-1 - ((m / 2 : Nat) : Int), l, 0) := by simp [tn, h]
theorem tn_even {m : Nat} {l : List UInt8} (h : ¬ m % 2 = 1) : tn (m, l, 0) = (((m / 2 : Nat) : Int), l, 0) := by simp only [tn, if_true, if_neg h]
theorem tt_long {m : Nat} {l : List UInt8} (h : 65536 < m) : tt (m, l, 0) = ([], [], 2) := by simp [tt, h]
theorem tt_short {m : Nat} {l : List UInt8} (h : ¬ 65536 < m) (h2 : l.length < m) : tt (m, l, 0) = ([], [], 3) := by simp [tt, h, h2]
theorem tt_fits {m : Nat} {l : List UInt8} (h : ¬ 65536 < m) (h2 : ¬ l.length < m) : tt (m, l, 0) = (l.take m, l.drop m, 0) := by simp [tt, h, h2]

set_option maxRecDepth 100000 in
set_option maxHeartbeats 400000 in
theorem takeNumber_any (s : ByteArray) (w : World) (hs : s.size ≤ maxLen) :
    Calls Try.prog 70 #[.string s] w fun e w' => e = .returned (tripleI (tn (tc 0 0 s.data.toList))) ∧ Below w.heap.size w w' := by
  have hb := tc_ok s.data.toList 0 0 (by omega) (by omega)
  have hcall := Lib.hid (takeCount_any s w hs)
  generalize tc 0 0 s.data.toList = r at hb hcall
  obtain ⟨m, l, y⟩ := r
  obtain ⟨hm, hy⟩ := hb
  simp only at hm hy
  have h3 : (y = 0 ∧ m % 2 = 1) ∨ (y = 0 ∧ ¬ m % 2 = 1) ∨ (m, l, y) = (0, [], 3) ∨ (m, l, y) = (0, [], 4) := by
    rcases hy with ⟨h, _⟩ | h | h
    · by_cases h2 : m % 2 = 1
      · exact .inl ⟨h, h2⟩
      · exact .inr (.inl ⟨h, h2⟩)
    · exact .inr (.inr (.inl h))
    · exact .inr (.inr (.inr h))
  clear hy
  rcases h3 with ⟨rfl, h3⟩ | ⟨rfl, h3⟩ | h3 | h3
  · rw [tn_odd h3]
    have h4 : ((m : Int) % 2 == 1) = true := by simp; omega
    go_enter Try.func70, Try.ntmps70
    go_wp2_with fail
    refine hcall.out.mono ?_
    rintro e w' ⟨rfl, hb⟩
    unfold triple
    go_wp2_with fail
    go_ret3
    exact ⟨rfl, hb⟩
  · rw [tn_even h3]
    have h4 : ((m : Int) % 2 == 1) = false := by simp; omega
    go_enter Try.func70, Try.ntmps70
    go_wp2_with fail
    refine hcall.out.mono ?_
    rintro e w' ⟨rfl, hb⟩
    unfold triple
    go_wp2_with fail
    go_ret3
    exact ⟨rfl, hb⟩
  all_goals
    obtain ⟨rfl, rfl, rfl⟩ : m = 0 ∧ l = [] ∧ y = _ := by simpa using h3
    clear h3
    go_enter Try.func70, Try.ntmps70
    go_wp2_with fail
    refine hcall.out.mono ?_
    rintro e w' ⟨rfl, hb⟩
    unfold triple
    go_wp2_with fail
    go_ret3
    exact ⟨rfl, hb⟩

set_option maxRecDepth 100000 in
set_option maxHeartbeats 400000 in
theorem takeText_any (s : ByteArray) (w : World) (hs : s.size ≤ maxLen) :
    Calls Try.prog 71 #[.string s] w fun e w' => e = .returned (tripleS (tt (tc 0 0 s.data.toList))) ∧ Below w.heap.size w w' := by
  have hb := tc_ok s.data.toList 0 0 (by omega) (by omega)
  have hcall := Lib.hid (takeCount_any s w hs)
  have hsl : s.data.toList.length = s.size := by rw [Array.length_toList]; rfl
  rw [hsl] at hb
  generalize tc 0 0 s.data.toList = r at hb hcall
  obtain ⟨m, l, y⟩ := r
  obtain ⟨hm, hy⟩ := hb
  simp only at hm hy
  unfold maxLen at hs
  have h3 : (y = 0 ∧ 65536 < m ∧ l.length ≤ s.size) ∨ (y = 0 ∧ ¬ 65536 < m ∧ l.length < m ∧ l.length ≤ s.size) ∨ (y = 0 ∧ ¬ 65536 < m ∧ ¬ l.length < m ∧ l.length ≤ s.size) ∨ (m, l, y) = (0, [], 3) ∨ (m, l, y) = (0, [], 4) := by
    rcases hy with ⟨h, h5⟩ | h | h
    · omega
    · exact .inr (.inr (.inr (.inl h)))
    · exact .inr (.inr (.inr (.inr h)))
  clear hy hsl
  rcases h3 with ⟨rfl, h3, h6⟩ | ⟨rfl, h3, h4, h6⟩ | ⟨rfl, h3, h4, h6⟩ | h3 | h3
  · rw [tt_long h3]
    go_enter Try.func71, Try.ntmps71
    go_wp2_with fail
    refine hcall.out.mono ?_
    rintro e w' ⟨rfl, hb⟩
    unfold triple
    go_wp2_with fail
    go_ret3
    exact ⟨rfl, hb⟩
  · rw [tt_short h3 h4]
    go_enter Try.func71, Try.ntmps71
    go_wp2_with fail
    refine hcall.out.mono ?_
    rintro e w' ⟨rfl, hb⟩
    unfold triple
    go_wp2_with fail
    go_ret3
    exact ⟨rfl, hb⟩
  · rw [tt_fits h3 h4]
    go_enter Try.func71, Try.ntmps71
    go_wp2_with fail
    refine hcall.out.mono ?_
    rintro e w' ⟨rfl, hb⟩
    unfold triple
    go_wp2_with fail
    have hml : m ≤ l.length := by omega
    go_quiet (fail)
    go_wp2
    go_ret3
    refine ⟨?_, below_draws hb _⟩
    show Ending.returned (.tuple #[.string ((⟨l.toArray⟩ : ByteArray).extract 0 m), .string ((⟨l.toArray⟩ : ByteArray).extract m (⟨l.toArray⟩ : ByteArray).size), _]) = _
    rw [extract_from, extract_upto]
    rfl
  all_goals
    obtain ⟨rfl, rfl, rfl⟩ : m = 0 ∧ l = [] ∧ y = _ := by simpa using h3
    clear h3
    go_enter Try.func71, Try.ntmps71
    go_wp2_with fail
    refine hcall.out.mono ?_
    rintro e w' ⟨rfl, hb⟩
    unfold triple
    go_wp2_with fail
    go_ret3
    exact ⟨rfl, hb⟩

set_option maxRecDepth 100000 in
set_option maxHeartbeats 400000 in
theorem refTakeNumber_any (s : ByteArray) (w : World) (hs : s.size ≤ maxLen) :
    Calls Try.prog 72 #[.string s] w fun e w' => e = .returned (tripleI (tn (tc 0 0 s.data.toList))) ∧ Below w.heap.size w w' := by
  have hb := tc_ok s.data.toList 0 0 (by omega) (by omega)
  have hcall := Lib.hid (refTakeCount_any s w hs)
  generalize tc 0 0 s.data.toList = r at hb hcall
  obtain ⟨m, l, y⟩ := r
  obtain ⟨hm, hy⟩ := hb
  simp only at hm hy
  have h3 : (y = 0 ∧ m % 2 = 1) ∨ (y = 0 ∧ ¬ m % 2 = 1) ∨ (m, l, y) = (0, [], 3) ∨ (m, l, y) = (0, [], 4) := by
    rcases hy with ⟨h, _⟩ | h | h
    · by_cases h2 : m % 2 = 1
      · exact .inl ⟨h, h2⟩
      · exact .inr (.inl ⟨h, h2⟩)
    · exact .inr (.inr (.inl h))
    · exact .inr (.inr (.inr h))
  clear hy
  rcases h3 with ⟨rfl, h3⟩ | ⟨rfl, h3⟩ | h3 | h3
  · rw [tn_odd h3]
    have h4 : ((m : Int) % 2 == 1) = true := by simp; omega
    go_enter Try.func72, Try.ntmps72
    go_wp2_with fail
    refine hcall.out.mono ?_
    rintro e w' ⟨rfl, hb⟩
    unfold triple
    go_wp2_with fail
    go_ret3
    exact ⟨rfl, hb⟩
  · rw [tn_even h3]
    have h4 : ((m : Int) % 2 == 1) = false := by simp; omega
    go_enter Try.func72, Try.ntmps72
    go_wp2_with fail
    refine hcall.out.mono ?_
    rintro e w' ⟨rfl, hb⟩
    unfold triple
    go_wp2_with fail
    go_ret3
    exact ⟨rfl, hb⟩
  all_goals
    obtain ⟨rfl, rfl, rfl⟩ : m = 0 ∧ l = [] ∧ y = _ := by simpa using h3
    clear h3
    go_enter Try.func72, Try.ntmps72
    go_wp2_with fail
    refine hcall.out.mono ?_
    rintro e w' ⟨rfl, hb⟩
    unfold triple
    go_wp2_with fail
    go_ret3
    exact ⟨rfl, hb⟩

set_option maxRecDepth 100000 in
set_option maxHeartbeats 400000 in
theorem refTakeText_any (s : ByteArray) (w : World) (hs : s.size ≤ maxLen) :
    Calls Try.prog 73 #[.string s] w fun e w' => e = .returned (tripleS (tt (tc 0 0 s.data.toList))) ∧ Below w.heap.size w w' := by
  have hb := tc_ok s.data.toList 0 0 (by omega) (by omega)
  have hcall := Lib.hid (refTakeCount_any s w hs)
  have hsl : s.data.toList.length = s.size := by rw [Array.length_toList]; rfl
  rw [hsl] at hb
  generalize tc 0 0 s.data.toList = r at hb hcall
  obtain ⟨m, l, y⟩ := r
  obtain ⟨hm, hy⟩ := hb
  simp only at hm hy
  unfold maxLen at hs
  have h3 : (y = 0 ∧ 65536 < m ∧ l.length ≤ s.size) ∨ (y = 0 ∧ ¬ 65536 < m ∧ l.length < m ∧ l.length ≤ s.size) ∨ (y = 0 ∧ ¬ 65536 < m ∧ ¬ l.length < m ∧ l.length ≤ s.size) ∨ (m, l, y) = (0, [], 3) ∨ (m, l, y) = (0, [], 4) := by
    rcases hy with ⟨h, h5⟩ | h | h
    · omega
    · exact .inr (.inr (.inr (.inl h)))
    · exact .inr (.inr (.inr (.inr h)))
  clear hy hsl
  rcases h3 with ⟨rfl, h3, h6⟩ | ⟨rfl, h3, h4, h6⟩ | ⟨rfl, h3, h4, h6⟩ | h3 | h3
  · rw [tt_long h3]
    go_enter Try.func73, Try.ntmps73
    go_wp2_with fail
    refine hcall.out.mono ?_
    rintro e w' ⟨rfl, hb⟩
    unfold triple
    go_wp2_with fail
    go_ret3
    exact ⟨rfl, hb⟩
  · rw [tt_short h3 h4]
    go_enter Try.func73, Try.ntmps73
    go_wp2_with fail
    refine hcall.out.mono ?_
    rintro e w' ⟨rfl, hb⟩
    unfold triple
    go_wp2_with fail
    go_ret3
    exact ⟨rfl, hb⟩
  · rw [tt_fits h3 h4]
    go_enter Try.func73, Try.ntmps73
    go_wp2_with fail
    refine hcall.out.mono ?_
    rintro e w' ⟨rfl, hb⟩
    unfold triple
    go_wp2_with fail
    have hml : m ≤ l.length := by omega
    go_quiet (fail)
    go_wp2
    go_ret3
    refine ⟨?_, below_draws hb _⟩
    show Ending.returned (.tuple #[.string ((⟨l.toArray⟩ : ByteArray).extract 0 m), .string ((⟨l.toArray⟩ : ByteArray).extract m (⟨l.toArray⟩ : ByteArray).size), _]) = _
    rw [extract_from, extract_upto]
    rfl
  all_goals
    obtain ⟨rfl, rfl, rfl⟩ : m = 0 ∧ l = [] ∧ y = _ := by simpa using h3
    clear h3
    go_enter Try.func73, Try.ntmps73
    go_wp2_with fail
    refine hcall.out.mono ?_
    rintro e w' ⟨rfl, hb⟩
    unfold triple
    go_wp2_with fail
    go_ret3
    exact ⟨rfl, hb⟩
end Go.Proofs.Ythcoobennehkfaa
