/- Whether all of a list of times are in their range. -/
import Derived.Test.YtpfjeibhklacbaaEach
import Derived.Test.YtpfjeibhklacbaaTimes
import Derived.Handy
import Derived.BigQuiet
namespace Go.Proofs.Ytpfjeibhklacbaa
open Go Go.RowKit

def Tm.right (t : Tm) : Bool := decide (t.e ≤ 4611686018427387904) && decide (max t.a t.b ≤ 4611686018427387904)
/-- 1 if one of them is not in its range -/
def chk (l : List Tm) : Int := if l.all Tm.right then 0 else 1
theorem right_snoc {l : List Tm} {s : Tm} {k : Nat} (h : l[k]? = some s) : (l.take (k + 1)).all Tm.right = ((l.take k).all Tm.right && s.right) := by
  rw [List.take_add_one, h]
  simp
theorem chk_bad {l : List Tm} {s : Tm} {k : Nat} (h : l[k]? = some s) (hs : s.right = false) : chk l = 1 := by
  unfold chk
  rw [if_neg]
  intro hc
  have := (List.all_eq_true.1 hc) s (List.mem_of_getElem? h)
  simp [hs] at this
theorem chk_good {l : List Tm} (h : l.all Tm.right = true) : chk l = 0 := by unfold chk; rw [if_pos h]

set_option maxRecDepth 100000 in
set_option maxHeartbeats 400000 in
theorem max_any (g o : Nat) (a b : Nat) (w : World) (h0 : w.cell? ⟨g, o, none⟩ = some (.int .u64 (a : Int))) (h1 : w.cell? ⟨g, o + 1, none⟩ = some (.int .u64 (b : Int))) :
    Calls Try.prog 52 #[.slice (some ⟨g, o, none⟩) 2 2] w fun e w' => e = .returned (.int .u64 ((max a b : Nat) : Int)) ∧ w = w' := by
  go_enter Try.func52, Try.ntmps52
  go_wp2_with fail
  go_rounds 2
  all_goals
    go_ret
    exact ⟨ret_u64 (by omega), rfl⟩

set_option maxRecDepth 100000 in
set_option maxHeartbeats 1600000 in
theorem check_any (A : Option Addr) (c : Nat) (l : List Tm) (w : World) (hl : Times w w.heap.size A l) (hn : l.length ≤ maxLen) :
    Calls Try.prog 34 #[.slice A l.length c] w fun e w' => e = .returned (.int .i64 (chk l)) ∧ Below w.heap.size w w' := by
  unfold maxLen at hn
  have Hl := Lib.hid hl
  clear hl
  go_enter Try.func34, Try.ntmps34
  go_wp2_with fail
  go_loopw [7] (fun i wr => ∃ k : Nat, i = .int .i64 (k : Int) ∧ k ≤ l.length ∧ Below w.heap.size w wr ∧ (l.take k).all Tm.right = true)
    (fun i _ => l.length - (intOf i).toNat)
  case atStart => exact ⟨0, rfl, by omega, Below.refl _ _, rfl⟩
  case round =>
    obtain ⟨k, rfl, hk, hb, he⟩ := hrel
    by_cases hlt : k < l.length
    · have hx : l[k]? = some l[k] := List.getElem?_eq_getElem hlt
      obtain ⟨b, o, rfl, hB, hl⟩ := Hl.out (by omega)
      obtain ⟨c0, c1, c2⟩ := (hl k _ hx).past hb hB
      have hsn := right_snoc hx
      have hbad := fun h => chk_bad hx h
      generalize l[k] = s at *
      have hw : wr.heap.size < (wr.alloc (.cells #[.int .u64 (s.e : Int), .int .u64 (s.a : Int), .int .u64 (s.b : Int)] 36)).heap.size := by simp
      have HH := Lib.hid (And.intro hb (And.intro he (And.intro hx (And.intro hsn hbad))))
      clear hb he hx hl hsn hbad hw
      by_cases h1 : s.e ≤ 4611686018427387904
      · go_wp2_with (go_at_call 52; refine (max_any _ _ s.a s.b _ ?_ ?_).mono ?_; (simp [go_sem]); (simp [go_sem]); rintro e w1 ⟨rfl, rfl⟩)
        · go_ret
          obtain ⟨hb, he, hx, hsn, hbad⟩ := HH.out
          exact ⟨ret_i64 (hbad (by simp [Tm.right]; omega)).symm, hb.alloc hb.size _⟩
        · obtain ⟨hb, he, hx, hsn, hbad⟩ := HH.out
          go_roundw
          case rel => exact ⟨k + 1, by go_num, by omega, hb.alloc hb.size _, by rw [hsn, he]; simp [Tm.right]; omega⟩
          case measure => simp [intOf]; omega
      · go_wp2_with fail
        go_ret
        obtain ⟨hb, he, hx, hsn, hbad⟩ := HH.out
        exact ⟨ret_i64 (hbad (by simp [Tm.right]; omega)).symm, hb.alloc hb.size _⟩
    · have hk2 : k = l.length := by omega
      have HH := Lib.hid (And.intro hb (And.intro he hk2))
      clear hb he hk2
      go_wp2_with fail
      go_ret
      obtain ⟨hb, he, rfl⟩ := HH.out
      exact ⟨ret_i64 (chk_good (by simpa using he)).symm, hb⟩

set_option maxRecDepth 100000 in
set_option maxHeartbeats 1600000 in
theorem refCheck_any (A : Option Addr) (c : Nat) (l : List Tm) (w : World) (hl : Times w w.heap.size A l) (hn : l.length ≤ maxLen) :
    Calls Try.prog 36 #[.slice A l.length c] w fun e w' => e = .returned (.int .i64 (chk l)) ∧ Below w.heap.size w w' := by
  unfold maxLen at hn
  have Hl := Lib.hid hl
  have i0 : ∀ (b c : Nat) w, (Instr.index 34 (.agg #[.int .u64 (b : Int), .int .u64 (c : Int)]) (.int .i64 0)).run Try.prog w = .ok (.int .u64 (b : Int)) w := fun _ _ _ => by kernel_rfl
  have i1 : ∀ (b c : Nat) w, (Instr.index 34 (.agg #[.int .u64 (b : Int), .int .u64 (c : Int)]) (.int .i64 1)).run Try.prog w = .ok (.int .u64 (c : Int)) w := fun _ _ _ => by kernel_rfl
  clear hl
  go_enter Try.func36, Try.ntmps36
  go_wp2_with fail
  go_loopw [9] (fun i wr => ∃ k : Nat, i = .int .i64 (k : Int) ∧ k ≤ l.length ∧ Below w.heap.size w wr ∧ (l.take k).all Tm.right = true)
    (fun i _ => l.length - (intOf i).toNat)
  case atStart => exact ⟨0, rfl, by omega, Below.refl _ _, rfl⟩
  case round =>
    obtain ⟨k, rfl, hk, hb, he⟩ := hrel
    by_cases hlt : k < l.length
    · have hx : l[k]? = some l[k] := List.getElem?_eq_getElem hlt
      obtain ⟨b, o, rfl, hB, hl⟩ := Hl.out (by omega)
      obtain ⟨c0, c1, c2⟩ := (hl k _ hx).past hb hB
      have hsn := right_snoc hx
      have hbad := fun h => chk_bad hx h
      generalize l[k] = s at *
      have hw : wr.heap.size < (wr.alloc (.cells #[.int .u64 (s.e : Int), .int .u64 (s.a : Int), .int .u64 (s.b : Int)] 36)).heap.size := by simp
      have HH := Lib.hid (And.intro hb (And.intro he (And.intro hx (And.intro hsn hbad))))
      clear hb he hx hl hsn hbad hw
      go_wp2_with fail
      all_goals try (go_rounds 3)
      all_goals
        obtain ⟨hb, he, hx, hsn, hbad⟩ := HH.out
        first
          | (go_ret
             exact ⟨ret_i64 (hbad (by simp [Tm.right]; omega)).symm, hb.alloc hb.size _⟩)
          | (go_roundw
             case rel => exact ⟨k + 1, by go_num, by omega, hb.alloc hb.size _, by rw [hsn, he]; simp [Tm.right]; omega⟩
             case measure => simp [intOf]; omega)
    · have hk2 : k = l.length := by omega
      have HH := Lib.hid (And.intro hb (And.intro he hk2))
      clear hb he hk2
      go_wp2_with fail
      go_ret
      obtain ⟨hb, he, rfl⟩ := HH.out
      exact ⟨ret_i64 (chk_good (by simpa using he)).symm, hb⟩
end Go.Proofs.Ytpfjeibhklacbaa
