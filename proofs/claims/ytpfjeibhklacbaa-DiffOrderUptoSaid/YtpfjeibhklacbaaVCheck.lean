/- Whether a row is right, by the program. -/
import Derived.Test.YtpfjeibhklacbaaVRight
import Derived.Test.YtpfjeibhklacbaaVals
namespace Go.Proofs.Ytpfjeibhklacbaa
open Go Go.RowKit

/-- 4 if a row is not right -/
def chkRow (l : List Vl) : Int := if l.all Vl.right && decide (l.length ≤ 8) then 0 else 4
theorem rightV_snoc {l : List Vl} {s : Vl} {k : Nat} (h : l[k]? = some s) : (l.take (k + 1)).all Vl.right = ((l.take k).all Vl.right && s.right) := by
  rw [List.take_add_one, h]; simp
theorem chkRow_bad {l : List Vl} {s : Vl} {k : Nat} (h : l[k]? = some s) (hs : s.right = false) : chkRow l = 4 := by
  unfold chkRow
  rw [if_neg]
  intro hc
  simp only [Bool.and_eq_true] at hc
  have := (List.all_eq_true.1 hc.1) s (List.mem_of_getElem? h)
  simp [hs] at this

set_option maxRecDepth 100000 in
set_option maxHeartbeats 1600000 in
theorem vcheck_any (A : Option Addr) (c : Nat) (l : List Vl) (w : World) (hl : Vals w w.heap.size A l) (hn : l.length ≤ maxLen) (hs : ∀ v ∈ l, v.s.size ≤ maxLen) :
    Calls Try.prog 33 #[.slice A l.length c] w fun e w' => e = .returned (.int .i64 (chkRow l)) ∧ Below w.heap.size w w' := by
  unfold maxLen at hn
  have Hl := Lib.hid (And.intro hl hs)
  clear hl hs
  have hright := fun v W h => Lib.hid (right_any v W h)
  unfold Vl.val at hright
  by_cases h8 : 8 < l.length
  · have hr : chkRow l = 4 := by unfold chkRow; rw [if_neg]; simp; omega
    rw [hr]
    clear hr
    go_enter Try.func33, Try.ntmps33
    go_wp2_with fail
    go_ret
    exact ⟨rfl, Below.refl _ _⟩
  · go_enter Try.func33, Try.ntmps33
    go_wp2_with fail
    go_loopw [10] (fun i wr => ∃ k : Nat, i = .int .i64 (k : Int) ∧ k ≤ l.length ∧ Below w.heap.size w wr ∧ (l.take k).all Vl.right = true)
      (fun i _ => l.length - (intOf i).toNat)
    case atStart => exact ⟨0, rfl, by omega, Below.refl _ _, rfl⟩
    case round =>
      obtain ⟨k, rfl, hk, hb, he⟩ := hrel
      by_cases hlt : k < l.length
      · have hx : l[k]? = some l[k] := List.getElem?_eq_getElem hlt
        obtain ⟨b, o, rfl, hB, hl⟩ := Hl.out.1 (by omega)
        obtain ⟨c0, c1, c2⟩ := (hl k _ hx).past hb hB
        have hsn := rightV_snoc hx
        have hbad := fun h => chkRow_bad hx h
        have hsz := Hl.out.2 _ (List.mem_of_getElem? hx)
        generalize l[k] = s at *
        have hcall := fun W => hright s W hsz
        have HH := Lib.hid (And.intro hb (And.intro he (And.intro hx (And.intro hsn hbad))))
        clear hb he hx hl hsn hbad hsz hright
        by_cases hr : s.right = true
        · simp only [hr] at hcall
          have HE := Lib.hid hr
          clear hr
          go_wp2_with fail
          refine (hcall _).out.mono ?_
          rintro e w1 ⟨rfl, h1⟩
          have H1 := Lib.hid (below_then ((Below.refl wr.heap.size wr).alloc (Nat.le_refl _) _) (by simp) h1)
          clear h1
          go_wp2_with fail
          obtain ⟨hb, he, hx, hsn, hbad⟩ := HH.out
          go_roundw
          case rel => exact ⟨k + 1, by go_num, by omega, hb.trans (H1.out.mono hb.size), by rw [hsn, he, HE.out]; rfl⟩
          case measure => simp [intOf]; omega
        · have hrf : s.right = false := by simpa using hr
          simp only [hrf] at hcall
          have HE := Lib.hid hrf
          clear hr hrf
          go_wp2_with fail
          refine (hcall _).out.mono ?_
          rintro e w1 ⟨rfl, h1⟩
          have H1 := Lib.hid (below_then ((Below.refl wr.heap.size wr).alloc (Nat.le_refl _) _) (by simp) h1)
          clear h1
          go_wp2_with fail
          go_ret
          obtain ⟨hb, he, hx, hsn, hbad⟩ := HH.out
          exact ⟨ret_i64 (hbad HE.out).symm, hb.trans (H1.out.mono hb.size)⟩
      · have hk2 : k = l.length := by omega
        subst hk2
        rw [List.take_length] at he
        have HH := Lib.hid (And.intro hb he)
        clear hb he
        go_wp2_with fail
        go_ret
        obtain ⟨hb, he⟩ := HH.out
        exact ⟨ret_i64 (by unfold chkRow; rw [if_pos]; simp [he]; omega), hb⟩

set_option maxRecDepth 100000 in
set_option maxHeartbeats 1600000 in
theorem vrefCheck_any (A : Option Addr) (c : Nat) (l : List Vl) (w : World) (hl : Vals w w.heap.size A l) (hn : l.length ≤ maxLen) (hs : ∀ v ∈ l, v.s.size ≤ maxLen) :
    Calls Try.prog 35 #[.slice A l.length c] w fun e w' => e = .returned (.int .i64 (chkRow l)) ∧ Below w.heap.size w w' := by
  unfold maxLen at hn
  have Hl := Lib.hid (And.intro hl hs)
  clear hl hs
  have hright := fun v W h => Lib.hid (refRight_any v W h)
  unfold Vl.val at hright
  · go_enter Try.func35, Try.ntmps35
    go_wp2_with fail
    go_loopw [7] (fun i wr => ∃ k : Nat, i = .int .i64 (k : Int) ∧ k ≤ l.length ∧ Below w.heap.size w wr ∧ (l.take k).all Vl.right = true)
      (fun i _ => l.length - (intOf i).toNat)
    case atStart => exact ⟨0, rfl, by omega, Below.refl _ _, rfl⟩
    case round =>
      obtain ⟨k, rfl, hk, hb, he⟩ := hrel
      by_cases hlt : k < l.length
      · have hx : l[k]? = some l[k] := List.getElem?_eq_getElem hlt
        obtain ⟨b, o, rfl, hB, hl⟩ := Hl.out.1 (by omega)
        obtain ⟨c0, c1, c2⟩ := (hl k _ hx).past hb hB
        have hsn := rightV_snoc hx
        have hbad := fun h => chkRow_bad hx h
        have hsz := Hl.out.2 _ (List.mem_of_getElem? hx)
        generalize l[k] = s at *
        have hcall := fun W => hright s W hsz
        have HH := Lib.hid (And.intro hb (And.intro he (And.intro hx (And.intro hsn hbad))))
        clear hb he hx hl hsn hbad hsz hright
        by_cases hr : s.right = true
        · simp only [hr] at hcall
          have HE := Lib.hid hr
          clear hr
          go_wp2_with fail
          refine (hcall _).out.mono ?_
          rintro e w1 ⟨rfl, h1⟩
          have H1 := Lib.hid (below_then ((Below.refl wr.heap.size wr).alloc (Nat.le_refl _) _) (by simp) h1)
          clear h1
          go_wp2_with fail
          obtain ⟨hb, he, hx, hsn, hbad⟩ := HH.out
          go_roundw
          case rel => exact ⟨k + 1, by go_num, by omega, hb.trans (H1.out.mono hb.size), by rw [hsn, he, HE.out]; rfl⟩
          case measure => simp [intOf]; omega
        · have hrf : s.right = false := by simpa using hr
          simp only [hrf] at hcall
          have HE := Lib.hid hrf
          clear hr hrf
          go_wp2_with fail
          refine (hcall _).out.mono ?_
          rintro e w1 ⟨rfl, h1⟩
          have H1 := Lib.hid (below_then ((Below.refl wr.heap.size wr).alloc (Nat.le_refl _) _) (by simp) h1)
          clear h1
          go_wp2_with fail
          go_ret
          obtain ⟨hb, he, hx, hsn, hbad⟩ := HH.out
          exact ⟨ret_i64 (hbad HE.out).symm, hb.trans (H1.out.mono hb.size)⟩
      · have hk2 : k = l.length := by omega
        subst hk2
        rw [List.take_length] at he
        have HH := Lib.hid (And.intro hb he)
        clear hb he
        go_wp2_with fail
        all_goals
          go_ret
          obtain ⟨hb, he⟩ := HH.out
          exact ⟨ret_i64 (by unfold chkRow; simp only [he, Bool.true_and, decide_eq_true_eq]; split <;> first | rfl | omega), hb⟩
end Go.Proofs.Ytpfjeibhklacbaa
