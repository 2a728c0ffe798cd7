/- Beyond: whether one of a list is ahead of a time. -/
import Derived.Test.YtdbdjojgccbfcaaAhead
import Derived.Test.YtdbdjojgccbfcaaRefAhead
import Derived.Test.YtdbdjojgccbfcaaTimes
namespace Go.Proofs.Ytdbdjojgccbfcaa
open Go Go.RowKit

/-- one of l is ahead of t -/
def beyond (l : List Tm) (t : Tm) : Bool := l.any (·.le t)
theorem beyond_snoc {l : List Tm} {t s : Tm} {k : Nat} (h : l[k]? = some s) : beyond (l.take (k + 1)) t = (beyond (l.take k) t || s.le t) := by
  unfold beyond
  rw [List.take_add_one, h]
  simp
theorem beyond_hit {l : List Tm} {t s : Tm} {k : Nat} (h : l[k]? = some s) (hs : s.le t = true) : beyond l t = true := by
  unfold beyond
  rw [List.any_eq_true]
  exact ⟨s, List.mem_of_getElem? h, hs⟩

set_option maxRecDepth 100000 in
set_option maxHeartbeats 800000 in
theorem beyond_any (A : Option Addr) (c : Nat) (l : List Tm) (t : Tm) (w : World) (hl : Times w w.heap.size A l) (hn : l.length ≤ maxLen) :
    Calls Try.prog 9 #[.slice A l.length c, t.val] w fun e w' => e = .returned (.bool (beyond l t)) ∧ Below w.heap.size w w' := by
  unfold maxLen at hn
  have hcall := fun (s : Tm) (W : World) => Lib.hid (ahead_any s t W)
  unfold Tm.val at hcall ⊢
  have Hl := Lib.hid hl
  clear hl
  go_enter Try.func9, Try.ntmps9
  go_wp2_with fail
  go_loopw [9] (fun i wr => ∃ k : Nat, i = .int .i64 (k : Int) ∧ k ≤ l.length ∧ beyond (l.take k) t = false ∧ Below w.heap.size w wr ∧ w.heap.size < wr.heap.size ∧ TmAt wr w.heap.size 0 t)
    (fun i _ => l.length - (intOf i).toNat)
  case atStart =>
    exact ⟨0, rfl, by omega, rfl, (Below.refl _ _).alloc (Nat.le_refl _) _, by simp, by simp [TmAt, go_sem]⟩
  case round =>
    obtain ⟨k, rfl, hk, hno, hb, hs, ht⟩ := hrel
    obtain ⟨t0, t1, t2⟩ := ht
    by_cases hlt : k < l.length
    · have hx : l[k]? = some l[k] := List.getElem?_eq_getElem hlt
      obtain ⟨b, o, rfl, hB, hc⟩ := Hl.out (by omega)
      obtain ⟨c0, c1, c2⟩ := (hc k _ hx).past hb hB
      have hsn := beyond_snoc (t := t) hx
      have hhit := fun h => beyond_hit (t := t) hx h
      generalize l[k] = s at *
      have hbs : b < w.heap.size := hB
      have HH := Lib.hid (And.intro hno (And.intro hsn (And.intro hhit (And.intro hx (And.intro hb (And.intro t0 (And.intro t1 t2)))))))
      clear hno hsn hhit hx hc hB hb
      by_cases hle : s.le t = true
      · have hcall := fun W => hcall s W
        simp only [hle] at hcall
        have HL := Lib.hid hle
        clear hle
        go_wp2_with fail
        refine (hcall _).out.mono ?_
        rintro e w1 ⟨rfl, h1⟩
        go_wp2_with fail
        go_ret
        obtain ⟨hno, hsn, hhit, hx, hb, t0, t1, t2⟩ := HH.out
        exact ⟨ret_bool (hhit HL.out).symm, hb.trans (((Below.refl _ _).alloc (by omega) _).trans (h1.mono (by simp; omega)))⟩
      · have hle : s.le t = false := by simpa using hle
        have hcall := fun W => hcall s W
        simp only [hle] at hcall
        have HL := Lib.hid hle
        clear hle
        go_wp2_with fail
        refine (hcall _).out.mono ?_
        rintro e w1 ⟨rfl, h1⟩
        go_wp2_with fail
        obtain ⟨hno, hsn, hhit, hx, hb, t0, t1, t2⟩ := HH.out
        have h2 : Below w.heap.size w w1 := hb.trans (((Below.refl _ _).alloc (by omega) _).trans (h1.mono (by simp; omega)))
        have h3 : Below wr.heap.size wr w1 := ((Below.refl _ _).alloc (Nat.le_refl _) _).trans (h1.mono (by simp))
        go_roundw
        case rel => exact ⟨k + 1, by go_num, by omega, by rw [hsn, hno, HL.out]; rfl, h2, by have := h3.size; omega, (TmAt.past ⟨t0, t1, t2⟩ h3 hs)⟩
        case measure => simp [intOf]; omega
    · have hk2 : k = l.length := by omega
      have HH := Lib.hid (And.intro hno (And.intro hb hk2))
      clear hno hb hk2
      go_wp2_with fail
      go_ret
      obtain ⟨hno, hb, rfl⟩ := HH.out
      exact ⟨ret_bool (by rw [← hno]; simp), hb⟩

set_option maxRecDepth 100000 in
set_option maxHeartbeats 800000 in
theorem refBeyond_any (A : Option Addr) (c : Nat) (l : List Tm) (t : Tm) (w : World) (hl : Times w w.heap.size A l) (hn : l.length ≤ maxLen) :
    Calls Try.prog 10 #[.slice A l.length c, t.val] w fun e w' => e = .returned (.bool (beyond l t)) ∧ Below w.heap.size w w' := by
  unfold maxLen at hn
  have hcall := fun (s : Tm) (W : World) => Lib.hid (refAhead_any s t W)
  unfold Tm.val at hcall ⊢
  have Hl := Lib.hid hl
  clear hl
  go_enter Try.func10, Try.ntmps10
  go_wp2_with fail
  go_loopw [9] (fun i wr => ∃ k : Nat, i = .int .i64 (k : Int) ∧ k ≤ l.length ∧ beyond (l.take k) t = false ∧ Below w.heap.size w wr ∧ w.heap.size < wr.heap.size ∧ TmAt wr w.heap.size 0 t)
    (fun i _ => l.length - (intOf i).toNat)
  case atStart =>
    exact ⟨0, rfl, by omega, rfl, (Below.refl _ _).alloc (Nat.le_refl _) _, by simp, by simp [TmAt, go_sem]⟩
  case round =>
    obtain ⟨k, rfl, hk, hno, hb, hs, ht⟩ := hrel
    obtain ⟨t0, t1, t2⟩ := ht
    by_cases hlt : k < l.length
    · have hx : l[k]? = some l[k] := List.getElem?_eq_getElem hlt
      obtain ⟨b, o, rfl, hB, hc⟩ := Hl.out (by omega)
      obtain ⟨c0, c1, c2⟩ := (hc k _ hx).past hb hB
      have hsn := beyond_snoc (t := t) hx
      have hhit := fun h => beyond_hit (t := t) hx h
      generalize l[k] = s at *
      have hbs : b < w.heap.size := hB
      have HH := Lib.hid (And.intro hno (And.intro hsn (And.intro hhit (And.intro hx (And.intro hb (And.intro t0 (And.intro t1 t2)))))))
      clear hno hsn hhit hx hc hB hb
      by_cases hle : s.le t = true
      · have hcall := fun W => hcall s W
        simp only [hle] at hcall
        have HL := Lib.hid hle
        clear hle
        go_wp2_with fail
        refine (hcall _).out.mono ?_
        rintro e w1 ⟨rfl, h1⟩
        go_wp2_with fail
        go_ret
        obtain ⟨hno, hsn, hhit, hx, hb, t0, t1, t2⟩ := HH.out
        exact ⟨ret_bool (hhit HL.out).symm, hb.trans (((Below.refl _ _).alloc (by omega) _).trans (h1.mono (by simp; omega)))⟩
      · have hle : s.le t = false := by simpa using hle
        have hcall := fun W => hcall s W
        simp only [hle] at hcall
        have HL := Lib.hid hle
        clear hle
        go_wp2_with fail
        refine (hcall _).out.mono ?_
        rintro e w1 ⟨rfl, h1⟩
        go_wp2_with fail
        obtain ⟨hno, hsn, hhit, hx, hb, t0, t1, t2⟩ := HH.out
        have h2 : Below w.heap.size w w1 := hb.trans (((Below.refl _ _).alloc (by omega) _).trans (h1.mono (by simp; omega)))
        have h3 : Below wr.heap.size wr w1 := ((Below.refl _ _).alloc (Nat.le_refl _) _).trans (h1.mono (by simp))
        go_roundw
        case rel => exact ⟨k + 1, by go_num, by omega, by rw [hsn, hno, HL.out]; rfl, h2, by have := h3.size; omega, (TmAt.past ⟨t0, t1, t2⟩ h3 hs)⟩
        case measure => simp [intOf]; omega
    · have hk2 : k = l.length := by omega
      have HH := Lib.hid (And.intro hno (And.intro hb hk2))
      clear hno hb hk2
      go_wp2_with fail
      go_ret
      obtain ⟨hno, hb, rfl⟩ := HH.out
      exact ⟨ret_bool (by rw [← hno]; simp), hb⟩
end Go.Proofs.Ytdbdjojgccbfcaa
