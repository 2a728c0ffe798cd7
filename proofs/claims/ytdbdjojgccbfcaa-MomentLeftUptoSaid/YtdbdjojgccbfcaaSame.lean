/- Whether two lists of times are one. -/
import Derived.Test.YtdbdjojgccbfcaaEql
import Derived.Test.YtdbdjojgccbfcaaTimes
import Derived.BigQuiet
namespace Go.Proofs.Ytdbdjojgccbfcaa
open Go Go.RowKit

theorem take_same {l m : List Tm} {s t : Tm} {k : Nat} (h : l[k]? = some s) (h' : m[k]? = some t) (he : l.take k = m.take k) (hst : s = t) : l.take (k + 1) = m.take (k + 1) := by
  rw [List.take_add_one, List.take_add_one, h, h', he, hst]

set_option maxRecDepth 100000 in
set_option maxHeartbeats 1600000 in
theorem same_any (A A' : Option Addr) (c c' : Nat) (l m : List Tm) (w : World) (hl : Times w w.heap.size A l) (hm : Times w w.heap.size A' m) (hn : l.length ≤ maxLen) (hn' : m.length ≤ maxLen) :
    Calls Try.prog 6 #[.slice A l.length c, .slice A' m.length c'] w fun e w' => e = .returned (.bool (decide (l = m))) ∧ Below w.heap.size w w' := by
  unfold maxLen at hn hn'
  by_cases hlen : l.length = m.length
  · have hlb : ((l.length : Int) != (m.length : Int)) = false := by simp [hlen]
    have hn2 : (l.length : Int) = (m.length : Int) → True := fun _ => trivial
    have Hl := Lib.hid (And.intro hlen (And.intro hl hm))
    clear hl hm hlen hn2
    go_enter Try.func6, Try.ntmps6
    go_wp2_with fail
    go_loopw [13] (fun i wr => ∃ k : Nat, i = .int .i64 (k : Int) ∧ k ≤ l.length ∧ Below w.heap.size w wr ∧ l.take k = m.take k)
      (fun i _ => l.length - (intOf i).toNat)
    case atStart => exact ⟨0, rfl, by omega, Below.refl _ _, rfl⟩
    case round =>
      obtain ⟨k, rfl, hk, hb, he⟩ := hrel
      by_cases hlt : k < l.length
      · obtain ⟨hlen, hl, hm⟩ := Hl.out
        have hltm : k < m.length := by omega
        have hx : l[k]? = some l[k] := List.getElem?_eq_getElem hlt
        have hy : m[k]? = some m[k] := List.getElem?_eq_getElem hltm
        obtain ⟨b, o, rfl, hB, hl⟩ := hl (by omega)
        obtain ⟨b', o', rfl, hB', hm⟩ := hm (by omega)
        obtain ⟨c0, c1, c2⟩ := (hl k _ hx).past hb hB
        obtain ⟨d0, d1, d2⟩ := (hm k _ hy).past hb hB'
        generalize l[k] = s at *
        generalize m[k] = t at *
        have hne := neq_time s t
        have hgd := fun (x1 y1 : Operand) (xs ys : Array Value) (w : World) => grd_time .neq x1 y1 xs ys w
        unfold Tm.val at hne
        have HH := Lib.hid (And.intro hb (And.intro he (And.intro hx hy)))
        have q0 : (0 : Int) ≤ (k : Int) := by omega
        have q1 : (k : Int) < (l.length : Int) := by omega
        have q2 : (k : Int) < (m.length : Int) := by omega
        clear hb he hx hy hl hm hlen
        by_cases hst : s = t
        · have hv : (!eqT s t) = false := by rw [eqT_iff.2 hst]; rfl
          simp only [hv] at hne
          have HS := Lib.hid hst
          clear hst hv
          go_wp2_with fail
          go_quiet (fail)
          go_wp2_with fail
          obtain ⟨hb, he, hx, hy⟩ := HH.out
          go_roundw
          case rel => exact ⟨k + 1, by go_num, by omega, below_draws hb _, take_same hx hy he HS.out⟩
          case measure => simp [intOf]; omega
        · have hv : (!eqT s t) = true := by rw [Bool.not_eq_true', ← Bool.not_eq_true, eqT_iff]; exact hst
          simp only [hv] at hne
          have HS := Lib.hid hst
          clear hst hv
          go_wp2_with fail
          go_quiet (fail)
          go_wp2_with fail
          go_ret
          obtain ⟨hb, he, hx, hy⟩ := HH.out
          refine ⟨ret_bool (Eq.symm ?_), below_draws hb _⟩
          simp only [decide_eq_false_iff_not]
          intro h
          rw [h, hy] at hx
          exact HS.out (by injection hx with hx; exact hx.symm)
      · have hk2 : k = l.length := by omega
        have HH := Lib.hid (And.intro hb (And.intro he hk2))
        clear hb he hk2
        go_wp2_with fail
        go_ret
        obtain ⟨hb, he, rfl⟩ := HH.out
        refine ⟨ret_bool (Eq.symm ?_), hb⟩
        simp only [decide_eq_true_eq]
        have := Hl.out.1
        rw [List.take_length, this, List.take_length] at he
        exact he
  · have hd : decide (l = m) = false := by simp; intro h; exact hlen (by rw [h])
    rw [hd]
    have hlb : ((l.length : Int) != (m.length : Int)) = true := by simp; omega
    clear hlen hd hl hm
    go_enter Try.func6, Try.ntmps6
    go_wp2_with fail
    go_ret
    exact ⟨rfl, Below.refl _ _⟩
end Go.Proofs.Ytdbdjojgccbfcaa
