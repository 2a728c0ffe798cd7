/- The reference's Same tells whether two rows are one. -/
import Derived.Test.YtpfjeibhklacbaaVQuiet
import Derived.Test.YtpfjeibhklacbaaVRefCompare
import Derived.Laws.StructEq
import Derived.WalkSpells
import Derived.BigQuiet
namespace Go.Proofs.Ytpfjeibhklacbaa
open Go Go.RowKit

instance : DecidableEq Vl := fun a b => decidable_of_iff (a.t = b.t ∧ a.n = b.n ∧ a.s = b.s) ⟨fun ⟨h1, h2, h3⟩ => by cases a; cases b; simp_all, fun h => by subst h; exact ⟨rfl, rfl, rfl⟩⟩
theorem same_take {a b : List Vl} {k : Nat} {x y : Vl} (h : a.take k = b.take k) (hx : a[k]? = some x) (hy : b[k]? = some y) (e : x = y) : a.take (k + 1) = b.take (k + 1) := by
  rw [List.take_add_one, List.take_add_one, h, hx, hy, e]
theorem same_ne {a b : List Vl} {k : Nat} {x y : Vl} (hx : a[k]? = some x) (hy : b[k]? = some y) (e : x ≠ y) : a ≠ b := by
  rintro rfl
  rw [hx] at hy
  exact e (Option.some.inj hy)
theorem grd_val (op : BinOp) (x y : Operand) (xs ys : Array Value) (w : World) : (eqGuard op 86 x y (.agg xs) (.agg ys)).run Try.prog w = .ok () w := run_eqGuard_agg w op _ x y xs ys (by kernel_rfl)
def eqV (x y : Vl) : Bool := (x.t == y.t) && ((x.n == y.n) && (x.s.toList == y.s.toList))
theorem eqV_iff {x y : Vl} : eqV x y = true ↔ x = y := by
  obtain ⟨a, b, c⟩ := x
  obtain ⟨a', b', c'⟩ := y
  simp only [eqV, Bool.and_eq_true, beq_iff_eq, Vl.mk.injEq]
  refine ⟨fun ⟨h1, h2, h3⟩ => ⟨h1, h2, ?_⟩, fun ⟨h1, h2, h3⟩ => ⟨h1, h2, by rw [h3]⟩⟩
  rw [ByteArray.toList_eq, ByteArray.toList_eq] at h3
  cases c; cases c'; simp only at h3; congr 1; exact Array.toList_inj.1 h3
theorem eqIn_val (x y : Vl) (w : World) : (Op.equalIn 10000 86 x.val y.val).run Try.prog w = .ok (eqV x y) w := by
  have u0 := Try.underlying4
  have u1 := Try.underlying2
  have u2 := Try.underlying9
  have z0 := Try.sizeOf4
  have a0 := Try.isAgg4
  have z1 := Try.sizeOf2
  have a1 := Try.isAgg2
  have z2 := Try.sizeOf9
  have a2 := Try.isAgg9
  have hS : Try.prog.underlying 86 = some (.struct (Try.prog.fieldsOf 86)) := by kernel_rfl
  have hp : Try.prog.stoodInHeld 86 = false := by kernel_rfl
  unfold Vl.val
  rw [show (10000 : Nat) = 9998 + 1 + 1 from rfl, run_equalIn_agg w _ _ _ _ hS hp]
  simp only [Program.fieldsOf, Try.underlying86, eqV]
  cases h0 : (x.t == y.t) <;> cases h1 : (x.n == y.n) <;>
    simp [Op.eqFields, part, a0, a1, a2, z0, z1, z2, h0, h1, run_equalIn_bool' w _ _ _ _ u0, run_equalIn_int w _ _ _ _ _ _ u1, run_equalIn_string w _ _ _ _ u2, go_sem]
  all_goals (split <;> simp_all)
theorem neq_val (x y : Vl) (w : World) : (binOp .neq 86 x.val y.val).run Try.prog w = .ok (.bool (!eqV x y)) w := by
  have h := eqIn_val x y w
  unfold Vl.val at h ⊢
  rw [run_neq_struct, h]; rfl
set_option maxRecDepth 100000 in
set_option maxHeartbeats 1600000 in
theorem vsame_any (A A' : Option Addr) (c c' : Nat) (l m : List Vl) (w : World) (hl : Vals w w.heap.size A l) (hm : Vals w w.heap.size A' m) (hn : l.length ≤ maxLen) (hn' : m.length ≤ maxLen) :
    Calls Try.prog 31 #[.slice A l.length c, .slice A' m.length c'] w fun e w' => e = .returned (.bool (decide (l = m))) ∧ Below w.heap.size w w' := by
  unfold maxLen at hn hn'
  by_cases hlen : l.length = m.length
  · have Hl := Lib.hid (And.intro hl hm)
    have HLen := Lib.hid hlen
    have qq : ((l.length : Int) != (m.length : Int)) = false := by simp [hlen]
    clear hl hm
    have hle := Nat.le_of_eq hlen
    have hge := Nat.le_of_eq hlen.symm
    clear hlen
    go_enter Try.func31, Try.ntmps31
    go_wp2_with fail
    go_loopw [13] (fun i wr => ∃ k : Nat, i = .int .i64 (k : Int) ∧ k ≤ l.length ∧ Below w.heap.size w wr ∧ l.take k = m.take k)
      (fun i _ => l.length - (intOf i).toNat)
    case atStart => exact ⟨0, rfl, by omega, Below.refl _ _, rfl⟩
    case round =>
      obtain ⟨k, rfl, hk, hb, hs⟩ := hrel
      by_cases hlt : k < l.length
      · have hltm : k < m.length := by omega
        have hx : l[k]? = some l[k] := List.getElem?_eq_getElem hlt
        have hy : m[k]? = some m[k] := List.getElem?_eq_getElem hltm
        obtain ⟨b, o, rfl, hB, hl⟩ := Hl.out.1 (by omega)
        obtain ⟨b', o', rfl, hB', hm⟩ := Hl.out.2 (by omega)
        obtain ⟨c0, c1, c2⟩ := (hl k _ hx).past hb hB
        obtain ⟨d0, d1, d2⟩ := (hm k _ hy).past hb hB'
        have hst := fun e => same_take hs hx hy e
        have hsn := fun e => same_ne hx hy e
        generalize l[k] = x at *
        generalize m[k] = y at *
        have hne := neq_val x y
        have hgd := fun (x1 y1 : Operand) (xs ys : Array Value) (w : World) => grd_val .neq x1 y1 xs ys w
        unfold Vl.val at hne
        have q0 : (0 : Int) ≤ (k : Int) := by omega
        have q1 : (k : Int) < (l.length : Int) := by omega
        have q2 : (k : Int) < (m.length : Int) := by omega
        have HH := Lib.hid (And.intro hb (And.intro hst hsn))
        clear hb hs hx hy hl hm hst hsn
        by_cases he : x = y
        · have hv : (!eqV x y) = false := by rw [eqV_iff.2 he]; rfl
          simp only [hv] at hne
          have HE := Lib.hid he
          clear he hv
          go_wp2_with fail
          go_quiet (fail)
          go_wp2_with fail
          obtain ⟨hb, hst, hsn⟩ := HH.out
          go_roundw
          case rel => exact ⟨k + 1, by go_num, by omega, below_draws hb _, hst HE.out⟩
          case measure => simp [intOf]; omega
        · have hv : (!eqV x y) = true := by rw [Bool.not_eq_true', ← Bool.not_eq_true, eqV_iff]; exact he
          simp only [hv] at hne
          have HE := Lib.hid he
          clear he hv
          go_wp2_with fail
          go_quiet (fail)
          go_wp2_with fail
          go_ret
          obtain ⟨hb, hst, hsn⟩ := HH.out
          exact ⟨ret_bool (decide_eq_false (hsn HE.out)).symm, below_draws hb _⟩
      · have hk2 : k = l.length := by omega
        subst hk2
        rw [List.take_length, List.take_of_length_le (by omega)] at hs
        have HH := Lib.hid (And.intro hb hs)
        clear hb hs
        go_wp2_with fail
        go_ret
        exact ⟨ret_bool (decide_eq_true HH.out.2).symm, HH.out.1⟩
  · have q1 : ((l.length : Int) != (m.length : Int)) = true := by simp; omega
    have hne : decide (l = m) = false := decide_eq_false (fun e => hlen (by rw [e]))
    have HN := Lib.hid hne
    clear hlen hl hm hne
    go_enter Try.func31, Try.ntmps31
    go_wp2_with fail
    go_ret
    exact ⟨ret_bool HN.out.symm, Below.refl _ _⟩
end Go.Proofs.Ytpfjeibhklacbaa
