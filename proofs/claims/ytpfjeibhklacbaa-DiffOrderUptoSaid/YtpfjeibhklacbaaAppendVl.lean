/- Values appended to a row of the call's own. -/
import Derived.Test.YtpfjeibhklacbaaLies
import Derived.Test.YtpfjeibhklacbaaVals
import Derived.Handy
namespace Go.Proofs.Ytpfjeibhklacbaa
open Go Go.RowKit

instance : Inhabited Vl := ⟨⟨false, 0, ⟨#[]⟩⟩⟩
theorem vals_of_lies {W : World} {B : Nat} {A : Option Addr} {l : List Vl} (h : Lies 3 Vl.cells W B A l) : Vals W B A l := fun hp => by
  obtain ⟨b, o, e, hb, hc⟩ := h hp
  exact ⟨b, o, e, hb, fun i v hi => ⟨hc i v hi 0 _ rfl, hc i v hi 1 _ rfl, hc i v hi 2 _ rfl⟩⟩
theorem lies_of_vals {W : World} {B : Nat} {A : Option Addr} {l : List Vl} (h : Vals W B A l) : Lies 3 Vl.cells W B A l := fun hp => by
  obtain ⟨b, o, e, hb, hc⟩ := h hp
  refine ⟨b, o, e, hb, fun i v hi j u hj => ?_⟩
  obtain ⟨h0, h1, h2⟩ := hc i v hi
  match j, hj with
  | 0, hj => obtain rfl : Value.bool v.t = u := by simpa [Vl.cells] using hj
             exact h0
  | 1, hj => obtain rfl : Value.int .i64 v.n = u := by simpa [Vl.cells] using hj
             exact h1
  | 2, hj => obtain rfl : Value.string v.s = u := by simpa [Vl.cells] using hj
             exact h2
theorem infoVl : (Try.prog.info? 86).map (fun i => (i.zero, i.size, i.bytes)) = some (some (Vl.mk false 0 ⟨#[]⟩).val, 3, 32) := by kernel_rfl
theorem vl_one (x : Vl) : ∀ u ∈ x.cells, u.oneCell' = true := by
  intro u hu
  simp [Vl.cells] at hu
  rcases hu with rfl | rfl | rfl <;> rfl
theorem vals_of_own {w : World} {base : Nat} {v : Value} {l : List Vl} {n : Nat} (hn : n = l.length) (h : w.ownsRow base 86 3 v n (l.flatMap Vl.cells)) :
    ∃ A c, v = .slice A l.length c ∧ l.length ≤ c ∧ c ≤ maxLen ∧ Vals w w.heap.size A l := by
  obtain ⟨A, c, h1, h2, h3, h4⟩ := lies_of_own (size := 3) (cells := Vl.cells) (by decide) (fun _ => rfl) hn h
  exact ⟨A, c, h1, h2, h3, vals_of_lies h4⟩
/-- 'append(v, s...)', s a slice of values -/
theorem wpList_append_vl (w : World) {ops : Array Oper} {rest : List Oper} {o : Oper} {a : Act} {Q : Exit → Act → World → Prop} (hgd : o.guard = none) (s x : Operand)
    (ho : o.op = .call { callee := .builtin .append, args := #[s, x], argTypes := #[32, 32] })
    (base : Nat) (v : Value) (n : Nat) (xs : List Value) (hs : a.eval s = v) (hown : w.ownsRow base 86 3 v n xs)
    (B : Nat) (A : Option Addr) (c : Nat) (l : List Vl) (hx : a.eval x = .slice A l.length c) (hl : Vals w B A l) (hn : (n + l.length) * 32 ≤ 140737488355328) (hbase : base ≤ w.heap.size)
    (h : ∀ v' w', w'.ownsRow base 86 3 v' (n + l.length) (xs ++ l.flatMap Vl.cells) → Below base w w' → wpList Try.prog ops Q rest (a.put o.dst v') w') :
    wpList Try.prog ops Q (o :: rest) a w := by
  obtain ⟨i0, hi, hz0, hz1, hz2⟩ := info_parts infoVl
  exact wpList_append_lies w hgd s x _ _ ho i0 _ 32 Try.underlying32 hi hz0 hz1 hz2 rfl (by decide) (fun _ => rfl) vl_one base v n xs hs hown c hx (lies_of_vals hl) (by unfold maxLen; omega) hn hbase h
end Go.Proofs.Ytpfjeibhklacbaa
