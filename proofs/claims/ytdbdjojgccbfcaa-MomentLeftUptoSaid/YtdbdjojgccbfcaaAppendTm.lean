/- Times appended to a row of the call's own, the source nil or not. -/
import Derived.Test.YtdbdjojgccbfcaaClone
namespace Go.Proofs.Ytdbdjojgccbfcaa
open Go Go.RowKit Go.Sort Go.Lib

theorem run_append_nothing {P : Program} (w : World) (base : Nat) (t ty e : TypeId) (i : TypeInfo) (size : Nat) (ht : P.underlying t = some (.slice e)) (hi : P.info? e = some i) (v : Value) (n : Nat) (xs : List Value) (h : w.ownsRow base e size v n xs) (c : Nat) :
    (Builtin.append_ #[t, t] ty #[v, .slice none 0 c]).run P w = .ok v w := by
  rcases h.2 with ⟨rfl, _⟩ | ⟨g, cap, cur, rfl, _, _, hnc, _⟩
  · simp [Builtin.append_, run_underlying ht, typeInfo, hi, sizeOf, Builtin.firstCells, Builtin.lenOf]
  · simp [Builtin.append_, run_underlying ht, typeInfo, hi, sizeOf, Builtin.firstCells, Builtin.lenOf, storeCells, hnc]

/-- 'append(v, s...)', s a slice of times -/
theorem wpList_append_tm (w : World) {ops : Array Oper} {rest : List Oper} {o : Oper} {a : Act} {Q : Exit → Act → World → Prop} (hgd : o.guard = none) (s x : Operand)
    (ho : o.op = .call { callee := .builtin .append, args := #[s, x], argTypes := #[22, 22] })
    (base : Nat) (v : Value) (n : Nat) (xs : List Value) (hs : a.eval s = v) (hown : w.ownsRow base 26 3 v n xs)
    (B : Nat) (A : Option Addr) (c : Nat) (l : List Tm) (hx : a.eval x = .slice A l.length c) (hl : Times w B A l) (hn : (n + l.length) * 24 ≤ 140737488355328) (hbase : base ≤ w.heap.size)
    (h : ∀ v' w', w'.ownsRow base 26 3 v' (n + l.length) (xs ++ l.flatMap Tm.cells) → Below base w w' → wpList Try.prog ops Q rest (a.put o.dst v') w') :
    wpList Try.prog ops Q (o :: rest) a w := by
  obtain ⟨i0, hi, hz0, hz1, hz2⟩ := info_parts infoTm
  refine wpList_plain hgd fun K hK => ?_
  obtain ⟨v', w', hrun, ho', hb⟩ : ∃ v' w', (Builtin.append_ #[22, 22] o.type #[v, .slice A l.length c]).run Try.prog w = .ok v' w' ∧ w'.ownsRow base 26 3 v' (n + l.length) (xs ++ l.flatMap Tm.cells) ∧ Below base w w' := by
    cases A with
    | none =>
      have h0 : l = [] := by
        cases l with
        | nil => rfl
        | cons x l => obtain ⟨_, _, e, _⟩ := hl (by simp); cases e
      subst h0
      exact ⟨v, w, run_append_nothing w base _ _ _ i0 3 Try.underlying22 hi v n xs hown c, by simpa using hown, Below.refl _ _⟩
    | some ad =>
      obtain ⟨v', w', hr, h2, h3, _, _⟩ := run_append_own_at (P := Try.prog) w base 22 o.type 26 i0 _ 3 24 Try.underlying22 hi hz0 hz1 hz2 rfl (by decide) v n xs hown ad l.length c (l.flatMap Tm.cells) (flat_len l) (times_news hl) (flat_one l) (by unfold maxLen; omega) hn hbase
      exact ⟨v', w', hr, h2, (Below.refl base w).grown h3 hbase (fun k hk => (hown.lt k hk).1)⟩
  unfold Oper.wp execOp
  simp only [ho, resolve, invoke, builtin, Sem.run_bind, Sem.run_pure, Result.andThen_ok, List.map_toArray, List.map_cons, List.map_nil, hs, hx, hrun]
  exact hK _ _ (h v' w' ho' hb)
end Go.Proofs.Ytdbdjojgccbfcaa
