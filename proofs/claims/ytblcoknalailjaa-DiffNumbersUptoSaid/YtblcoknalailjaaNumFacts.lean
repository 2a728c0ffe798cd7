/- Plain facts on sums of a list turned round, of each number less itself, and of as many of one. -/
import Derived.Test.YtblcoknalailjaaProg
import Derived.Test.YtblcoknalailjaaSmFacts
import Derived.Handy
import Derived.Test.YtblcoknalailjaaIntsOwn
namespace Go.Proofs.Ytblcoknalailjaa
open Go Go.RowKit

/-- the last k of a list, turned round -/
def turnedL (l : List Int) (k : Nat) : List Int := (l.drop k).reverse
/-- each of the last ones that has a negation, and it, the last one first -/
def bothL (l : List Int) (k : Nat) : List Int := (turnedL l k).flatMap fun n => if -9223372036854775807 < n then [n, -n] else []
theorem turned_step {l : List Int} {k : Nat} {n : Int} (h : l[k]? = some n) : turnedL l k = turnedL l (k + 1) ++ [n] := by
  obtain ⟨hk, e⟩ := List.getElem?_eq_some_iff.1 h
  unfold turnedL
  rw [List.drop_eq_getElem_cons hk, List.reverse_cons, e]
theorem both_step {l : List Int} {k : Nat} {n : Int} (h : l[k]? = some n) : bothL l k = bothL l (k + 1) ++ (if -9223372036854775807 < n then [n, -n] else []) := by
  unfold bothL
  rw [turned_step h]
  simp
theorem turned_end (l : List Int) : turnedL l l.length = [] ∧ bothL l l.length = [] := by
  constructor <;> simp [turnedL, bothL]
theorem turned_len (l : List Int) (k : Nat) : (turnedL l k).length = l.length - k := by simp [turnedL]
theorem flat_two (l : List Int) : (l.flatMap fun n => if -9223372036854775807 < n then [n, -n] else []).length ≤ 2 * l.length := by
  induction l with
  | nil => simp
  | cons x l ih =>
    rw [List.flatMap_cons, List.length_append, List.length_cons]
    have : (if -9223372036854775807 < x then [x, -x] else []).length ≤ 2 := by split <;> simp
    omega
theorem both_len (l : List Int) (k : Nat) : (bothL l k).length ≤ 2 * (l.length - k) := by
  rw [← turned_len]; exact flat_two _
theorem turned_sum (l : List Int) : (turnedL l 0).sum = l.sum := by simp [turnedL]
theorem both_sum (l : List Int) (k : Nat) : (bothL l k).sum = 0 := by
  unfold bothL
  induction turnedL l k with
  | nil => rfl
  | cons x l ih =>
    rw [List.flatMap_cons, List.sum_append, ih]
    split <;> simp <;> omega
theorem turned_fit {l : List Int} (h : Fit64 l) (k : Nat) : Fit64 (turnedL l k) := fun n hn => h n (List.mem_of_mem_drop (List.mem_reverse.1 hn))
theorem both_fit {l : List Int} (h : Fit64 l) (k : Nat) : Fit64 (bothL l k) := fun n hn => by
  obtain ⟨x, hx, hy⟩ := List.mem_flatMap.1 hn
  have h1 := turned_fit h k x hx
  split at hy
  · simp at hy
    rcases hy with rfl | rfl <;> omega
  · cases hy
theorem many_sum (n : Int) (k : Nat) : (List.replicate k n).sum = n * (k : Int) := by
  induction k with
  | zero => simp
  | succ k ih => rw [List.replicate_succ, List.sum_cons, ih, Int.natCast_succ, Int.mul_add, Int.mul_one]; omega
/-- 'append(s, x, y)' onto a row of the call's own: the new elements lie in a block of their own. -/
theorem wpList_push2 {P : Program} (w : World) {ops : Array Oper} {rest : List Oper} {o : Oper} {a : Act} {Q : Exit → Act → World → Prop} (hgd : o.guard = none) (s x : Operand) (t : TypeId)
    (ho : o.op = .call { callee := .builtin .append, args := #[s, x], argTypes := #[t, t] })
    (base : Nat) (e : TypeId) (i : TypeInfo) (z : Value) (size bytes m : Nat) (ht : P.underlying t = some (.slice e)) (hi : P.info? e = some i) (hz : i.zero = some z)
    (hsize : i.size = size) (hby : i.bytes = bytes) (hzs : z.cells.size = size) (hsz : 0 < size)
    (v : Value) (n : Nat) (xs : List Value) (hs : a.eval s = v) (hown : w.ownsRow base e size v n xs)
    (news : Array Value) (hx : a.eval x = .slice (some ⟨w.heap.size, 0, none⟩) m m) (hl : news.size = m * size) (h1 : ∀ u ∈ news.toList, u.oneCell' = true)
    (h63 : n + m ≤ maxLen) (hbytes : (n + m) * bytes ≤ 140737488355328) (hbase : base ≤ w.heap.size)
    (h : ∀ v' w', w'.ownsRow base e size v' (n + m) (xs ++ news.toList) → Below base w w' → (v'.ownBlock = v.ownBlock ∨ v'.ownBlock = some (w.heap.size + 1)) → w.grownBy w' v.ownBlock → wpList P ops Q rest (a.put o.dst v') w') :
    wpList P ops Q (o :: rest) a (w.alloc (.cells news e)) := by
  have hc : ∀ j u, news.toList[j]? = some u → (w.alloc (.cells news e)).cell? ((⟨w.heap.size, 0, none⟩ : Addr).add j) = some u := by
    intro j u hu
    have : (⟨w.heap.size, 0, none⟩ : Addr).add j = ⟨w.heap.size, j, none⟩ := by unfold Addr.add; split <;> simp_all
    rw [this, World.cell?_alloc_at _ _ _ _ rfl]
    simpa using hu
  obtain ⟨v', w', hrun, ho', hg, _, hat⟩ := run_append_own_at (P := P) (w.alloc (.cells news e)) base t o.type e i z size bytes ht hi hz hsize hby hzs hsz v n xs (hown.alloc _)
    ⟨w.heap.size, 0, none⟩ m m news.toList (by simpa using hl) hc h1 h63 hbytes (by simp; omega)
  refine wpList_plain hgd fun K hK => ?_
  unfold Oper.wp execOp
  simp only [ho, resolve, invoke, builtin, Sem.run_bind, Sem.run_pure, Result.andThen_ok, List.map_toArray, List.map_cons, List.map_nil, hs, hx, hrun]
  have hg2 : w.grownBy w' v.ownBlock := ⟨hg.os, hg.tape, hg.output, Nat.le_trans (by simp) hg.size, fun k hk hne => (hg.block k (by simp; omega) hne).trans (Below.heap_alloc w _ k hk)⟩
  exact hK _ _ (h v' w' ho' ((Below.refl base w).grown hg2 hbase (fun k hk => (hown.lt k hk).1)) (by simpa using hat) hg2)
theorem lies_pair {W : World} {N : Nat} (x y : Int) (h0 : W.cell? ⟨N, 0, none⟩ = some (.int .i64 x)) (h1 : W.cell? ⟨N, 1, none⟩ = some (.int .i64 y)) : Lies 1 (fun n => [cellI n]) W (N + 1) (some ⟨N, 0, none⟩) [x, y] := fun _ => by
  refine ⟨N, 0, rfl, by omega, fun i n hi j u hj => ?_⟩
  obtain rfl : j = 0 := by have := (List.getElem?_eq_some_iff.1 hj).1; simpa using this
  obtain rfl : cellI n = u := by simpa using hj
  match i, hi with
  | 0, hi => obtain rfl : x = n := by simpa using hi
             exact h0
  | 1, hi => obtain rfl : y = n := by simpa using hi
             exact h1
theorem infoI64 : (Try.prog.info? 2).map (fun i => (i.zero, i.size, i.bytes)) = some (some (.int .i64 0), 1, 8) := by kernel_rfl
end Go.Proofs.Ytblcoknalailjaa
