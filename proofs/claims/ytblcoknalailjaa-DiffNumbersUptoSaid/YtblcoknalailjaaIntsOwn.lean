/- A row of one-cell numbers of the call's own reads as its list. -/
import Derived.Test.YtblcoknalailjaaInts
import Derived.Test.YtblcoknalailjaaLies
namespace Go.Proofs.Ytblcoknalailjaa
open Go Go.RowKit

def cellI (n : Int) : Value := .int .i64 n
theorem cellI_flat (l : List Int) : l.flatMap (fun n => [cellI n]) = l.map cellI := by
  induction l with
  | nil => rfl
  | cons x l ih => simp [ih]
theorem ints_of_own {w : World} {base : Nat} {e : TypeId} {v : Value} {l : List Int} {n : Nat} (hn : n = l.length) (h : w.ownsRow base e 1 v n (l.map cellI)) :
    ∃ A c, v = .slice A l.length c ∧ l.length ≤ c ∧ c ≤ maxLen ∧ Ints w w.heap.size A l := by
  rw [← cellI_flat] at h
  obtain ⟨A, c, h1, h2, h3, h4⟩ := lies_of_own (size := 1) (cells := fun n => [cellI n]) (by decide) (fun _ => rfl) hn h
  refine ⟨A, c, h1, h2, h3, fun hp => ?_⟩
  obtain ⟨b, o, e, hb, hc⟩ := h4 hp
  refine ⟨b, o, e, hb, fun i n hi => ?_⟩
  have := hc i n hi 0 _ rfl
  rwa [Nat.mul_one, Nat.add_zero] at this
theorem own_snoc {w : World} {base n : Nat} {e : TypeId} {v : Value} {F : List Value} {l : List Int} {k : Int} (h : w.ownsRow base e 1 v (n + 1) (F ++ [.int .i64 k])) (hF : l.map cellI = F) (hn : l.length = n) : w.ownsRow base e 1 v (l ++ [k]).length ((l ++ [k]).map cellI) := by
  subst hF hn
  simpa [cellI] using h
theorem own_app {w : World} {base n : Nat} {e : TypeId} {v : Value} {F : List Value} {l m : List Int} (h : w.ownsRow base e 1 v (n + m.length) (F ++ m.flatMap fun n => [cellI n])) (hF : l.map cellI = F) (hn : l.length = n) : w.ownsRow base e 1 v (l ++ m).length ((l ++ m).map cellI) := by
  subst hF hn
  rw [cellI_flat] at h
  simpa using h
/-- two rows lie in two blocks -/
def Sep (v y : Value) : Prop := ∀ b, v.ownBlock = some b → y.ownBlock ≠ some b
theorem Sep.symm {v y : Value} (h : Sep v y) : Sep y v := fun b hb hv => h b hv hb
theorem Sep.nil_ (y : Value) : Sep (.slice none 0 0) y := fun b hb => by simp [Value.ownBlock] at hb
theorem Sep.pushed {v v' y : Value} {N : Nat} (h : Sep v y) (hy : ∀ b, y.ownBlock = some b → b < N) (hv : v'.ownBlock = v.ownBlock ∨ v'.ownBlock = some (N + 1)) : Sep v' y := fun b hb hyb => by
  rcases hv with hv | hv
  · exact h b (hv ▸ hb) hyb
  · have := hy b hyb
    rw [hv] at hb
    simp only [Option.some.injEq] at hb
    omega
theorem Sep.kept {v y : Value} (h : Sep v y) : y.ownBlock = none ∨ y.ownBlock ≠ v.ownBlock := by
  cases hy : y.ownBlock with
  | none => exact .inl rfl
  | some b => exact .inr fun e => h b e.symm hy
end Go.Proofs.Ytblcoknalailjaa
