/- Expressions that the laws build. -/
import Derived.Test.YticcaogceoahdaaEInfE
namespace Go.Proofs.Yticcaogceoahdaa
open Go Go.RowKit

def lcon (n : Int) : Lx := .mk 2 0 (Vl.num n) none 0 []
def lcol (n : Int) : Lx := .mk 1 n Vl.zero none 0 []
def ltwo (o : Int) (G : Nat) (a b : Lx) : Lx := .mk o 0 Vl.zero (some ⟨G, 0, none⟩) 2 [a, b]
def lone (o : Int) (G : Nat) (a : Lx) : Lx := .mk o 0 Vl.zero (some ⟨G, 0, none⟩) 1 [a]
theorem lcon_in (n : Int) (W : World) (B : Nat) : ∀ k, LxIn W B k (lcon n)
  | 0 => trivial
  | _ + 1 => ⟨Lies.nil_, fun _ h => by cases h⟩
theorem lcol_in (n : Int) (W : World) (B : Nat) : ∀ k, LxIn W B k (lcol n)
  | 0 => trivial
  | _ + 1 => ⟨Lies.nil_, fun _ h => by cases h⟩
theorem zfit : (-9223372036854775808 : Int) ≤ 0 ∧ (0 : Int) ≤ 9223372036854775807 := by decide
theorem two_max : 2 ≤ maxLen := by unfold maxLen; decide
theorem one_max : 1 ≤ maxLen := by unfold maxLen; decide
theorem zero_ok : VOk Vl.zero := ⟨by unfold Vl.zero maxLen; exact Nat.zero_le _, by unfold Vl.zero; decide, by unfold Vl.zero; decide⟩
theorem lcon_ok (n : Int) (h : -9223372036854775808 ≤ n ∧ n ≤ 9223372036854775807) : ∀ k, LxOk k (lcon n)
  | 0 => trivial
  | _ + 1 => ⟨Vl.num_ok n h.1 h.2, ⟨(by decide : (0 : Int) ≤ 2), (by decide : (2 : Int) ≤ 255)⟩, zfit, Nat.zero_le _, fun _ h => by cases h⟩
theorem lcol_ok (n : Int) (h : -9223372036854775808 ≤ n ∧ n ≤ 9223372036854775807) : ∀ k, LxOk k (lcol n)
  | 0 => trivial
  | _ + 1 => ⟨zero_ok, ⟨(by decide : (0 : Int) ≤ 1), (by decide : (1 : Int) ≤ 255)⟩, h, Nat.zero_le _, fun _ h => by cases h⟩
theorem ltwo_ok (o : Int) (G : Nat) (a b : Lx) (ho : 0 ≤ o ∧ o ≤ 255) {k : Nat} (ha : LxOk k a) (hb : LxOk k b) : LxOk (k + 1) (ltwo o G a b) :=
  ⟨zero_ok, ho, zfit, two_max, fun x hx => by
    rcases List.mem_cons.1 hx with rfl | hx
    · exact ha
    · rcases List.mem_cons.1 hx with rfl | hx
      · exact hb
      · cases hx⟩
theorem lone_ok (o : Int) (G : Nat) (a : Lx) (ho : 0 ≤ o ∧ o ≤ 255) {k : Nat} (ha : LxOk k a) : LxOk (k + 1) (lone o G a) :=
  ⟨zero_ok, ho, zfit, one_max, fun x hx => by
    rcases List.mem_cons.1 hx with rfl | hx
    · exact ha
    · cases hx⟩
theorem ltwo_in {o : Int} {G : Nat} {a b : Lx} {W : World} {B k : Nat} (hl : Lies 6 Lx.cells W B (some ⟨G, 0, none⟩) [a, b]) (ha : LxIn W B k a) (hb : LxIn W B k b) : LxIn W B (k + 1) (ltwo o G a b) :=
  ⟨hl, fun x hx => by
    rcases List.mem_cons.1 hx with rfl | hx
    · exact ha
    · rcases List.mem_cons.1 hx with rfl | hx
      · exact hb
      · cases hx⟩
theorem lone_in {o : Int} {G : Nat} {a : Lx} {W : World} {B k : Nat} (hl : Lies 6 Lx.cells W B (some ⟨G, 0, none⟩) [a]) (ha : LxIn W B k a) : LxIn W B (k + 1) (lone o G a) :=
  ⟨hl, fun x hx => by
    rcases List.mem_cons.1 hx with rfl | hx
    · exact ha
    · cases hx⟩
theorem lies_pair {W : World} {G : Nat} {t : TypeId} {a b : Lx} (h : Own W G t (a.cells ++ b.cells)) : Lies 6 Lx.cells W W.heap.size (some ⟨G, 0, none⟩) [a, b] := fun _ => by
  refine ⟨G, 0, rfl, h.inside, fun i x hi j u hj => ?_⟩
  have hj6 : j < 6 := (List.getElem?_eq_some_iff.1 hj).1
  match i, hi with
  | 0, hi =>
    obtain rfl : a = x := by simpa using hi
    rw [show 0 + 0 * 6 + j = j by omega, h.at_ j, List.getElem?_append_left (show j < a.cells.length from hj6), hj]
  | 1, hi =>
    obtain rfl : b = x := by simpa using hi
    rw [show 0 + 1 * 6 + j = 6 + j by omega, h.at_ (6 + j), List.getElem?_append_right (show a.cells.length ≤ 6 + j from Nat.le_add_right 6 j)]
    rw [show 6 + j - a.cells.length = j from Nat.add_sub_cancel_left 6 j, hj]
theorem lies_single {W : World} {G : Nat} {t : TypeId} {a : Lx} (h : Own W G t a.cells) : Lies 6 Lx.cells W W.heap.size (some ⟨G, 0, none⟩) [a] := fun _ => by
  refine ⟨G, 0, rfl, h.inside, fun i x hi j u hj => ?_⟩
  match i, hi with
  | 0, hi =>
    obtain rfl : a = x := by simpa using hi
    rw [show 0 + 0 * 6 + j = j by omega, h.at_ j, hj]
set_option maxRecDepth 100000 in
set_option maxHeartbeats 1600000 in
theorem con_any (n : Int) (w : World) : Calls Try.prog 12 #[.int .i64 n] w fun x w' => x = .returned (lcon n).val ∧ Below w.heap.size w w' := by
  unfold lcon Lx.val Vl.num
  go_enter Try.func12, Try.ntmps12
  go_wp2_with fail
  exact bodyPost_ret (v := .agg #[.int .u8 2, .int .i64 0, .bool false, .int .i64 n, .string ⟨#[]⟩, .slice none 0 0]) (by simp [results, Try.results12, go_sem]) rfl ⟨rfl, (Below.refl _ _).alloc (Nat.le_refl _) _⟩
set_option maxRecDepth 100000 in
set_option maxHeartbeats 1600000 in
theorem col_any (n : Int) (w : World) : Calls Try.prog 11 #[.int .i64 n] w fun x w' => x = .returned (lcol n).val ∧ Below w.heap.size w w' := by
  unfold lcol Lx.val Vl.zero
  go_enter Try.func11, Try.ntmps11
  go_wp2_with fail
  exact bodyPost_ret (v := .agg #[.int .u8 1, .int .i64 n, .bool false, .int .i64 0, .string ⟨#[]⟩, .slice none 0 0]) (by simp [results, Try.results11, go_sem]) rfl ⟨rfl, (Below.refl _ _).alloc (Nat.le_refl _) _⟩
theorem read6 (V : World) (N : Nat) (hN : V.heap.size = N) (t : TypeId) (v0 v1 v2 v3 v4 v5 : Value) (o : Obj) :
    ((V.alloc (.cells #[v0, v1, v2, v3, v4, v5] t)).alloc o).cell? ⟨N, 0, none⟩ = some v0 ∧ ((V.alloc (.cells #[v0, v1, v2, v3, v4, v5] t)).alloc o).cell? ⟨N, 1, none⟩ = some v1 ∧ ((V.alloc (.cells #[v0, v1, v2, v3, v4, v5] t)).alloc o).cell? ⟨N, 2, none⟩ = some v2 ∧
      ((V.alloc (.cells #[v0, v1, v2, v3, v4, v5] t)).alloc o).cell? ⟨N, 3, none⟩ = some v3 ∧ ((V.alloc (.cells #[v0, v1, v2, v3, v4, v5] t)).alloc o).cell? ⟨N, 4, none⟩ = some v4 ∧ ((V.alloc (.cells #[v0, v1, v2, v3, v4, v5] t)).alloc o).cell? ⟨N, 5, none⟩ = some v5 := by
  have h := (own_at (w := V) (t := t) (l := [v0, v1, v2, v3, v4, v5]) hN).more o
  exact ⟨h.at_ 0, h.at_ 1, h.at_ 2, h.at_ 3, h.at_ 4, h.at_ 5⟩
set_option maxRecDepth 100000 in
set_option maxHeartbeats 3200000 in
theorem two_any (o : Int) (a b : Lx) (w : World) : Calls Try.prog 10 #[.int .u8 o, a.val, b.val] w fun x w' => ∃ G, x = .returned (ltwo o G a b).val ∧ Below w.heap.size w w' ∧ w.heap.size ≤ G ∧ Lies 6 Lx.cells w' w'.heap.size (some ⟨G, 0, none⟩) [a, b] := by
  unfold Lx.val
  go_enter Try.func10, Try.ntmps10
  go_wp2_with fail
  have hw : (((w.alloc (.cells #[.int .u8 a.op, .int .i64 a.col, .bool a.c.t, .int .i64 a.c.n, .string a.c.s, .slice a.A a.kids.length a.cap] 27)).alloc (.cells #[.int .u8 b.op, .int .i64 b.col, .bool b.c.t, .int .i64 b.c.n, .string b.c.s, .slice b.A b.kids.length b.cap] 27)).heap.size) = w.heap.size + 1 + 1 := by simp
  obtain ⟨e0, e1, e2, e3, e4, e5⟩ := read6 ((w.alloc (.cells #[.int .u8 a.op, .int .i64 a.col, .bool a.c.t, .int .i64 a.c.n, .string a.c.s, .slice a.A a.kids.length a.cap] 27)).alloc (.cells #[.int .u8 b.op, .int .i64 b.col, .bool b.c.t, .int .i64 b.c.n, .string b.c.s, .slice b.A b.kids.length b.cap] 27)) (w.heap.size + 1 + 1) hw 27 (.int .u8 o) (.int .i64 0) (.bool false) (.int .i64 0) (.string ⟨#[]⟩) (.slice (some ⟨w.heap.size + 1 + 1 + 1, 0, none⟩) 2 2)
    (.cells #[.int .u8 a.op, .int .i64 a.col, .bool a.c.t, .int .i64 a.c.n, .string a.c.s, .slice a.A a.kids.length a.cap, .int .u8 b.op, .int .i64 b.col, .bool b.c.t, .int .i64 b.c.n, .string b.c.s, .slice b.A b.kids.length b.cap] 27)
  refine bodyPost_ret (v := .agg #[.int .u8 o, .int .i64 0, .bool false, .int .i64 0, .string ⟨#[]⟩, .slice (some ⟨w.heap.size + 1 + 1 + 1, 0, none⟩) 2 2]) (by simp [results, Try.results10, go_sem, e0, e1, e2, e3, e4, e5]) rfl ⟨w.heap.size + 1 + 1 + 1, rfl, ?_, by omega, ?_⟩
  · exact ((((Below.refl _ _).alloc (Nat.le_refl _) _).alloc (by simp) _).alloc (by simp; omega) _).alloc (by simp; omega) _
  · exact lies_pair (t := 27) (own_at (l := a.cells ++ b.cells) (by simp))
end Go.Proofs.Yticcaogceoahdaa
