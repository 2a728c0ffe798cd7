/- What the three expressions of ExprLazy come to. -/
import Derived.Test.YtjidjpmdmcleoaaESumsWalk
namespace Go.Proofs.Ytjidjpmdmcleoaa
open Go Go.RowKit

def lthree (G : Nat) (a b c : Lx) : Lx := .mk 12 0 Vl.zero (some ⟨G, 0, none⟩) 3 [a, b, c]
theorem three_max : 3 ≤ maxLen := by unfold maxLen; decide
theorem lthree_ok (G : Nat) (a b c : Lx) {k : Nat} (ha : LxOk k a) (hb : LxOk k b) (hc : LxOk k c) : LxOk (k + 1) (lthree G a b c) :=
  ⟨zero_ok, ⟨(by decide : (0 : Int) ≤ 12), (by decide : (12 : Int) ≤ 255)⟩, zfit, three_max, fun x hx => by
    rcases List.mem_cons.1 hx with rfl | hx
    · exact ha
    · rcases List.mem_cons.1 hx with rfl | hx
      · exact hb
      · rcases List.mem_cons.1 hx with rfl | hx
        · exact hc
        · cases hx⟩
theorem lthree_in {G : Nat} {a b c : Lx} {W : World} {B k : Nat} (hl : Lies 6 Lx.cells W B (some ⟨G, 0, none⟩) [a, b, c]) (ha : LxIn W B k a) (hb : LxIn W B k b) (hc : LxIn W B k c) : LxIn W B (k + 1) (lthree G a b c) :=
  ⟨hl, fun x hx => by
    rcases List.mem_cons.1 hx with rfl | hx
    · exact ha
    · rcases List.mem_cons.1 hx with rfl | hx
      · exact hb
      · rcases List.mem_cons.1 hx with rfl | hx
        · exact hc
        · cases hx⟩
theorem lies_triple {W : World} {G : Nat} {t : TypeId} {a b c : Lx} (h : Own W G t (a.cells ++ (b.cells ++ c.cells))) : Lies 6 Lx.cells W W.heap.size (some ⟨G, 0, none⟩) [a, b, c] := fun _ => by
  refine ⟨G, 0, rfl, h.inside, fun i x hi j u hj => ?_⟩
  have hj6 : j < 6 := (List.getElem?_eq_some_iff.1 hj).1
  have la : a.cells.length = 6 := rfl
  have lb : b.cells.length = 6 := rfl
  match i, hi with
  | 0, hi =>
    obtain rfl : a = x := by simpa using hi
    rw [show 0 + 0 * 6 + j = j by omega, h.at_ j, List.getElem?_append_left (by omega), hj]
  | 1, hi =>
    obtain rfl : b = x := by simpa using hi
    rw [show 0 + 1 * 6 + j = 6 + j by omega, h.at_ (6 + j), List.getElem?_append_right (by omega), List.getElem?_append_left (by omega), show 6 + j - a.cells.length = j by omega, hj]
  | 2, hi =>
    obtain rfl : c = x := by simpa using hi
    rw [show 0 + 2 * 6 + j = 12 + j by omega, h.at_ (12 + j), List.getElem?_append_right (by omega), List.getElem?_append_right (by omega), show 12 + j - a.cells.length - b.cells.length = j by omega, hj]
theorem good_three (G : Nat) (a b c : Lx) (n : Nat) : good (n + 1) (lthree G a b c) = (good n a && (good n b && good n c)) := by
  have h : nodeOk (lthree G a b c) = true := by
    show ((((([a, b, c] : List Lx).length : Nat) : Int) == kidsOf 12) && (((0 : Int) == 0 || (12 : Int) == 1) && constOk 12 Vl.zero)) = true
    kernel_rfl
  have hk : (lthree G a b c).kids = [a, b, c] := rfl
  simp only [good, h, hk, Bool.true_and, List.all_cons, List.all_nil, Bool.and_true]
theorem cnt_three (G : Nat) (a b c : Lx) (n : Nat) : cnt (n + 1) (lthree G a b c) = 1 + (cnt n a + (cnt n b + cnt n c)) := by
  have hk : (lthree G a b c).kids = [a, b, c] := rfl
  simp only [cnt, hk, List.map_cons, List.map_nil, List.sum_cons, List.sum_nil, Nat.add_zero]
theorem good_lcon (m : Int) (n : Nat) : good (n + 1) (lcon m) = true := by kernel_rfl
theorem cnt_lcon (m : Int) (n : Nat) : cnt (n + 1) (lcon m) = 1 := rfl
/-- the number m, or what is told of the row -/
def lzR (row : List Vl) (m : Int) : Vl × Int := if chkRow row = 0 then (Vl.num m, 0) else (Vl.zero, chkRow row)
theorem lz_of {row : List Vl} {e : Lx} {m : Int} (h1 : checkE e = 0) (h2 : ev row 16 e 0 = (Vl.num m, 0)) : evalE row e = lzR row m := by
  unfold evalE lzR
  rw [if_pos h1, h2]
  simp
theorem lazy_key (row : List Vl) (e : Lx) (G : Nat) (h : checkE (lthree G (lcon 1) (lcon 7) e) = 0) :
    evalE row (lthree G (lcon 1) (lcon 7) e) = lzR row 7 ∧ (∀ G', evalE row (ltwo 9 G' (lcon 0) e) = lzR row 0) ∧ (∀ G', evalE row (ltwo 10 G' (lcon 2) e) = lzR row 1) := by
  have hc := (checkE_ok _).1 h
  rw [good_three, cnt_three, good_lcon 1 14, good_lcon 7 14, cnt_lcon, cnt_lcon, Bool.true_and, Bool.true_and] at hc
  obtain ⟨hg, hn⟩ := hc
  have hw : ∀ (o : Int) (m : Int) (G' : Nat), kidsOf o = 2 → checkE (ltwo o G' (lcon m) e) = 0 := fun o m G' ho => by
    rw [checkE_ok]
    exact ⟨good_two o G' _ _ ho 15 (good_lcon m 14) hg, by rw [cnt_two, cnt_lcon]; omega⟩
  refine ⟨lz_of h ?_, fun G' => lz_of (hw 9 0 G' (by decide)) ?_, fun G' => lz_of (hw 10 2 G' (by decide)) ?_⟩
  · kernel_rfl
  · kernel_rfl
  · kernel_rfl
end Go.Proofs.Ytjidjpmdmcleoaa
