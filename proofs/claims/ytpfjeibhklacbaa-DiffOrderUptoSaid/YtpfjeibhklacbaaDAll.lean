/- What the laws on what is there ask for beside. -/
import Derived.Test.YtpfjeibhklacbaaDAtF
namespace Go.Proofs.Ytpfjeibhklacbaa
open Go Go.RowKit

theorem empty_ups (w : World) : (w.alloc (.cells #[] 38)).ownsRow w.heap.size 38 6 (.slice (some ⟨w.heap.size, 0, none⟩) 0 0) 0 [] :=
  World.ownsRow_made w #[] 0 (Nat.le_refl _) (Nat.zero_le _) rfl
theorem two_clists (w : World) (A A' : Option Addr) (c c' : Nat) (l m : List Ct) (h : Cts w w.heap.size A l) (h' : Cts w w.heap.size A' m) : ∃ V, V = w.alloc (.cells #[.slice A l.length c, .slice A' m.length c'] 41) ∧ Below w.heap.size w V ∧ CLs V V.heap.size (some ⟨w.heap.size, 0, none⟩) [⟨A, c, l⟩, ⟨A', c', m⟩] := by
  obtain ⟨W, e1, s1, b1, o1⟩ := boxd w [.slice A l.length c, .slice A' m.length c'] 41
  refine ⟨W, e1, b1, rw_own (t := 41) o1, fun s hs => ?_⟩
  rcases List.mem_cons.1 hs with rfl | hs
  · exact h.keep b1
  · obtain rfl : s = ⟨A', c', m⟩ := by simpa using hs
    exact h'.keep b1
/-- the same, said of what is there at t -/
def There (l : List (List Vl × Int)) (e : Int) (w : World) (x : Ending) (w' : World) : Prop :=
  ∃ A c, ∃ outL : List Ct, x = .returned (.tuple #[.slice A outL.length c, .int .i64 e]) ∧ outL.map Ct.p = l ∧ Cts w' w'.heap.size A outL ∧ (∀ u ∈ outL, COk u) ∧ outL.length ≤ 1099511627776 ∧ Below w.heap.size w w'
theorem there_at (A : Option Addr) (c : Nat) (l : List Up) (t : Tm) (w : World) (hl : Ups w w.heap.size A l) (hok : ∀ u ∈ l, UOk u) (hn : l.length ≤ 1099511627776) :
    Calls Try.prog 19 #[.slice A l.length c, .agg #[.int .u64 (t.e : Int), .int .u64 (t.a : Int), .int .u64 (t.b : Int)]] w (There (atL l t) (atE l t) w) :=
  (at_any A c l t w hl hok hn).mono fun x w' ⟨A', c', outL, h1, h2, h3, h4, h5⟩ => ⟨A', c', outL, h1, h2, h3, h4, by
    have := atL_len l t
    rw [← h2, List.length_map] at this
    omega, h5⟩
theorem there_merge (A A1 A2 : Option Addr) (c1 c2 : Nat) (l m : List Ct) (w : World) (hl : CLs w w.heap.size A [⟨A1, c1, l⟩, ⟨A2, c2, m⟩]) (hok : ∀ u ∈ l, COk u) (hok' : ∀ u ∈ m, COk u) (hn : l.length + m.length ≤ 1099511627776) {L : List (List Vl × Int)} {E : Int} (h : mergeL [l, m] = L ∧ mergeE [l, m] = E) :
    Calls Try.prog 21 #[.slice A 2 2] w (There L E w) := by
  have h0 := merge_any A 2 [⟨A1, c1, l⟩, ⟨A2, c2, m⟩] w hl (fun s hs u hu => by
    rcases List.mem_cons.1 hs with rfl | hs
    · exact hok u hu
    · obtain rfl : s = ⟨A2, c2, m⟩ := by simpa using hs
      exact hok' u hu) (by simp [flatR]; omega) (by simp)
  refine h0.mono fun x w' ⟨A', c', outL, e1, e2, e3, e4, e5⟩ => ?_
  simp only [List.map_cons, List.map_nil] at e1 e2
  rw [h.1] at e2
  rw [h.2] at e1
  refine ⟨A', c', outL, e1, e2, e3, e4, ?_, e5⟩
  have := merge_len [l, m]
  rw [h.1, ← e2, List.length_map] at this
  simp only [List.flatten_cons, List.flatten_nil, List.append_nil, List.length_append] at this
  omega
/-- the counts of two answers are the same -/
theorem same_yes (A A' : Option Addr) (c c' : Nat) (l m : List Ct) (w : World) (hl : Cts w w.heap.size A l) (hm : Cts w w.heap.size A' m) (hol : ∀ u ∈ l, COk u) (hom : ∀ u ∈ m, COk u) (hn : l.length ≤ 1099511627776) (hn' : m.length ≤ 1099511627776) (h : l.map Ct.p = m.map Ct.p) :
    Calls Try.prog 23 #[.slice A l.length c, .slice A' m.length c'] w fun x w' => x = .returned (.bool true) ∧ Below w.heap.size w w' :=
  (sameC_any A A' c c' l m w hl hm hol hom hn hn').mono fun x w' ⟨b, h1, h2, h3⟩ => ⟨by rw [h1, h2.2 h], h3⟩
/-- one list evened out -/
def Evened (l : List (Uk × Int)) (e : Int) (w : World) (x : Ending) (w' : World) : Prop :=
  ∃ A c, ∃ outL : List Up, x = .returned (.tuple #[.slice A outL.length c, .int .i64 e]) ∧ outL.map Up.p = l ∧ Ups w' w'.heap.size A outL ∧ (∀ u ∈ outL, UOk u) ∧ outL.length ≤ 1099511627776 ∧ Below w.heap.size w w'
theorem evened_one (A A1 : Option Addr) (c1 : Nat) (l : List Up) (w : World) (hl : ULs w w.heap.size A [⟨A1, c1, l⟩]) (hok : ∀ u ∈ l, UOk u) (hn : l.length ≤ 1099511627776) :
    Calls Try.prog 9 #[.slice A 1 1] w (Evened (consL [l]) (consE [l]) w) := by
  have h0 := consolidate_any A 1 [⟨A1, c1, l⟩] w hl (fun s hs u hu => by
    obtain rfl : s = ⟨A1, c1, l⟩ := by simpa using hs
    exact hok u hu) (by simpa [flatR] using hn) (by simp)
  refine h0.mono fun x w' ⟨A', c', outL, e1, e2, e3, e4, e5⟩ => ?_
  simp only [List.map_cons, List.map_nil] at e1 e2
  refine ⟨A', c', outL, e1, e2, e3, e4, ?_, e5⟩
  have := consL_len [l]
  rw [← e2, List.length_map] at this
  simp only [List.flatten_cons, List.flatten_nil, List.append_nil] at this
  omega
end Go.Proofs.Ytpfjeibhklacbaa
