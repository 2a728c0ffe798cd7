/- slices.Clone, and slices.SortFunc by Compare, at times. -/
import Derived.Test.YtdbdjojgccbfcaaTimesOwn
import Derived.Test.YtdbdjojgccbfcaaCompare
import Derived.Test.YtdbdjojgccbfcaaFrontSpec
import Derived.Test.YtdbdjojgccbfcaaSort
namespace Go.Proofs.Ytdbdjojgccbfcaa
open Go Go.RowKit Go.Sort Go.Lib

theorem flat_inv : ∀ (l : List Tm) (j : Nat) (u : Value), (l.flatMap Tm.cells)[j]? = some u → ∃ i t, l[i]? = some t ∧ ((j = i * 3 ∧ u = .int .u64 (t.e : Int)) ∨ (j = i * 3 + 1 ∧ u = .int .u64 (t.a : Int)) ∨ (j = i * 3 + 2 ∧ u = .int .u64 (t.b : Int)))
  | [], j, u, h => by simp at h
  | x :: l, 0, u, h => ⟨0, x, rfl, .inl ⟨rfl, by simpa [Tm.cells] using h.symm⟩⟩
  | x :: l, 1, u, h => ⟨0, x, rfl, .inr (.inl ⟨rfl, by simpa [Tm.cells] using h.symm⟩)⟩
  | x :: l, 2, u, h => ⟨0, x, rfl, .inr (.inr ⟨rfl, by simpa [Tm.cells] using h.symm⟩)⟩
  | x :: l, j + 3, u, h => by
    obtain ⟨i, t, hi, hc⟩ := flat_inv l j u (by simpa [Tm.cells] using h)
    refine ⟨i + 1, t, by simpa using hi, ?_⟩
    rcases hc with ⟨h1, h2⟩ | ⟨h1, h2⟩ | ⟨h1, h2⟩
    · exact .inl ⟨by omega, h2⟩
    · exact .inr (.inl ⟨by omega, h2⟩)
    · exact .inr (.inr ⟨by omega, h2⟩)
theorem flat_one (l : List Tm) : ∀ u ∈ l.flatMap Tm.cells, u.oneCell' = true := by
  intro u hu
  obtain ⟨t, _, ht⟩ := List.mem_flatMap.1 hu
  simp [Tm.cells] at ht
  rcases ht with rfl | rfl | rfl <;> rfl
theorem times_news {w : World} {B : Nat} {ad : Addr} {l : List Tm} (h : Times w B (some ad) l) : ∀ j u, (l.flatMap Tm.cells)[j]? = some u → w.cell? (ad.add j) = some u := by
  intro j u hu
  obtain ⟨i, t, hi, hc⟩ := flat_inv l j u hu
  have hpos : 0 < l.length := by have := (List.getElem?_eq_some_iff.1 hi).1; omega
  obtain ⟨b, o, e, _, ht⟩ := h hpos
  obtain rfl : ad = ⟨b, o, none⟩ := by injection e
  obtain ⟨a0, a1, a2⟩ := ht i t hi
  have ea : (⟨b, o, none⟩ : Addr).add j = ⟨b, o + j, none⟩ := by unfold Addr.add; split <;> simp_all
  rw [ea]
  rcases hc with ⟨rfl, rfl⟩ | ⟨rfl, rfl⟩ | ⟨rfl, rfl⟩
  · exact a0
  · rw [← Nat.add_assoc]; exact a1
  · rw [← Nat.add_assoc]; exact a2

set_option maxRecDepth 100000 in
set_option maxHeartbeats 800000 in
theorem clone_any (A : Option Addr) (c : Nat) (l : List Tm) (w : World) (hl : Times w w.heap.size A l) (hn : l.length * 24 ≤ 140737488351232) :
    Calls Try.prog 14 #[.slice A l.length c] w fun e w' => ∃ v, e = .returned v ∧ w'.ownsRow w.heap.size 26 3 v l.length (l.flatMap Tm.cells) ∧ Below w.heap.size w w' := by
  have q26 := fun (w : World) (a : Option Addr) (n c n' c' : Nat) => Lib.run_eql_slice_nil (P := Try.prog) w _ _ a n c n' c' Try.underlying22
  have hU := Try.underlying22
  obtain ⟨i0, hi, hz0, hz1, hz2⟩ := info_parts infoTm
  cases A with
  | none =>
    have h0 : l = [] := by
      cases l with
      | nil => rfl
      | cons x l => obtain ⟨_, _, e, _⟩ := hl (by simp); cases e
    subst h0
    clear hl
    go_enter Try.func14, Try.ntmps14
    go_wp2_with fail
    go_ret
    exact ⟨_, rfl, World.ownsRow_nil _ _ _ _, Below.refl _ _⟩
  | some ad =>
    have hnews := times_news hl
    have HN := Lib.hid hnews
    clear hnews hl
    go_enter Try.func14, Try.ntmps14
    go_wp2_with (at_builtin; refine wpList_append_own_at _ rfl _ _ 22 rfl w.heap.size 26 i0 _ 3 24 hU hi hz0 hz1 hz2 rfl (by decide) _ _ _ rfl (World.ownsRow_made w #[] 0 (Nat.le_refl _) (Nat.zero_le _) rfl) ad l.length c (l.flatMap Tm.cells) rfl ?c1 ?c2 ?c3 ?c4 ?c5 ?c6 ?_)
    case c1 => rw [flat_len]
    case c2 => exact fun j u hu => (World.cell?_alloc_some _ _ _ (by rw [HN.out j u hu]; rfl)).trans (HN.out j u hu)
    case c3 => exact flat_one l
    case c4 => unfold maxLen; omega
    case c5 => omega
    case c6 => simp
    intro v' w' ho' hg' _ _
    have hb : Below w.heap.size w w' := ((Below.refl _ _).alloc (Nat.le_refl _) _).grown hg' (by simp) (by simp [Value.ownBlock])
    go_wp2
    go_ret
    exact ⟨_, rfl, ho', hb⟩

theorem getElem!_some {l : List Tm} {i : Nat} {t : Tm} (h : l[i]? = some t) : l.toArray[i]! = t := by
  obtain ⟨hi, h⟩ := List.getElem?_eq_some_iff.1 h
  rw [getElem!_pos _ i (by simpa using hi)]
  simpa using h
/-- the row sorted in place; blocks below it are as they were -/
theorem sort_any (g c : Nat) (l : List Tm) (w : World) (base : Nat) (h : w.ownsRow base 26 3 (.slice (some ⟨g, 0, none⟩) l.length c) l.length (l.flatMap Tm.cells)) (hn : l.length * 24 ≤ 140737488351232) :
    Calls Try.prog 15 #[.slice (some ⟨g, 0, none⟩) l.length c, .func (.func 16) #[] #[]] w fun e w' => e = .returned (.tuple #[]) ∧ Times w' w'.heap.size (some ⟨g, 0, none⟩) (sortT l) ∧ Below g w w' := by
  have eg : ∀ args w, (callFunc 16 args).run Try.prog w = .ok (.enter 16 args) w := enters_of Try.func16 (by kernel_rfl) rfl
  have hg : g < w.heap.size := by
    rcases h.2 with ⟨h, _⟩ | ⟨g', _, _, e, _, hg, _⟩
    · simp at h
    · injection e with e _ _
      injection e with e
      injection e with e
      subst e
      exact (Array.getElem?_eq_some_iff.1 hg).1
  have hcell : ∀ i c, i < l.length → c < 3 → w.cell? ⟨g, 0 + (i * 3 + c), none⟩ = some (Tm.cells l.toArray[i]!)[c]! ∧ w.frozen? ⟨g, 0 + (i * 3 + c), none⟩ = false := by
    intro i c hi hc
    refine ⟨?_, h.frozenAt _⟩
    rw [Nat.zero_add, h.cellAt _ (by omega)]
    have hx : l[i]? = some l[i] := List.getElem?_eq_getElem hi
    obtain ⟨a0, a1, a2⟩ := flat_at l i _ hx
    rw [getElem!_some hx]
    rcases (by omega : c = 0 ∨ c = 1 ∨ c = 2) with rfl | rfl | rfl
    · simpa [Tm.cells] using a0
    · simpa [Tm.cells] using a1
    · simpa [Tm.cells] using a2
  have hH : HoldsK Tm.cells 3 w g 0 l.toArray := by
    intro j hj
    rw [size_flatK] at hj
    rw [get_flatK _ _ _ _ hj]
    have hs : l.toArray.size = l.length := by simp
    have := hcell (j / 3) (j % 3) (by omega) (by omega)
    rwa [Nat.div_add_mod' j 3] at this
  have hcon := AnyQ.slices_SortFunc_total Try.sortTm 3 Try.isAgg26 Try.sizeOf26 Tm.cells (fun _ => rfl) (fun x v hv => by simp [Tm.cells] at hv; rcases hv with rfl | rfl | rfl <;> rfl) Tm.cmp swoT 16 #[] g 0 c l.toArray w eg
    (fun m os dk _ x y => compare_grows x y _) hH hg (by simp; omega) totT
  change Calls Try.prog 15 _ _ _ at hcon
  simp only [List.size_toArray] at hcon
  refine hcon.mono ?_
  rintro e w' ⟨rfl, n, os, rfl⟩
  have hlen : (sortT l).toArray.size = l.toArray.size := by simp [sortT_len]
  have hH' := holdsK_sortWorldK_c Tm.cells 3 w g 0 l.toArray (sortT l).toArray n os hH hg hlen
  refine ⟨rfl, fun _ => ⟨g, 0, rfl, Nat.lt_of_lt_of_le hg (size_sortWorldK_c Tm.cells 3 w g 0 n _ os), fun i t hi => ?_⟩, ?_⟩
  · have hil := (List.getElem?_eq_some_iff.1 hi).1
    have hq := fun c hc => (HoldsK.cell hH' (i := i) (c := c) (by simpa using hil) hc).1
    rw [getElem!_some hi] at hq
    exact ⟨hq 0 (by omega), hq 1 (by omega), hq 2 (by omega)⟩
  · unfold sortWorldK putRowK putRow mapBlock
    refine ⟨rfl, rfl, rfl, by simp [grow, ahead], fun k hk => ?_⟩
    show (_ ++ os)[k]? = _
    rw [Array.getElem?_append_left (by simp [ahead]; omega), Array.getElem?_modify, if_neg (by omega)]
    rfl
end Go.Proofs.Ytdbdjojgccbfcaa
