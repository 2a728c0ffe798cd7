/- Part 2 of the texts on which MomentFronts rests: facts and contracts. -/
import Derived.Test.YtfhlgdidobecaaaMomentFrontsM1
import Derived.Handy
import Derived.WalkKit
import Derived.Deep.QuietTactic
import Derived.BigQuiet
import Derived.Deep.RegionHeld3
import Derived.Tactics2
import Derived.Orders
import Derived.RegionTactic
import Derived.Deep.Cut
namespace Go.Proofs.Ytfhlgdidobecaaa
open Go Go.RowKit Go.Sort Go.Lib

/-- what is kept of the first k -/
def keepStep (f : List Tm) (t : Tm) : List Tm := if beyond f t = true then f else f ++ [t]
def frontTo (s : List Tm) (k : Nat) : List Tm := (s.take k).foldl keepStep []
def frontL (l : List Tm) : List Tm := frontTo (sortT l) (sortT l).length
theorem frontTo_snoc {s : List Tm} {t : Tm} {k : Nat} (h : s[k]? = some t) : frontTo s (k + 1) = keepStep (frontTo s k) t := by
  unfold frontTo; rw [List.take_add_one, h, List.foldl_append]; rfl
theorem frontTo_len (s : List Tm) : ∀ k, k ≤ s.length → (frontTo s k).length ≤ k
  | 0, _ => by simp [frontTo]
  | k + 1, h => by
    have := frontTo_len s k (by omega)
    rw [frontTo_snoc (List.getElem?_eq_getElem (by omega))]
    unfold keepStep
    split
    · omega
    · rw [List.length_append]; simp; omega

end Go.Proofs.Ytfhlgdidobecaaa
namespace Go.Proofs.Ytfhlgdidobecaaa
open Go Go.RowKit Go.Sort Go.Lib

theorem sort_all (v : Value) (n : Nat) (l : List Tm) (w : World) (base : Nat) (hnl : n = l.length) (h : w.ownsRow base 26 3 v n (l.flatMap Tm.cells)) (hn : l.length * 24 ≤ 140737488351232) :
    ∃ A c, v = .slice A l.length c ∧ Calls Try.prog 33 #[.slice A l.length c, .func (.func 34) #[] #[]] w fun e w' => e = .returned (.tuple #[]) ∧ Times w' w'.heap.size A (sortT l) ∧ Below base w w' := by
  subst hnl
  cases l with
  | nil =>
    rcases h.2 with ⟨rfl, _⟩ | ⟨g, cap, cur, rfl, _⟩
    · refine ⟨_, _, rfl, (AnyF.slices_SortFunc_none Try.sortTm _ _ _ w).mono fun e w' ⟨he, hw⟩ => ?_⟩
      subst hw
      exact ⟨he, fun h => by simp [sortT] at h, Below.refl _ _⟩
    · refine ⟨_, _, rfl, (AnyF.slices_SortFunc_none Try.sortTm _ _ _ w).mono fun e w' ⟨he, hw⟩ => ?_⟩
      subst hw
      exact ⟨he, fun h => by simp [sortT] at h, Below.refl _ _⟩
  | cons x l =>
    rcases h.2 with ⟨_, h0⟩ | ⟨g, cap, cur, rfl, hb, _⟩
    · simp at h0
    · exact ⟨_, _, rfl, (sort_any g cap (x :: l) w base h hn).mono fun e w' ⟨he, ht, hbe⟩ => ⟨he, ht, hbe.mono hb⟩⟩

set_option maxRecDepth 100000 in
set_option maxHeartbeats 1600000 in
theorem front_any (A : Option Addr) (c : Nat) (l : List Tm) (w : World) (hl : Times w w.heap.size A l) (hn : l.length * 24 ≤ 140737488351232) :
    Calls Try.prog 9 #[.slice A l.length c] w fun e w' => ∃ v, e = .returned v ∧ w'.ownsRow w.heap.size 26 3 v (frontL l).length ((frontL l).flatMap Tm.cells) ∧ Below w.heap.size w w' := by
  obtain ⟨i0, hi, hz0, hz1, hz2⟩ := info_parts infoTm
  have hU := Try.underlying22
  have Hl := Lib.hid hl
  have hbey := fun A c l t W h hn => Lib.hid (beyond_any A c l t W h hn)
  unfold Tm.val maxLen at hbey
  clear hl
  go_enter Try.func9, Try.ntmps9
  go_wp2_with fail
  refine (clone_any A c l _ Hl.out hn).mono ?_
  rintro e w1 ⟨v, rfl, ho1, hb1⟩
  obtain ⟨A', c', rfl, hsort⟩ := sort_all v _ l w1 _ rfl ho1 hn
  have HS := Lib.hid hsort
  have H1 := Lib.hid hb1
  clear hsort hb1 ho1
  go_wp2_with fail
  refine HS.out.mono ?_
  rintro e w0 ⟨rfl, ht0, hb0⟩
  have hlen := sortT_len l
  have HT := Lib.hid (And.intro ht0 (And.intro (H1.out.trans hb0) hlen))
  clear ht0 hb0 hlen HS
  go_wp2_with fail
  go_loopw [3, 12] (fun v i wr => ∃ k : Nat, i = .int .i64 (k : Int) ∧ k ≤ l.length ∧ Below w0.heap.size w0 wr ∧ wr.ownsRow w0.heap.size 26 3 v (frontTo (sortT l) k).length ((frontTo (sortT l) k).flatMap Tm.cells))
    (fun _ i _ => l.length - (intOf i).toNat)
  case atStart => exact ⟨0, rfl, by omega, Below.refl _ _, World.ownsRow_nil _ _ _ _⟩
  case round =>
    obtain ⟨k, rfl, hk, fb, hown⟩ := hrel
    obtain ⟨ht0, hb0, hlen⟩ := HT.out
    have hfl := frontTo_len (sortT l) k (by omega)
    obtain ⟨Af, cf, rfl, hcf, hcm, htf⟩ := times_of_own rfl hown
    by_cases hlt : k < l.length
    · have hx : (sortT l)[k]? = some (sortT l)[k] := List.getElem?_eq_getElem (by omega)
      obtain ⟨b, o, rfl, hB, hl⟩ := ht0 (by omega)
      obtain ⟨c0, c1, c2⟩ := (hl k _ hx).past fb hB
      have hsn := frontTo_snoc hx
      generalize (sortT l)[k] = y at *
      generalize frontTo (sortT l) k = f at *
      have hB2 : b < wr.heap.size := by have := fb.size; omega
      have hcall := fun o => hbey Af cf f y (wr.alloc o) ((htf.past ((Below.refl _ _).alloc (Nat.le_refl _) _) (Nat.le_refl _)).wide (by simp)) (by omega)
      have HR := Lib.hid (And.intro fb (And.intro hown (And.intro hsn hx)))
      have hz := fb.size
      clear fb hown hsn hx hl htf ht0 hb0 hlen hbey
      by_cases hbe : beyond f y = true
      · simp only [hbe] at hcall
        have HE := Lib.hid hbe
        clear hbe
        go_wp2_with fail
        refine (hcall _).out.mono ?_
        rintro e w2 ⟨rfl, h2⟩
        obtain ⟨fb, hown, hsn, hx⟩ := HR.out
        have h3 : Below wr.heap.size wr w2 := below_then ((Below.refl _ _).alloc (Nat.le_refl _) _) (by simp) h2
        have H3 := Lib.hid (And.intro h3 (And.intro fb (And.intro hown hsn)))
        clear fb hown hsn hx h2 h3
        go_wp2_with fail
        obtain ⟨h3, fb, hown, hsn⟩ := H3.out
        go_roundw
        case rel => exact ⟨k + 1, by go_num, by omega, fb.trans (h3.mono fb.size), by rw [hsn]; unfold keepStep; rw [if_pos HE.out]; exact own_below hown h3⟩
        case measure => simp [intOf]; omega
      · have hbf : beyond f y = false := by simpa using hbe
        simp only [hbf] at hcall
        have HE := Lib.hid hbe
        clear hbe hbf
        go_wp2_with fail
        refine (hcall _).out.mono ?_
        rintro e w2 ⟨rfl, h2⟩
        obtain ⟨fb, hown, hsn, hx⟩ := HR.out
        have h3 : Below wr.heap.size wr w2 := below_then ((Below.refl _ _).alloc (Nat.le_refl _) _) (by simp) h2
        have hown2 := own_below hown h3
        have d0 : w2.cell? ⟨wr.heap.size, 0, none⟩ = some (.int .u64 (y.e : Int)) := (h2.cell (p := ⟨wr.heap.size, 0, none⟩) (by simp)).trans (by simp [go_sem])
        have d1 : w2.cell? ⟨wr.heap.size, 1, none⟩ = some (.int .u64 (y.a : Int)) := (h2.cell (p := ⟨wr.heap.size, 1, none⟩) (by simp)).trans (by simp [go_sem])
        have d2 : w2.cell? ⟨wr.heap.size, 2, none⟩ = some (.int .u64 (y.b : Int)) := (h2.cell (p := ⟨wr.heap.size, 2, none⟩) (by simp)).trans (by simp [go_sem])
        have hz2 := h3.size
        have H3 := Lib.hid (And.intro (fb.trans (h3.mono fb.size)) hsn)
        clear fb hown hsn hx h2 h3
        go_wp2_with (at_builtin; refine wpList_push _ rfl _ _ 22 rfl w0.heap.size 26 i0 _ 3 24 hU hi hz0 hz1 ‹i0.bytes = 24› rfl (by decide) _ _ _ rfl hown2 _ rfl rfl ?c1 ?c2 ?c3 ?c4 ?_)
        case c1 => exact ⟨rfl, rfl, rfl⟩
        case c2 => unfold maxLen; omega
        case c3 => omega
        case c4 => omega
        intro v' w' ho' hb' _ _
        obtain ⟨fb, hsn⟩ := H3.out
        have H4 := Lib.hid (And.intro (fb.trans hb') (And.intro hsn ho'))
        clear fb hsn ho' hb' hown2
        go_wp2
        obtain ⟨fb, hsn, ho'⟩ := H4.out
        go_roundw
        case rel =>
          refine ⟨k + 1, by go_num, by omega, fb, ?_⟩
          rw [hsn]
          unfold keepStep
          rw [if_neg HE.out, ← flatT_snoc, List.length_append]
          exact ho'
        case measure => simp [intOf]; omega
    · have hk2 : k = l.length := by omega
      have hfin : frontTo (sortT l) k = frontL l := by unfold frontL; rw [hk2, hlen]
      rw [hfin] at hown ⊢
      have HR := Lib.hid (And.intro fb (And.intro hown (And.intro hb0 hk2)))
      clear fb hown hb0 hk2 hfin hfl hlen ht0 htf
      go_wp2_with fail
      go_ret
      obtain ⟨fb, hown, hb0, hk2⟩ := HR.out
      refine ⟨_, rfl, ?_, hb0.trans (fb.mono hb0.size)⟩
      exact ⟨hown.1, hown.2.imp id fun ⟨g, cap, cur, e, hbg, r⟩ => ⟨g, cap, cur, e, Nat.le_trans hb0.size hbg, r⟩⟩
end Go.Proofs.Ytfhlgdidobecaaa
namespace Go.Proofs.Ytfhlgdidobecaaa
open Go Go.RowKit
attribute [local go_sem ↓] Go.wp_at_zero Go.wp_at_succ

set_option maxRecDepth 100000 in
set_option maxHeartbeats 400000 in
theorem at_any (a b c : Nat) (w : World) :
    Calls Try.prog 31 #[.int .u64 (a : Int), .int .u64 (b : Int), .int .u64 (c : Int)] w fun e w' => e = .returned (Tm.mk a b c).val ∧ Below w.heap.size w w' := by
  unfold Tm.val
  go_enter Try.func31, Try.ntmps31
  go_wp2_with fail
  refine bodyPost_ret (v := .agg #[.int .u64 (a : Int), .int .u64 (b : Int), .int .u64 (c : Int)]) (by simp [results, Try.results31, go_sem]) rfl ⟨rfl, (Below.refl _ _).alloc (Nat.le_refl _) _⟩

end Go.Proofs.Ytfhlgdidobecaaa
namespace Go.Proofs.Ytfhlgdidobecaaa
open Go Go.RowKit
attribute [local go_sem ↓] Go.wp_at_zero Go.wp_at_succ

theorem sort_fixed : sortT [⟨2, 0, 1⟩, ⟨1, 0, 2⟩, ⟨3, 0, 2⟩] = [⟨1, 0, 2⟩, ⟨2, 0, 1⟩, ⟨3, 0, 2⟩] := by
  simp [sortT, List.mergeSort, List.MergeSort.Internal.splitInTwo, List.merge, ltT]
theorem front_fixed : frontL [⟨2, 0, 1⟩, ⟨1, 0, 2⟩, ⟨3, 0, 2⟩] = [⟨1, 0, 2⟩, ⟨2, 0, 1⟩] := by
  unfold frontL; rw [sort_fixed]; decide
theorem below_new {a b : World} (h : Below a.heap.size a b) (o : Obj) : Below a.heap.size a (b.alloc o) := h.alloc h.size o
theorem times_one' {w : World} {N : Nat} (s : Tm) (hN : w.heap.size = N) : Times (w.alloc (.cells #[.int .u64 (s.e : Int), .int .u64 (s.a : Int), .int .u64 (s.b : Int)] 26)) (N + 1) (some ⟨N, 0, none⟩) [s] := hN ▸ times_one w s
theorem keep3 {a b : World} {g o : Nat} {x y z : Value} (hB : g < a.heap.size) (h0 : a.cell? ⟨g, o, none⟩ = some x) (h1 : a.cell? ⟨g, o + 1, none⟩ = some y) (h2 : a.cell? ⟨g, o + 2, none⟩ = some z) (h : Below a.heap.size a b) :
    Below a.heap.size a b ∧ b.cell? ⟨g, o, none⟩ = some x ∧ b.cell? ⟨g, o + 1, none⟩ = some y ∧ b.cell? ⟨g, o + 2, none⟩ = some z :=
  ⟨h, (h.cell (p := ⟨g, o, none⟩) hB).trans h0, (h.cell (p := ⟨g, o + 1, none⟩) hB).trans h1, (h.cell (p := ⟨g, o + 2, none⟩) hB).trans h2⟩
theorem times_lit3 {w : World} {N : Nat} (s t u : Tm) (hN : w.heap.size = N) : Times (w.alloc (.cells #[.int .u64 (s.e : Int), .int .u64 (s.a : Int), .int .u64 (s.b : Int), .int .u64 (t.e : Int), .int .u64 (t.a : Int), .int .u64 (t.b : Int), .int .u64 (u.e : Int), .int .u64 (u.a : Int), .int .u64 (u.b : Int)] 26)) (N + 1) (some ⟨N, 0, none⟩) [s, t, u] := by
  subst hN
  intro _
  refine ⟨_, _, rfl, by omega, fun i x hx => ?_⟩
  match i, hx with
  | 0, hx => obtain rfl : s = x := by simpa using hx
             exact ⟨by simp [go_sem], by simp [go_sem], by simp [go_sem]⟩
  | 1, hx => obtain rfl : t = x := by simpa using hx
             exact ⟨by simp [go_sem], by simp [go_sem], by simp [go_sem]⟩
  | 2, hx => obtain rfl : u = x := by simpa using hx
             exact ⟨by simp [go_sem], by simp [go_sem], by simp [go_sem]⟩

set_option maxRecDepth 100000 in
set_option maxHeartbeats 1600000 in
theorem fronts_true (w : World) : Calls Try.prog 7 #[] w fun e w' => e = .returned (.bool true) ∧ Below w.heap.size w w' := by
  have k1 := fun W => Lib.hid (at_any 2 0 1 W)
  have k2 := fun W => Lib.hid (at_any 1 0 2 W)
  have k3 := fun W => Lib.hid (at_any 3 0 2 W)
  have hfr := fun A W h => Lib.hid (front_any A 3 [⟨2, 0, 1⟩, ⟨1, 0, 2⟩, ⟨3, 0, 2⟩] W h (by simp))
  rw [front_fixed] at hfr
  unfold Tm.val at k1 k2 k3
  go_enter Try.func7, Try.ntmps7
  go_wp2_with fail
  refine (k1 _).out.mono ?_
  rintro e w1 ⟨rfl, b1⟩
  go_wp2_with fail
  refine (k2 _).out.mono ?_
  rintro e w2 ⟨rfl, b2⟩
  go_wp2_with fail
  refine (k3 _).out.mono ?_
  rintro e w3 ⟨rfl, b3⟩
  go_wp2_with fail
  refine (hfr _ _ (times_here (times_lit3 ⟨2, 0, 1⟩ ⟨1, 0, 2⟩ ⟨3, 0, 2⟩ rfl) (by simp))).out.mono ?_
  rintro e w4 ⟨v, rfl, ho, b4⟩
  have hb : Below w.heap.size w w4 := belows b1 (belows b2 (belows b3 (below_then ((Below.refl _ _).alloc (Nat.le_refl _) _) (by simp) b4)))
  obtain ⟨A, c, rfl, hc, hcm, ht⟩ := times_of_own (l := [⟨1, 0, 2⟩, ⟨2, 0, 1⟩]) rfl ho
  have HB := Lib.hid (And.intro hb ht)
  obtain ⟨b, o, rfl, hB, hx⟩ := ht (by simp)
  obtain ⟨c0, c1, c2⟩ := hx 0 ⟨1, 0, 2⟩ rfl
  clear b1 b2 b3 b4 ho hb ht hx k1 k2 k3 hfr
  have eq1 : ∀ W, (binOp .eql 26 (.agg #[.int .u64 1, .int .u64 0, .int .u64 2]) (.agg #[.int .u64 1, .int .u64 0, .int .u64 2])).run Try.prog W = .ok (.bool true) W := fun W => eql_time (Tm.mk 1 0 2) (Tm.mk 1 0 2) W
  have eq3 : ∀ W, (binOp .eql 26 (.agg #[.int .u64 3, .int .u64 0, .int .u64 0]) (.agg #[.int .u64 3, .int .u64 0, .int .u64 0])).run Try.prog W = .ok (.bool true) W := fun W => eql_time (Tm.mk 3 0 0) (Tm.mk 3 0 0) W
  have hgd := fun (x1 y1 : Operand) (xs ys : Array Value) (w : World) => grd_time .eql x1 y1 xs ys w
  have k2 : ∀ W, Hid (Calls Try.prog 31 #[.int .u64 1, .int .u64 0, .int .u64 2] W fun e w' => e = .returned (.agg #[.int .u64 1, .int .u64 0, .int .u64 2]) ∧ Below W.heap.size W w') := fun W => Lib.hid (at_any 1 0 2 W)
  have k202 : ∀ W, Hid (Calls Try.prog 31 #[.int .u64 2, .int .u64 0, .int .u64 2] W fun e w' => e = .returned (.agg #[.int .u64 2, .int .u64 0, .int .u64 2]) ∧ Below W.heap.size W w') := fun W => Lib.hid (at_any 2 0 2 W)
  have k190 : ∀ W, Hid (Calls Try.prog 31 #[.int .u64 1, .int .u64 9, .int .u64 0] W fun e w' => e = .returned (.agg #[.int .u64 1, .int .u64 9, .int .u64 0]) ∧ Below W.heap.size W w') := fun W => Lib.hid (at_any 1 9 0 W)
  have k100 : ∀ W, Hid (Calls Try.prog 31 #[.int .u64 1, .int .u64 0, .int .u64 0] W fun e w' => e = .returned (.agg #[.int .u64 1, .int .u64 0, .int .u64 0]) ∧ Below W.heap.size W w') := fun W => Lib.hid (at_any 1 0 0 W)
  have k300 : ∀ W, Hid (Calls Try.prog 31 #[.int .u64 3, .int .u64 0, .int .u64 0] W fun e w' => e = .returned (.agg #[.int .u64 3, .int .u64 0, .int .u64 0]) ∧ Below W.heap.size W w') := fun W => Lib.hid (at_any 3 0 0 W)
  have y1 : ∀ W, Times W W.heap.size (some ⟨b, o, none⟩) [⟨1, 0, 2⟩, ⟨2, 0, 1⟩] → Hid (Calls Try.prog 11 #[.slice (some ⟨b, o, none⟩) 2 c, .agg #[.int .u64 2, .int .u64 0, .int .u64 2]] W fun e w' => e = .returned (.bool true) ∧ Below W.heap.size W w') :=
    fun W h => Lib.hid (beyond_any (some ⟨b, o, none⟩) c [⟨1, 0, 2⟩, ⟨2, 0, 1⟩] ⟨2, 0, 2⟩ W h (by unfold maxLen; simp))
  have y2 : ∀ W, Times W W.heap.size (some ⟨b, o, none⟩) [⟨1, 0, 2⟩, ⟨2, 0, 1⟩] → Hid (Calls Try.prog 11 #[.slice (some ⟨b, o, none⟩) 2 c, .agg #[.int .u64 1, .int .u64 9, .int .u64 0]] W fun e w' => e = .returned (.bool false) ∧ Below W.heap.size W w') :=
    fun W h => Lib.hid (beyond_any (some ⟨b, o, none⟩) c [⟨1, 0, 2⟩, ⟨2, 0, 1⟩] ⟨1, 9, 0⟩ W h (by unfold maxLen; simp))
  have y3 : ∀ A W, Times W W.heap.size A [⟨3, 0, 0⟩] → Hid (Calls Try.prog 13 #[.agg #[.int .u64 1, .int .u64 0, .int .u64 0], .slice A 1 1] W fun e w' => e = .returned (.agg #[.int .u64 3, .int .u64 0, .int .u64 0]) ∧ Below W.heap.size W w') :=
    fun A W h => Lib.hid (advance_any ⟨1, 0, 0⟩ A 1 [⟨3, 0, 0⟩] W h (by simp) (by unfold maxLen; omega))
  go_wp2_with fail
  have x0 := c0
  rw [Nat.zero_mul, Nat.add_zero] at x0 c1 c2
  have HX := Lib.hid (And.intro x0 (And.intro c1 c2))
  clear c0 x0 c1 c2
  go_region_held3 (fun w' => Below w4.heap.size w4 w' ∧ w'.cell? ⟨b, o, none⟩ = some (.int .u64 1) ∧ w'.cell? ⟨b, o + 1, none⟩ = some (.int .u64 0) ∧ w'.cell? ⟨b, o + 2, none⟩ = some (.int .u64 2))
    (first | (refine keep3 hB HX.out.1 HX.out.2.1 HX.out.2.2 ?_; repeat (first | exact Below.refl _ _ | (apply And.left; assumption) | refine below_new ?_ _ | refine Below.drew ?_ | refine belows ?_ hb)))
    (first | ((go_at_call 31; (first | (with_reducible refine (k2 _).out.mono ?_) | (with_reducible refine (k202 _).out.mono ?_) | (with_reducible refine (k190 _).out.mono ?_) | (with_reducible refine (k100 _).out.mono ?_) | (with_reducible refine (k300 _).out.mono ?_)); rintro e w' ⟨rfl, hb⟩)) | (go_at_call 11; (first | (with_reducible refine (y1 _ ?_).out.mono ?_) | (with_reducible refine (y2 _ ?_).out.mono ?_)); (refine times_keep HB.out.2 ?_; apply And.left; assumption); rintro e w' ⟨rfl, hb⟩) | (go_at_call 13; refine (y3 _ _ ?_).out.mono ?_; (exact times_here (times_one' ⟨3, 0, 0⟩ (by simp)) (by simp)); rintro e w' ⟨rfl, hb⟩))
  all_goals
    go_wp2_with fail
    go_ret
    refine ⟨rfl, HB.out.1.trans (Below.mono (B := w4.heap.size) ?_ HB.out.1.size)⟩
    repeat (first | exact Below.refl _ _ | (apply And.left; assumption) | refine below_new ?_ _ | refine Below.drew ?_ | refine belows ?_ hb)
end Go.Proofs.Ytfhlgdidobecaaa
namespace Go.Proofs.Ytfhlgdidobecaaa
open Go Go.RowKit

theorem boxes1 (w : World) (s : Tm) : ∃ W, W = w.alloc (.cells #[.int .u64 (s.e : Int), .int .u64 (s.a : Int), .int .u64 (s.b : Int)] 26) ∧ Below w.heap.size w W ∧ Own W w.heap.size 26 s.cells :=
  ⟨_, rfl, (Below.refl _ _).alloc (Nat.le_refl _) _, by have := Own.made w 26 s.cells; simpa [Tm.cells] using this⟩
theorem boxes2 (w : World) (s t : Tm) : ∃ W, W = (w.alloc (.cells #[.int .u64 (s.e : Int), .int .u64 (s.a : Int), .int .u64 (s.b : Int)] 26)).alloc (.cells #[.int .u64 (t.e : Int), .int .u64 (t.a : Int), .int .u64 (t.b : Int)] 26) ∧
    Below w.heap.size w W ∧ Own W w.heap.size 26 s.cells ∧ Own W (w.heap.size + 1) 26 t.cells := by
  obtain ⟨W, hW, fb, f0⟩ := boxes1 w s
  have h1 : W.heap.size = w.heap.size + 1 := by rw [hW]; simp
  rw [← hW]
  obtain ⟨V, hV, gb, g0⟩ := boxes1 W t
  rw [← hV]
  rw [h1] at g0
  exact ⟨V, rfl, fb.trans (gb.mono (by omega)), f0.past gb f0.inside, g0⟩
theorem boxes3 (w : World) (s t u : Tm) : ∃ W, W = ((w.alloc (.cells #[.int .u64 (s.e : Int), .int .u64 (s.a : Int), .int .u64 (s.b : Int)] 26)).alloc (.cells #[.int .u64 (t.e : Int), .int .u64 (t.a : Int), .int .u64 (t.b : Int)] 26)).alloc (.cells #[.int .u64 (u.e : Int), .int .u64 (u.a : Int), .int .u64 (u.b : Int)] 26) ∧
    Below w.heap.size w W ∧ Own W w.heap.size 26 s.cells ∧ Own W (w.heap.size + 1) 26 t.cells ∧ Own W (w.heap.size + 1 + 1) 26 u.cells := by
  obtain ⟨W, hW, fb, f0, f1⟩ := boxes2 w s t
  have h1 : W.heap.size = w.heap.size + 1 + 1 := by rw [hW]; simp
  rw [← hW]
  obtain ⟨V, hV, gb, g0⟩ := boxes1 W u
  rw [← hV]
  rw [h1] at g0
  exact ⟨V, rfl, fb.trans (gb.mono (by omega)), f0.past gb f0.inside, f1.past gb f1.inside, g0⟩
theorem own_cells {a b : World} {g : Nat} {t : Tm} (h : Own a g 26 t.cells) (hb : Below a.heap.size a b) :
    b.cell? ⟨g, 0, none⟩ = some (.int .u64 (t.e : Int)) ∧ b.cell? ⟨g, 1, none⟩ = some (.int .u64 (t.a : Int)) ∧ b.cell? ⟨g, 2, none⟩ = some (.int .u64 (t.b : Int)) := by
  have h2 := h.past hb h.inside
  exact ⟨h2.at_ 0, h2.at_ 1, h2.at_ 2⟩
theorem keepB1 {a b : World} {g : Nat} {s : Tm} (h : Own a g 26 s.cells) (hb : Below a.heap.size a b) :
    Below a.heap.size a b ∧ b.cell? ⟨g, 0, none⟩ = some (.int .u64 (s.e : Int)) ∧ b.cell? ⟨g, 1, none⟩ = some (.int .u64 (s.a : Int)) ∧ b.cell? ⟨g, 2, none⟩ = some (.int .u64 (s.b : Int)) := ⟨hb, own_cells h hb⟩
theorem keepB2 {a b : World} {g g' : Nat} {s t : Tm} (h : Own a g 26 s.cells) (h' : Own a g' 26 t.cells) (hb : Below a.heap.size a b) :
    Below a.heap.size a b ∧ b.cell? ⟨g, 0, none⟩ = some (.int .u64 (s.e : Int)) ∧ b.cell? ⟨g, 1, none⟩ = some (.int .u64 (s.a : Int)) ∧ b.cell? ⟨g, 2, none⟩ = some (.int .u64 (s.b : Int)) ∧
      b.cell? ⟨g', 0, none⟩ = some (.int .u64 (t.e : Int)) ∧ b.cell? ⟨g', 1, none⟩ = some (.int .u64 (t.a : Int)) ∧ b.cell? ⟨g', 2, none⟩ = some (.int .u64 (t.b : Int)) := by
  obtain ⟨a0, a1, a2⟩ := own_cells h hb
  exact ⟨hb, a0, a1, a2, own_cells h' hb⟩
theorem keepB3 {a b : World} {g g' g'' : Nat} {s t u : Tm} (h : Own a g 26 s.cells) (h' : Own a g' 26 t.cells) (h'' : Own a g'' 26 u.cells) (hb : Below a.heap.size a b) :
    Below a.heap.size a b ∧ b.cell? ⟨g, 0, none⟩ = some (.int .u64 (s.e : Int)) ∧ b.cell? ⟨g, 1, none⟩ = some (.int .u64 (s.a : Int)) ∧ b.cell? ⟨g, 2, none⟩ = some (.int .u64 (s.b : Int)) ∧
      b.cell? ⟨g', 0, none⟩ = some (.int .u64 (t.e : Int)) ∧ b.cell? ⟨g', 1, none⟩ = some (.int .u64 (t.a : Int)) ∧ b.cell? ⟨g', 2, none⟩ = some (.int .u64 (t.b : Int)) ∧
      b.cell? ⟨g'', 0, none⟩ = some (.int .u64 (u.e : Int)) ∧ b.cell? ⟨g'', 1, none⟩ = some (.int .u64 (u.a : Int)) ∧ b.cell? ⟨g'', 2, none⟩ = some (.int .u64 (u.b : Int)) := by
  obtain ⟨a0, a1, a2⟩ := own_cells h hb
  obtain ⟨b0, b1, b2⟩ := own_cells h' hb
  exact ⟨hb, a0, a1, a2, b0, b1, b2, own_cells h'' hb⟩
end Go.Proofs.Ytfhlgdidobecaaa
namespace Go.Proofs.Ytfhlgdidobecaaa
open Go Go.RowKit

theorem foldl_inf (t : Tm) : ∀ (l : List Tm) (a s : Tm), s.le (l.foldl (fun a y => a.inf (t.sup y)) a) = (s.le a && l.all fun y => s.le (t.sup y))
  | [], a, s => by simp
  | x :: l, a, s => by
    rw [List.foldl_cons, foldl_inf t l, List.all_cons]
    have : s.le (a.inf (t.sup x)) = (s.le a && s.le (t.sup x)) := by
      rw [Bool.eq_iff_iff, Bool.and_eq_true, Tm.le_iff, Tm.le_iff, Tm.le_iff]
      simp only [Tm.inf]
      omega
    rw [this, Bool.and_assoc]
/-- what is ahead of an advanced time -/
theorem le_adv (s t : Tm) (l : List Tm) (h : l ≠ []) : s.le (adv t l) = l.all fun y => s.le (t.sup y) := by
  cases l with
  | nil => exact absurd rfl h
  | cons x l => simp [adv, foldl_inf]
theorem le_refl' (t : Tm) : t.le t = true := Tm.le_iff.2 ⟨Nat.le_refl _, Nat.le_refl _, Nat.le_refl _⟩
theorem le_anti {s t : Tm} (h : s.le t = true) (k : t.le s = true) : s = t := by
  rw [Tm.le_iff] at h k
  obtain ⟨a, b, c⟩ := s
  obtain ⟨d, e, f⟩ := t
  simp at *
  omega
theorem le_trans' {a b c : Tm} (h : a.le b = true) (k : b.le c = true) : a.le c = true := by
  rw [Tm.le_iff] at *; omega
/-- a time advanced to a list, then to a later one, is advanced to the later one -/
theorem adv_later (t : Tm) (f g : List Tm) (hg : g ≠ []) (h : ∀ x ∈ g, beyond f x = true) : adv (adv t f) g = adv t g := by
  have key : ∀ s : Tm, s.le (adv (adv t f) g) = s.le (adv t g) := by
    intro s
    rw [le_adv _ _ _ hg, le_adv _ _ _ hg, Bool.eq_iff_iff, List.all_eq_true, List.all_eq_true]
    have hsup : ∀ y ∈ g, (adv t f).sup y = t.sup y := by
      intro y hy
      by_cases hf : f = []
      · subst hf; simp [beyond] at h; exact absurd hy (by intro hy; exact (h y hy))
      obtain ⟨x, hx, hxy⟩ := List.any_eq_true.1 (h y hy)
      have h1 : t.le (adv t f) = true := by
        rw [le_adv _ _ _ hf, List.all_eq_true]; intro z _; rw [Tm.le_iff]; simp only [Tm.sup]; omega
      have h2 : (adv t f).le (t.sup x) = true := by
        have := le_refl' (adv t f)
        rw [le_adv _ _ _ hf, List.all_eq_true] at this
        exact this x hx
      rw [Tm.le_iff] at h1 h2 hxy
      simp only [Tm.sup] at h2 ⊢
      simp only [Tm.mk.injEq]
      omega
    constructor
    · intro k y hy; rw [← hsup y hy]; exact k y hy
    · intro k y hy; rw [hsup y hy]; exact k y hy
  exact le_anti (by rw [← key]; exact le_refl' _) (by rw [key]; exact le_refl' _)

attribute [local go_sem ↓] Go.wp_at_zero Go.wp_at_succ
theorem beyond_all {f g : List Tm} (h : ∀ (k : Nat) (x : Tm), g[k]? = some x → beyond f x = true) : ∀ x ∈ g, beyond f x = true := fun x hx => by
  obtain ⟨k, hk⟩ := List.mem_iff_getElem?.1 hx
  exact h k x hk

end Go.Proofs.Ytfhlgdidobecaaa
namespace Go.Proofs.Ytfhlgdidobecaaa
open Go Go.RowKit Go.Sort Go.Lib

/-- two of a frontier, the earlier one first -/
def Apart (x y : Tm) : Prop := ltOf Tm.cmp x y = true ∧ x.le y = false ∧ y.le x = false
theorem le_not_lt {x y : Tm} (h : x.le y = true) : ltOf Tm.cmp y x = false := by
  rw [Tm.le_iff] at h; rw [ltT]; simp; omega
theorem beyond_iff {l : List Tm} {t : Tm} : beyond l t = true ↔ ∃ x ∈ l, x.le t = true := by unfold beyond; rw [List.any_eq_true]
theorem sorted_unique' {R : Tm → Tm → Prop} (hi : ∀ x, ¬ R x x) (ha : ∀ x y, R x y → ¬ R y x) : ∀ l m : List Tm, l.Pairwise R → m.Pairwise R → (∀ x, x ∈ l ↔ x ∈ m) → l = m
  | [], [], _, _, _ => rfl
  | [], y :: m, _, _, h => absurd ((h y).2 List.mem_cons_self) (by simp)
  | x :: l, [], _, _, h => absurd ((h x).1 List.mem_cons_self) (by simp)
  | x :: l, y :: m, hl, hm, h => by
    rw [List.pairwise_cons] at hl hm
    have hxy : x = y := by
      rcases List.mem_cons.1 ((h x).1 List.mem_cons_self) with e | e
      · exact e
      · rcases List.mem_cons.1 ((h y).2 List.mem_cons_self) with e' | e'
        · exact e'.symm
        · exact absurd (hl.1 y e') (ha _ _ (hm.1 x e))
    subst hxy
    congr 1
    refine sorted_unique' hi ha l m hl.2 hm.2 fun z => ?_
    constructor
    · intro hz
      rcases List.mem_cons.1 ((h z).1 (List.mem_cons_of_mem _ hz)) with e | e
      · subst e; exact absurd (hl.1 z hz) (hi z)
      · exact e
    · intro hz
      rcases List.mem_cons.1 ((h z).2 (List.mem_cons_of_mem _ hz)) with e | e
      · subst e; exact absurd (hm.1 z hz) (hi z)
      · exact e
theorem frontTo_facts (s : List Tm) (hs : s.Pairwise fun x y => ltOf Tm.cmp y x = false) : ∀ k, k ≤ s.length →
    (frontTo s k).Pairwise Apart ∧ (∀ x ∈ frontTo s k, x ∈ s.take k) ∧ ∀ t, beyond (frontTo s k) t = beyond (s.take k) t
  | 0, _ => ⟨by simp [frontTo], by simp [frontTo], by simp [frontTo]⟩
  | k + 1, h => by
    obtain ⟨h1, h2, h3⟩ := frontTo_facts s hs k (by omega)
    have hx : s[k]? = some s[k] := List.getElem?_eq_getElem (by omega)
    have htk : s.take (k + 1) = s.take k ++ [s[k]] := by rw [List.take_add_one, hx]; rfl
    have hpw : ∀ x ∈ s.take k, ltOf Tm.cmp s[k] x = false := by
      have := hs.sublist (List.take_sublist (k + 1) s)
      rw [htk, List.pairwise_append] at this
      exact fun x hxk => this.2.2 x hxk _ (by simp)
    rw [frontTo_snoc hx, htk]
    generalize s[k] = t at *
    generalize frontTo s k = f at *
    unfold keepStep
    have hbs : ∀ u, beyond (s.take k ++ [t]) u = (beyond (s.take k) u || t.le u) := fun u => by simp [beyond]
    by_cases hb : beyond f t = true
    · rw [if_pos hb]
      refine ⟨h1, fun x hxf => List.mem_append_left _ (h2 x hxf), fun u => ?_⟩
      rw [hbs, h3]
      cases htu : t.le u with
      | false => simp
      | true =>
        obtain ⟨x, hxf, hxt⟩ := beyond_iff.1 hb
        rw [← h3, beyond_iff.2 ⟨x, hxf, le_trans' hxt htu⟩]; rfl
    · rw [if_neg hb]
      refine ⟨?_, fun x hxf => ?_, fun u => ?_⟩
      · rw [List.pairwise_append]
        refine ⟨h1, by simp, fun x hxf y hy => ?_⟩
        obtain rfl : y = t := by simpa using hy
        have hxt : x.le y = false := by
          cases hq : x.le y with
          | false => rfl
          | true => exact absurd (beyond_iff.2 ⟨x, hxf, hq⟩) hb
        have hlt : ltOf Tm.cmp x y = true := by
          cases hq : ltOf Tm.cmp x y with
          | true => rfl
          | false =>
            have := totT x y hq (hpw x (h2 x hxf))
            subst this
            rw [le_refl'] at hxt; cases hxt
        refine ⟨hlt, hxt, ?_⟩
        cases hq : y.le x with
        | false => rfl
        | true => have := le_not_lt hq; rw [hlt] at this; cases this
      · rcases List.mem_append.1 hxf with h | h
        · exact List.mem_append_left _ (h2 x h)
        · exact List.mem_append_right _ h
      · rw [hbs, ← h3]; simp [beyond]
theorem frontL_facts (l : List Tm) : (frontL l).Pairwise Apart ∧ (∀ x ∈ frontL l, x ∈ l) ∧ ∀ t, beyond (frontL l) t = beyond l t := by
  obtain ⟨h1, h2, h3⟩ := frontTo_facts (sortT l) (sortT_sorted l) (sortT l).length (Nat.le_refl _)
  rw [List.take_length] at h2 h3
  refine ⟨h1, fun x hx => mem_sortT.1 (h2 x hx), fun t => (h3 t).trans ?_⟩
  rw [Bool.eq_iff_iff, beyond_iff, beyond_iff]
  simp only [mem_sortT]
theorem apart_irrefl (x : Tm) : ¬ Apart x x := fun h => by have := h.2.1; rw [le_refl'] at this; cases this
theorem apart_asymm (x y : Tm) (h : Apart x y) : ¬ Apart y x := fun k => by
  have := swoT.trans _ _ _ h.1 k.1
  rw [swoT.irrefl] at this; cases this
/-- of two apart each is beyond itself alone -/
theorem mem_apart {f : List Tm} (hf : f.Pairwise Apart) {x y : Tm} (hx : x ∈ f) (hy : y ∈ f) (h : x.le y = true) : x = y := by
  by_cases e : x = y
  · exact e
  · have hs : ∀ (l : List Tm), l.Pairwise Apart → x ∈ l → y ∈ l → Apart x y ∨ Apart y x := by
      intro l
      induction l with
      | nil => intro _ h; simp at h
      | cons z l ih =>
        intro hp hx hy
        rw [List.pairwise_cons] at hp
        rcases List.mem_cons.1 hx with ex | hx'
        · rcases List.mem_cons.1 hy with ey | hy'
          · exact absurd (ex.trans ey.symm) e
          · exact .inl (ex ▸ hp.1 y hy')
        · rcases List.mem_cons.1 hy with ey | hy'
          · exact .inr (ey ▸ hp.1 x hx')
          · exact ih hp.2 hx' hy'
    rcases hs f hf hx hy with h' | h'
    · rw [h'.2.1] at h; cases h
    · rw [h'.2.2] at h; cases h
theorem apart_unique {f g : List Tm} (hf : f.Pairwise Apart) (hg : g.Pairwise Apart) (h : ∀ t, beyond f t = beyond g t) : f = g := by
  have key : ∀ {f g : List Tm}, f.Pairwise Apart → g.Pairwise Apart → (∀ t, beyond f t = beyond g t) → ∀ x, x ∈ f → x ∈ g := by
    intro f g hf hg h x hx
    obtain ⟨y, hy, hyx⟩ := beyond_iff.1 ((h x).symm.trans (beyond_iff.2 ⟨x, hx, le_refl' x⟩))
    obtain ⟨z, hz, hzy⟩ := beyond_iff.1 ((h y).trans (beyond_iff.2 ⟨y, hy, le_refl' y⟩))
    have := mem_apart hf hz hx (le_trans' hzy hyx)
    subst this
    rw [← le_anti hyx hzy]
    exact hy
  exact sorted_unique' apart_irrefl apart_asymm f g hf hg fun x => ⟨key hf hg h x, key hg hf (fun t => (h t).symm) x⟩
theorem front_congr {l m : List Tm} (h : ∀ t, beyond l t = beyond m t) : frontL l = frontL m :=
  apart_unique (frontL_facts l).1 (frontL_facts m).1 fun t => by rw [(frontL_facts l).2.2, (frontL_facts m).2.2, h]
theorem front_front (l : List Tm) : frontL (frontL l) = frontL l := front_congr (frontL_facts l).2.2
theorem front_nil {l : List Tm} (h : frontL l = []) : l = [] := by
  cases l with
  | nil => rfl
  | cons x l =>
    have := (frontL_facts (x :: l)).2.2 x
    rw [h, beyond_iff.2 ⟨x, List.mem_cons_self, le_refl' x⟩] at this
    simp [beyond] at this
theorem le_adv_t (t : Tm) (l : List Tm) : t.le (adv t l) = true := by
  by_cases h : l = []
  · subst h; exact le_refl' t
  · rw [le_adv _ _ _ h, List.all_eq_true]; intro z _; rw [Tm.le_iff]; simp only [Tm.sup]; omega
theorem sup_le {t x s : Tm} (h : t.le s = true) (k : x.le s = true) : (t.sup x).le s = true := by
  rw [Tm.le_iff] at *; simp only [Tm.sup]; omega
theorem adv_le {t x : Tm} {l : List Tm} (h : x ∈ l) : (adv t l).le (t.sup x) = true := by
  have := le_refl' (adv t l)
  rw [le_adv _ _ _ (by intro e; rw [e] at h; simp at h), List.all_eq_true] at this
  exact this x h
theorem adv_same (t s : Tm) (l : List Tm) (h : beyond l s = true) : t.le s = (adv t l).le s := by
  obtain ⟨x, hx, hxs⟩ := beyond_iff.1 h
  rw [Bool.eq_iff_iff]
  exact ⟨fun hts => le_trans' (adv_le hx) (sup_le hts hxs), fun h => le_trans' (le_adv_t t l) h⟩
theorem adv_again (t : Tm) (l : List Tm) : adv (adv t l) l = adv t l := by
  by_cases h : l = []
  · subst h; rfl
  · exact adv_later t l l h fun x hx => beyond_iff.2 ⟨x, hx, le_refl' x⟩
theorem adv_front (t : Tm) (l : List Tm) : adv t (frontL l) = adv t l := by
  by_cases h : l = []
  · subst h
    have : frontL [] = [] := by
      cases hq : frontL [] with
      | nil => rfl
      | cons x r => have := (frontL_facts []).2.1 x (by rw [hq]; exact List.mem_cons_self); simp at this
    rw [this]
  have h' : frontL l ≠ [] := fun e => h (front_nil e)
  have key : ∀ s : Tm, s.le (adv t (frontL l)) = s.le (adv t l) := by
    intro s
    rw [le_adv _ _ _ h', le_adv _ _ _ h, Bool.eq_iff_iff, List.all_eq_true, List.all_eq_true]
    constructor
    · intro k y hy
      obtain ⟨x, hx, hxy⟩ := beyond_iff.1 (((frontL_facts l).2.2 y).trans (beyond_iff.2 ⟨y, hy, le_refl' y⟩))
      refine le_trans' (k x hx) ?_
      rw [Tm.le_iff] at *; simp only [Tm.sup]; omega
    · intro k y hy; exact k y ((frontL_facts l).2.1 y hy)
  exact le_anti (by rw [← key]; exact le_refl' _) (by rw [key]; exact le_refl' _)
end Go.Proofs.Ytfhlgdidobecaaa
namespace Go.Proofs.Ytfhlgdidobecaaa
open Go Go.RowKit Go.Sort Go.Lib

/-- another one of l is ahead of t -/
def blocked (l : List Tm) (t : Tm) : Bool := l.any fun u => !eqT u t && u.le t
def holdsT (l : List Tm) (t : Tm) : Bool := l.any fun u => eqT u t
def before (t x : Tm) : Bool := decide (x.cmp t < 0)
def putIn (l : List Tm) (t : Tm) : List Tm := l.takeWhile (before t) ++ t :: l.dropWhile (before t)
def refStep (l out : List Tm) (t : Tm) : List Tm := if (blocked l t || holdsT out t) = true then out else putIn out t
def refTo (l : List Tm) (k : Nat) : List Tm := (l.take k).foldl (refStep l) []
theorem refTo_snoc {l : List Tm} {t : Tm} {k : Nat} (h : l[k]? = some t) : refTo l (k + 1) = refStep l (refTo l k) t := by
  unfold refTo; rw [List.take_add_one, h, List.foldl_append]; rfl
theorem before_lt (t x : Tm) : before t x = ltOf Tm.cmp x t := rfl
theorem holdsT_iff {l : List Tm} {t : Tm} : holdsT l t = true ↔ t ∈ l := by
  unfold holdsT; rw [List.any_eq_true]
  exact ⟨fun ⟨x, hx, h⟩ => eqT_iff.1 h ▸ hx, fun h => ⟨t, h, eqT_iff.2 rfl⟩⟩
theorem mem_putIn {l : List Tm} {t x : Tm} : x ∈ putIn l t ↔ x = t ∨ x ∈ l := by
  unfold putIn
  rw [List.mem_append, List.mem_cons]
  have := List.takeWhile_append_dropWhile (p := before t) (l := l)
  constructor
  · rintro (h | h | h)
    · exact .inr (this ▸ List.mem_append_left _ h)
    · exact .inl h
    · exact .inr (this ▸ List.mem_append_right _ h)
  · rintro (h | h)
    · exact .inr (.inl h)
    · rw [← this] at h
      rcases List.mem_append.1 h with h | h
      · exact .inl h
      · exact .inr (.inr h)
theorem mem_takeWhile_before {t x : Tm} : ∀ {l : List Tm}, x ∈ l.takeWhile (before t) → ltOf Tm.cmp x t = true
  | [], h => by simp at h
  | y :: l, h => by
    rw [List.takeWhile_cons] at h
    split at h
    · rename_i hb
      rcases List.mem_cons.1 h with rfl | h
      · exact hb
      · exact mem_takeWhile_before h
    · simp at h
theorem dropWhile_after {t : Tm} : ∀ {l : List Tm}, l.Pairwise (fun x y => ltOf Tm.cmp x y = true) → t ∉ l → ∀ x ∈ l.dropWhile (before t), ltOf Tm.cmp t x = true
  | [], _, _, x, h => by simp at h
  | y :: l, hp, ht, x, h => by
    rw [List.pairwise_cons] at hp
    rw [List.dropWhile_cons] at h
    split at h
    · exact dropWhile_after hp.2 (fun k => ht (List.mem_cons_of_mem _ k)) x h
    · rename_i hb
      have hb' : ltOf Tm.cmp y t = false := by simpa [before_lt] using hb
      have hty : ltOf Tm.cmp t y = true := by
        cases hq : ltOf Tm.cmp t y with
        | true => rfl
        | false => exact absurd (totT _ _ hq hb' ▸ List.mem_cons_self) ht
      rcases List.mem_cons.1 h with rfl | h
      · exact hty
      · exact swoT.trans _ _ _ hty (hp.1 x h)
theorem putIn_sorted {l : List Tm} {t : Tm} (hp : l.Pairwise fun x y => ltOf Tm.cmp x y = true) (ht : t ∉ l) : (putIn l t).Pairwise fun x y => ltOf Tm.cmp x y = true := by
  have hpw := hp
  rw [← List.takeWhile_append_dropWhile (p := before t) (l := l), List.pairwise_append] at hpw
  unfold putIn
  rw [List.pairwise_append, List.pairwise_cons]
  refine ⟨hpw.1, ⟨fun x hx => dropWhile_after hp ht x hx, hpw.2.1⟩, fun x hx y hy => ?_⟩
  rcases List.mem_cons.1 hy with rfl | hy
  · exact mem_takeWhile_before hx
  · exact hpw.2.2 x hx y hy
theorem refTo_facts (l : List Tm) : ∀ k, k ≤ l.length → (refTo l k).Pairwise (fun x y => ltOf Tm.cmp x y = true) ∧ ∀ x, x ∈ refTo l k ↔ x ∈ l.take k ∧ blocked l x = false
  | 0, _ => ⟨by simp [refTo], by simp [refTo]⟩
  | k + 1, h => by
    obtain ⟨h1, h2⟩ := refTo_facts l k (by omega)
    have hx : l[k]? = some l[k] := List.getElem?_eq_getElem (by omega)
    have htk : l.take (k + 1) = l.take k ++ [l[k]] := by rw [List.take_add_one, hx]; rfl
    rw [refTo_snoc hx, htk]
    generalize l[k] = t at *
    generalize refTo l k = f at *
    unfold refStep
    by_cases hb : (blocked l t || holdsT f t) = true
    · rw [if_pos hb]
      refine ⟨h1, fun x => (h2 x).trans ⟨fun ⟨a, b⟩ => ⟨List.mem_append_left _ a, b⟩, fun ⟨a, b⟩ => ⟨?_, b⟩⟩⟩
      rcases List.mem_append.1 a with a | a
      · exact a
      · obtain rfl : x = t := by simpa using a
        rw [b, Bool.false_or] at hb
        exact ((h2 x).1 (holdsT_iff.1 hb)).1
    · rw [if_neg hb]
      simp only [Bool.or_eq_true, not_or, Bool.not_eq_true] at hb
      have ht : t ∉ f := fun hm => by rw [holdsT_iff.2 hm] at hb; cases hb.2
      refine ⟨putIn_sorted h1 ht, fun x => ?_⟩
      rw [mem_putIn, h2, List.mem_append]
      constructor
      · rintro (rfl | ⟨a, b⟩)
        · exact ⟨.inr (by simp), hb.1⟩
        · exact ⟨.inl a, b⟩
      · rintro ⟨a | a, b⟩
        · exact .inr ⟨a, b⟩
        · exact .inl (by simpa using a)
theorem mem_front {l : List Tm} {x : Tm} : x ∈ frontL l ↔ x ∈ l ∧ blocked l x = false := by
  obtain ⟨h1, h2, h3⟩ := frontL_facts l
  constructor
  · intro hx
    refine ⟨h2 x hx, ?_⟩
    cases hb : blocked l x with
    | false => rfl
    | true =>
      obtain ⟨u, hu, h⟩ := List.any_eq_true.1 hb
      simp only [Bool.and_eq_true, Bool.not_eq_true'] at h
      obtain ⟨y, hy, hyu⟩ := beyond_iff.1 ((h3 u).trans (beyond_iff.2 ⟨u, hu, le_refl' u⟩))
      have := mem_apart h1 hy hx (le_trans' hyu h.2)
      subst this
      have := le_anti h.2 hyu
      subst this
      rw [eqT_iff.2 rfl] at h
      cases h.1
  · rintro ⟨hx, hb⟩
    obtain ⟨y, hy, hyx⟩ := beyond_iff.1 ((h3 x).trans (beyond_iff.2 ⟨x, hx, le_refl' x⟩))
    by_cases e : y = x
    · exact e ▸ hy
    · have : blocked l x = true := List.any_eq_true.2 ⟨y, h2 y hy, by simp only [Bool.and_eq_true, Bool.not_eq_true']; exact ⟨by cases hq : eqT y x with | false => rfl | true => exact absurd (eqT_iff.1 hq) e, hyx⟩⟩
      rw [hb] at this; cases this
theorem refTo_front (l : List Tm) : refTo l l.length = frontL l := by
  obtain ⟨h1, h2⟩ := refTo_facts l l.length (Nat.le_refl _)
  rw [List.take_length] at h2
  exact sorted_unique' (R := fun x y => ltOf Tm.cmp x y = true) (fun x h => by rw [swoT.irrefl] at h; cases h) (fun x y h k => by have := swoT.trans _ _ _ h k; rw [swoT.irrefl] at this; cases this) _ _ h1
    ((frontL_facts l).1.imp fun h => h.1) fun x => by rw [h2, mem_front]
theorem putIn_len (l : List Tm) (t : Tm) : (putIn l t).length = l.length + 1 := by
  unfold putIn
  have := congrArg List.length (List.takeWhile_append_dropWhile (p := before t) (l := l))
  rw [List.length_append] at this
  simp only [List.length_append, List.length_cons]
  omega
theorem refTo_len (l : List Tm) : ∀ k, k ≤ l.length → (refTo l k).length ≤ k
  | 0, _ => by simp [refTo]
  | k + 1, h => by
    have := refTo_len l k (by omega)
    rw [refTo_snoc (List.getElem?_eq_getElem (by omega))]
    unfold refStep
    split
    · omega
    · rw [putIn_len]; omega
end Go.Proofs.Ytfhlgdidobecaaa
namespace Go.Proofs.Ytfhlgdidobecaaa
open Go Go.RowKit

set_option maxRecDepth 100000 in
set_option maxHeartbeats 800000 in
theorem refCompare_any (s t : Tm) (w : World) :
    Calls Try.prog 36 #[s.val, t.val] w fun e w' => e = .returned (.int .i64 (s.cmp t)) ∧ Below w.heap.size w w' := by
  obtain ⟨a, b, c⟩ := s
  obtain ⟨x, y, z⟩ := t
  unfold Tm.val
  dsimp only
  have i0 : ∀ w, (Instr.index 24 (.agg #[.int .u64 (b : Int), .int .u64 (c : Int)]) (.int .i64 0)).run Try.prog w = .ok (.int .u64 (b : Int)) w := fun _ => by kernel_rfl
  have i1 : ∀ w, (Instr.index 24 (.agg #[.int .u64 (b : Int), .int .u64 (c : Int)]) (.int .i64 1)).run Try.prog w = .ok (.int .u64 (c : Int)) w := fun _ => by kernel_rfl
  have HB := Lib.hid (fun (o1 o2 : Obj) => (((Below.refl w.heap.size w).alloc (Nat.le_refl _) o1).alloc (by simp) o2))
  go_enter Try.func36, Try.ntmps36
  go_wp2_with fail
  all_goals try (go_rounds 3)
  all_goals
    go_ret
    refine ⟨ret_i64 ?_, HB.out _ _⟩
    unfold Tm.cmp Tm.cmpN
    dsimp only
    repeat' split
    all_goals first | rfl | omega | (simp_all; done) | (simp_all; omega)
end Go.Proofs.Ytfhlgdidobecaaa
namespace Go.Proofs.Ytfhlgdidobecaaa
open Go Go.RowKit Go.Sort Go.Lib

theorem run_append_nothing {P : Program} (w : World) (base : Nat) (t ty e : TypeId) (i : TypeInfo) (size : Nat) (ht : P.underlying t = some (.slice e)) (hi : P.info? e = some i) (v : Value) (n : Nat) (xs : List Value) (h : w.ownsRow base e size v n xs) (c : Nat) :
    (Builtin.append_ #[t, t] ty #[v, .slice none 0 c]).run P w = .ok v w := by
  rcases h.2 with ⟨rfl, _⟩ | ⟨g, cap, cur, rfl, _, _, hnc, _⟩
  · simp [Builtin.append_, run_underlying ht, typeInfo, hi, sizeOf, Builtin.firstCells, Builtin.lenOf]
  · simp [Builtin.append_, run_underlying ht, typeInfo, hi, sizeOf, Builtin.firstCells, Builtin.lenOf, storeCells, hnc]

/-- 'append(v, s...)', s a slice of times -/
theorem wpList_append_tm (w : World) {ops : Array Oper} {rest : List Oper} {o : Oper} {a : Act} {Q : Exit → Act → World → Prop} (hgd : o.guard = none) (s x : Operand)
    (ho : o.op = .call { callee := .builtin .append, args := #[s, x], argTypes := #[22, 22] })
    (base : Nat) (v : Value) (n : Nat) (xs : List Value) (hs : a.eval s = v) (hown : w.ownsRow base 26 3 v n xs)
    (B : Nat) (A : Option Addr) (c : Nat) (l : List Tm) (hx : a.eval x = .slice A l.length c) (hl : Times w B A l) (hn : (n + l.length) * 24 ≤ 140737488355328) (hbase : base ≤ w.heap.size)
    (h : ∀ v' w', w'.ownsRow base 26 3 v' (n + l.length) (xs ++ l.flatMap Tm.cells) → Below base w w' → wpList Try.prog ops Q rest (a.put o.dst v') w') :
    wpList Try.prog ops Q (o :: rest) a w := by
  obtain ⟨i0, hi, hz0, hz1, hz2⟩ := info_parts infoTm
  refine wpList_plain hgd fun K hK => ?_
  obtain ⟨v', w', hrun, ho', hb⟩ : ∃ v' w', (Builtin.append_ #[22, 22] o.type #[v, .slice A l.length c]).run Try.prog w = .ok v' w' ∧ w'.ownsRow base 26 3 v' (n + l.length) (xs ++ l.flatMap Tm.cells) ∧ Below base w w' := by
    cases A with
    | none =>
      have h0 : l = [] := by
        cases l with
        | nil => rfl
        | cons x l => obtain ⟨_, _, e, _⟩ := hl (by simp); cases e
      subst h0
      exact ⟨v, w, run_append_nothing w base _ _ _ i0 3 Try.underlying22 hi v n xs hown c, by simpa using hown, Below.refl _ _⟩
    | some ad =>
      obtain ⟨v', w', hr, h2, h3, _, _⟩ := run_append_own_at (P := Try.prog) w base 22 o.type 26 i0 _ 3 24 Try.underlying22 hi hz0 hz1 hz2 rfl (by decide) v n xs hown ad l.length c (l.flatMap Tm.cells) (flat_len l) (times_news hl) (flat_one l) (by unfold maxLen; omega) hn hbase
      exact ⟨v', w', hr, h2, (Below.refl base w).grown h3 hbase (fun k hk => (hown.lt k hk).1)⟩
  unfold Oper.wp execOp
  simp only [ho, resolve, invoke, builtin, Sem.run_bind, Sem.run_pure, Result.andThen_ok, List.map_toArray, List.map_cons, List.map_nil, hs, hx, hrun]
  exact hK _ _ (h v' w' ho' hb)
end Go.Proofs.Ytfhlgdidobecaaa
namespace Go.Proofs.Ytfhlgdidobecaaa
open Go Go.RowKit

/-- a world in which nothing of V has turned -/
structure Past (V : World) where
  w : World
  h : Below V.heap.size V w
instance (V : World) : Nonempty (Past V) := ⟨⟨V, Below.refl _ _⟩⟩
instance (V : World) : Inhabited (Past V) := ⟨⟨V, Below.refl _ _⟩⟩
theorem wp_region_past {P : Program} {id : Nat} {Q : Exit → Act → World → Prop} {a : Act} {w : World} {l : List Oper} (V : World) (hm : P.follows .mixedOrders = true) (hB : Region.lexB .any l.toArray = true) (hV : Below V.heap.size V w)
    (h : wpQuiet P l.toArray (fun w' => ∃ p : Past V, w' = p.w) (fun a' => ∀ w', (∃ p : Past V, w' = p.w) → Q .normal a' w') l a) : (Code.region id l.toArray true).wp P Q a w :=
  wp_region_quiet (C := fun w' => ∃ p : Past V, w' = p.w) hm hB ⟨⟨_, hV.drew⟩, rfl⟩ (by simpa using h)
theorem calls_past {P : Program} {V : World} {f : FuncId} {args : Array Value} {p : Past V} {v : Value}
    (h : Calls P f args p.w fun e w' => e = .returned v ∧ Below p.w.heap.size p.w w') : Calls P f args p.w fun e w'' => e = .returned v ∧ ∃ q : Past V, w'' = q.w :=
  h.mono fun _ w' ⟨he, hb⟩ => ⟨he, ⟨w', belows p.h hb⟩, rfl⟩
end Go.Proofs.Ytfhlgdidobecaaa
namespace Go.Proofs.Ytfhlgdidobecaaa
open Go Go.RowKit

/-- the same of a contract that hides its results' world -/
theorem past_cells {V : World} {g : Nat} {t : Tm} (h : Own V g 26 t.cells) :
    (∀ p : Past V, p.w.cell? ⟨g, 0, none⟩ = some (.int .u64 (t.e : Int))) ∧ (∀ p : Past V, p.w.cell? ⟨g, 1, none⟩ = some (.int .u64 (t.a : Int))) ∧ (∀ p : Past V, p.w.cell? ⟨g, 2, none⟩ = some (.int .u64 (t.b : Int))) :=
  ⟨fun p => (own_cells h p.h).1, fun p => (own_cells h p.h).2.1, fun p => (own_cells h p.h).2.2⟩
theorem past_times {V : World} {A : Option Addr} {l : List Tm} (h : Times V V.heap.size A l) (p : Past V) : Times p.w p.w.heap.size A l := times_keep h p.h
end Go.Proofs.Ytfhlgdidobecaaa
namespace Go.Proofs.Ytfhlgdidobecaaa
open Go Go.RowKit Go.Sort Go.Lib

theorem blocked_snoc {l : List Tm} {t u : Tm} {m : Nat} (h : l[m]? = some u) : blocked (l.take (m + 1)) t = (blocked (l.take m) t || (!eqT u t && u.le t)) := by
  unfold blocked; rw [List.take_add_one, h]; simp
theorem holdsT_snoc {l : List Tm} {t u : Tm} {m : Nat} (h : l[m]? = some u) : holdsT (l.take (m + 1)) t = (holdsT (l.take m) t || eqT u t) := by
  unfold holdsT; rw [List.take_add_one, h]; simp
theorem place_at {l : List Tm} {t : Tm} {m : Nat} (hm : m ≤ l.length) (h : ∀ (j : Nat) (y : Tm), j < m → l[j]? = some y → before t y = true) (he : ∀ y, l[m]? = some y → before t y = false) : putIn l t = l.take m ++ t :: l.drop m := by
  have key : ∀ (l : List Tm) (m : Nat), m ≤ l.length → (∀ (j : Nat) (y : Tm), j < m → l[j]? = some y → before t y = true) → (∀ y, l[m]? = some y → before t y = false) → l.takeWhile (before t) = l.take m ∧ l.dropWhile (before t) = l.drop m := by
    intro l
    induction l with
    | nil => intro m _ _ _; simp
    | cons y l ih =>
      intro m hm h he
      cases m with
      | zero => have := he y rfl; simp [List.takeWhile_cons, List.dropWhile_cons, this]
      | succ m =>
        have h0 := h 0 y (by omega) rfl
        obtain ⟨a, b⟩ := ih m (by simpa using hm) (fun j z hj hz => h (j + 1) z (by omega) (by simpa using hz)) (fun z hz => he z (by simpa using hz))
        simp [List.takeWhile_cons, List.dropWhile_cons, h0, a, b]
  obtain ⟨a, b⟩ := key l m hm h he
  unfold putIn
  rw [a, b]
end Go.Proofs.Ytfhlgdidobecaaa
namespace Go.Proofs.Ytfhlgdidobecaaa
open Go Go.RowKit

theorem take_same {l m : List Tm} {s t : Tm} {k : Nat} (h : l[k]? = some s) (h' : m[k]? = some t) (he : l.take k = m.take k) (hst : s = t) : l.take (k + 1) = m.take (k + 1) := by
  rw [List.take_add_one, List.take_add_one, h, h', he, hst]

set_option maxRecDepth 100000 in
set_option maxHeartbeats 1600000 in
theorem same_any (A A' : Option Addr) (c c' : Nat) (l m : List Tm) (w : World) (hl : Times w w.heap.size A l) (hm : Times w w.heap.size A' m) (hn : l.length ≤ maxLen) (hn' : m.length ≤ maxLen) :
    Calls Try.prog 8 #[.slice A l.length c, .slice A' m.length c'] w fun e w' => e = .returned (.bool (decide (l = m))) ∧ Below w.heap.size w w' := by
  unfold maxLen at hn hn'
  by_cases hlen : l.length = m.length
  · have hlb : ((l.length : Int) != (m.length : Int)) = false := by simp [hlen]
    have hn2 : (l.length : Int) = (m.length : Int) → True := fun _ => trivial
    have Hl := Lib.hid (And.intro hlen (And.intro hl hm))
    clear hl hm hlen hn2
    go_enter Try.func8, Try.ntmps8
    go_wp2_with fail
    go_loopw [13] (fun i wr => ∃ k : Nat, i = .int .i64 (k : Int) ∧ k ≤ l.length ∧ Below w.heap.size w wr ∧ l.take k = m.take k)
      (fun i _ => l.length - (intOf i).toNat)
    case atStart => exact ⟨0, rfl, by omega, Below.refl _ _, rfl⟩
    case round =>
      obtain ⟨k, rfl, hk, hb, he⟩ := hrel
      by_cases hlt : k < l.length
      · obtain ⟨hlen, hl, hm⟩ := Hl.out
        have hltm : k < m.length := by omega
        have hx : l[k]? = some l[k] := List.getElem?_eq_getElem hlt
        have hy : m[k]? = some m[k] := List.getElem?_eq_getElem hltm
        obtain ⟨b, o, rfl, hB, hl⟩ := hl (by omega)
        obtain ⟨b', o', rfl, hB', hm⟩ := hm (by omega)
        obtain ⟨c0, c1, c2⟩ := (hl k _ hx).past hb hB
        obtain ⟨d0, d1, d2⟩ := (hm k _ hy).past hb hB'
        generalize l[k] = s at *
        generalize m[k] = t at *
        have hne := neq_time s t
        have hgd := fun (x1 y1 : Operand) (xs ys : Array Value) (w : World) => grd_time .neq x1 y1 xs ys w
        unfold Tm.val at hne
        have HH := Lib.hid (And.intro hb (And.intro he (And.intro hx hy)))
        have q0 : (0 : Int) ≤ (k : Int) := by omega
        have q1 : (k : Int) < (l.length : Int) := by omega
        have q2 : (k : Int) < (m.length : Int) := by omega
        clear hb he hx hy hl hm hlen
        by_cases hst : s = t
        · have hv : (!eqT s t) = false := by rw [eqT_iff.2 hst]; rfl
          simp only [hv] at hne
          have HS := Lib.hid hst
          clear hst hv
          go_wp2_with fail
          go_quiet (fail)
          go_wp2_with fail
          obtain ⟨hb, he, hx, hy⟩ := HH.out
          go_roundw
          case rel => exact ⟨k + 1, by go_num, by omega, below_draws hb _, take_same hx hy he HS.out⟩
          case measure => simp [intOf]; omega
        · have hv : (!eqT s t) = true := by rw [Bool.not_eq_true', ← Bool.not_eq_true, eqT_iff]; exact hst
          simp only [hv] at hne
          have HS := Lib.hid hst
          clear hst hv
          go_wp2_with fail
          go_quiet (fail)
          go_wp2_with fail
          go_ret
          obtain ⟨hb, he, hx, hy⟩ := HH.out
          refine ⟨ret_bool (Eq.symm ?_), below_draws hb _⟩
          simp only [decide_eq_false_iff_not]
          intro h
          rw [h, hy] at hx
          exact HS.out (by injection hx with hx; exact hx.symm)
      · have hk2 : k = l.length := by omega
        have HH := Lib.hid (And.intro hb (And.intro he hk2))
        clear hb he hk2
        go_wp2_with fail
        go_ret
        obtain ⟨hb, he, rfl⟩ := HH.out
        refine ⟨ret_bool (Eq.symm ?_), hb⟩
        simp only [decide_eq_true_eq]
        have := Hl.out.1
        rw [List.take_length, this, List.take_length] at he
        exact he
  · have hd : decide (l = m) = false := by simp; intro h; exact hlen (by rw [h])
    rw [hd]
    have hlb : ((l.length : Int) != (m.length : Int)) = true := by simp; omega
    clear hlen hd hl hm
    go_enter Try.func8, Try.ntmps8
    go_wp2_with fail
    go_ret
    exact ⟨rfl, Below.refl _ _⟩
end Go.Proofs.Ytfhlgdidobecaaa
namespace Go.Proofs.Ytfhlgdidobecaaa
open Go Go.RowKit

/-- a slice at A of as many elements as l has, 'size' cells each, reads as l; it lies below block B -/
def Lies {α : Type} (size : Nat) (cells : α → List Value) (w : World) (B : Nat) (A : Option Addr) (l : List α) : Prop :=
  0 < l.length → ∃ b o, A = some ⟨b, o, none⟩ ∧ b < B ∧ ∀ (i : Nat) (x : α), l[i]? = some x → ∀ (j : Nat) (u : Value), (cells x)[j]? = some u → w.cell? ⟨b, o + i * size + j, none⟩ = some u
section
variable {α : Type} {size : Nat} {cells : α → List Value} {w w' : World} {B B' : Nat} {A : Option Addr} {l : List α}
theorem Lies.past (h : Lies size cells w B A l) (hb : Below B' w w') (hB : B ≤ B') : Lies size cells w' B A l := fun hn => by
  obtain ⟨b, o, e, hlt, hc⟩ := h hn
  exact ⟨b, o, e, hlt, fun i x hi j u hj => (hb.cell (p := ⟨b, o + i * size + j, none⟩) (show b < B' by omega)).trans (hc i x hi j u hj)⟩
theorem Lies.wide (h : Lies size cells w B A l) (hB : B ≤ B') : Lies size cells w B' A l := fun hn => by
  obtain ⟨b, o, e, hlt, hc⟩ := h hn
  exact ⟨b, o, e, by omega, hc⟩
theorem Lies.nil_ : Lies size cells w B A [] := fun h => absurd h (by simp)
theorem lies_keep {a b : World} (h : Lies size cells a a.heap.size A l) (hb : Below a.heap.size a b) : Lies size cells b b.heap.size A l := (h.past hb (Nat.le_refl _)).wide hb.size
theorem flat_size (hcl : ∀ x, (cells x).length = size) (l : List α) : (l.flatMap cells).length = l.length * size := by
  induction l with
  | nil => simp
  | cons x l ih => rw [List.flatMap_cons, List.length_append, ih, List.length_cons, hcl, Nat.add_mul]; omega
theorem flat_of (hcl : ∀ x, (cells x).length = size) : ∀ (l : List α) (i r : Nat) (x : α) (u : Value), l[i]? = some x → (cells x)[r]? = some u → (l.flatMap cells)[i * size + r]? = some u
  | [], i, r, x, u, h, _ => by simp at h
  | y :: l, 0, r, x, u, h, hu => by
    obtain rfl : y = x := by simpa using h
    have hr : r < (cells y).length := (List.getElem?_eq_some_iff.1 hu).1
    rw [List.flatMap_cons, Nat.zero_mul, Nat.zero_add, List.getElem?_append_left hr, hu]
  | y :: l, i + 1, r, x, u, h, hu => by
    have ih := flat_of hcl l i r x u (by simpa using h) hu
    rw [List.flatMap_cons, List.getElem?_append_right (by rw [hcl, Nat.add_mul]; omega), hcl, show (i + 1) * size + r - size = i * size + r by rw [Nat.add_mul]; omega]
    exact ih
theorem flat_back (hpos : 0 < size) (hcl : ∀ x, (cells x).length = size) (l : List α) (j : Nat) (u : Value) (h : (l.flatMap cells)[j]? = some u) : ∃ i r x, j = i * size + r ∧ l[i]? = some x ∧ (cells x)[r]? = some u := by
  have hj : j < l.length * size := by have := (List.getElem?_eq_some_iff.1 h).1; rwa [flat_size hcl] at this
  have hi : j / size < l.length := (Nat.div_lt_iff_lt_mul hpos).2 hj
  have hr : j % size < size := Nat.mod_lt _ hpos
  have hd : j = j / size * size + j % size := by rw [Nat.mul_comm]; exact (Nat.div_add_mod j size).symm
  have hc : j % size < (cells l[j / size]).length := by rw [hcl]; exact hr
  refine ⟨j / size, j % size, l[j / size], hd, List.getElem?_eq_getElem hi, ?_⟩
  have := flat_of hcl l (j / size) (j % size) l[j / size] _ (List.getElem?_eq_getElem hi) (List.getElem?_eq_getElem hc)
  rw [← hd, h] at this
  rw [List.getElem?_eq_getElem hc]
  exact this.symm
/-- a row of the call's own reads as its list -/
theorem lies_of_own {base n : Nat} {e : TypeId} {v : Value} (hpos : 0 < size) (hcl : ∀ x, (cells x).length = size) (hn : n = l.length) (h : w.ownsRow base e size v n (l.flatMap cells)) :
    ∃ A c, v = .slice A l.length c ∧ l.length ≤ c ∧ c ≤ maxLen ∧ Lies size cells w w.heap.size A l := by
  subst hn
  rcases h.2 with ⟨rfl, h0⟩ | ⟨g, cap, cur, rfl, hb, hg, h1, h2, h3, h4⟩
  · exact ⟨none, 0, by rw [h0], by omega, by omega, fun h => by omega⟩
  · refine ⟨_, cap, rfl, h1, h2, fun _ => ⟨g, 0, rfl, (Array.getElem?_eq_some_iff.1 hg).1, fun i x hi j u hj => ?_⟩⟩
    have hf := flat_of hcl l i j x u hi hj
    have hlt : i * size + j < l.length * size := by have := (List.getElem?_eq_some_iff.1 hf).1; rwa [flat_size hcl] at this
    rw [Nat.zero_add, h.cellAt _ hlt]
    exact hf
theorem run_append_none {P : Program} (w : World) (base : Nat) (t ty e : TypeId) (i : TypeInfo) (size : Nat) (ht : P.underlying t = some (.slice e)) (hi : P.info? e = some i) (v : Value) (n : Nat) (xs : List Value) (h : w.ownsRow base e size v n xs) (c : Nat) :
    (Builtin.append_ #[t, t] ty #[v, .slice none 0 c]).run P w = .ok v w := by
  rcases h.2 with ⟨rfl, _⟩ | ⟨g, cap, cur, rfl, _, _, hnc, _⟩
  · simp [Builtin.append_, run_underlying ht, typeInfo, hi, sizeOf, Builtin.firstCells, Builtin.lenOf]
  · simp [Builtin.append_, run_underlying ht, typeInfo, hi, sizeOf, Builtin.firstCells, Builtin.lenOf, storeCells, hnc]
/-- 'append(v, s...)', s a slice that reads as a list, nil or not -/
theorem wpList_append_lies {P : Program} (w : World) {ops : Array Oper} {rest : List Oper} {o : Oper} {a : Act} {Q : Exit → Act → World → Prop} (hgd : o.guard = none) (s x : Operand) (t e : TypeId)
    (ho : o.op = .call { callee := .builtin .append, args := #[s, x], argTypes := #[t, t] })
    (i0 : TypeInfo) (z : Value) (bytes : Nat) (ht : P.underlying t = some (.slice e)) (hi : P.info? e = some i0) (hz0 : i0.zero = some z) (hz1 : i0.size = size) (hz2 : i0.bytes = bytes) (hzs : z.cells.size = size) (hpos : 0 < size) (hcl : ∀ x, (cells x).length = size) (hone : ∀ x, ∀ u ∈ cells x, u.oneCell' = true)
    (base : Nat) (v : Value) (n : Nat) (xs : List Value) (hs : a.eval s = v) (hown : w.ownsRow base e size v n xs)
    (c : Nat) (hx : a.eval x = .slice A l.length c) (hl : Lies size cells w B A l) (h63 : n + l.length ≤ maxLen) (hn : (n + l.length) * bytes ≤ 140737488355328) (hbase : base ≤ w.heap.size)
    (h : ∀ v' w', w'.ownsRow base e size v' (n + l.length) (xs ++ l.flatMap cells) → Below base w w' → wpList P ops Q rest (a.put o.dst v') w') :
    wpList P ops Q (o :: rest) a w := by
  refine wpList_plain hgd fun K hK => ?_
  obtain ⟨v', w', hrun, ho', hb⟩ : ∃ v' w', (Builtin.append_ #[t, t] o.type #[v, .slice A l.length c]).run P w = .ok v' w' ∧ w'.ownsRow base e size v' (n + l.length) (xs ++ l.flatMap cells) ∧ Below base w w' := by
    cases A with
    | none =>
      have h0 : l = [] := by
        cases l with
        | nil => rfl
        | cons x l => obtain ⟨_, _, e, _⟩ := hl (by simp); cases e
      subst h0
      exact ⟨v, w, run_append_none w base _ _ _ i0 size ht hi v n xs hown c, by simpa using hown, Below.refl _ _⟩
    | some ad =>
      have hnews : ∀ j u, (l.flatMap cells)[j]? = some u → w.cell? (ad.add j) = some u := by
        intro j u hu
        obtain ⟨i, r, y, rfl, hi, hr⟩ := flat_back hpos hcl l j u hu
        have hp : 0 < l.length := by have := (List.getElem?_eq_some_iff.1 hi).1; omega
        obtain ⟨b, o, e, _, hc⟩ := hl hp
        obtain rfl : ad = ⟨b, o, none⟩ := by injection e
        have ea : (⟨b, o, none⟩ : Addr).add (i * size + r) = ⟨b, o + i * size + r, none⟩ := by unfold Addr.add; split <;> simp_all <;> omega
        rw [ea]
        exact hc i y hi r u hr
      obtain ⟨v', w', hr, h2, h3, _, _⟩ := run_append_own_at (P := P) w base t o.type e i0 _ size bytes ht hi hz0 hz1 hz2 hzs hpos v n xs hown ad l.length c (l.flatMap cells) (flat_size hcl l) hnews
        (fun u hu => by obtain ⟨y, _, hy⟩ := List.mem_flatMap.1 hu; exact hone y u hy) h63 hn hbase
      exact ⟨v', w', hr, h2, (Below.refl base w).grown h3 hbase (fun k hk => (hown.lt k hk).1)⟩
  unfold Oper.wp execOp
  simp only [ho, resolve, invoke, builtin, Sem.run_bind, Sem.run_pure, Result.andThen_ok, List.map_toArray, List.map_cons, List.map_nil, hs, hx, hrun]
  exact hK _ _ (h v' w' ho' hb)
/-- the same as a step of a region that draws its order; and where the row lies behind it -/
theorem step_append_lies {P : Program} (w : World) {ops : Array Oper} {o : Oper} {a : Act} {K : Act → World → Prop} {Q : Exit → Act → World → Prop} {E : Prop} (hgd : o.guard = none) (s x : Operand) (t e : TypeId)
    (ho : o.op = .call { callee := .builtin .append, args := #[s, x], argTypes := #[t, t] })
    (i0 : TypeInfo) (z : Value) (bytes : Nat) (ht : P.underlying t = some (.slice e)) (hi : P.info? e = some i0) (hz0 : i0.zero = some z) (hz1 : i0.size = size) (hz2 : i0.bytes = bytes) (hzs : z.cells.size = size) (hpos : 0 < size) (hcl : ∀ x, (cells x).length = size) (hone : ∀ x, ∀ u ∈ cells x, u.oneCell' = true)
    (base : Nat) (v : Value) (n : Nat) (xs : List Value) (hs : a.eval s = v) (hown : w.ownsRow base e size v n xs)
    (c : Nat) (b off : Nat) (hx : a.eval x = .slice (some ⟨b, off, none⟩) l.length c) (hl : Lies size cells w B (some ⟨b, off, none⟩) l) (h63 : n + l.length ≤ maxLen) (hn : (n + l.length) * bytes ≤ 140737488355328) (hbase : base ≤ w.heap.size)
    (h : ∀ v' w', w'.ownsRow base e size v' (n + l.length) (xs ++ l.flatMap cells) → Below base w w' → (v'.ownBlock = v.ownBlock ∨ v'.ownBlock = some w.heap.size) → w.grownBy w' v.ownBlock → K (a.put o.dst v') w') :
    if Region.wanted o (yielded ops a.tmps) = true then Oper.wp P o a w K Q else E := by
  have hw : Region.wanted o (yielded ops a.tmps) = true := by simp [Region.wanted, hgd]
  rw [if_pos hw]
  have hnews : ∀ j u, (l.flatMap cells)[j]? = some u → w.cell? ((⟨b, off, none⟩ : Addr).add j) = some u := by
    intro j u hu
    obtain ⟨i, r, y, rfl, hi, hr⟩ := flat_back hpos hcl l j u hu
    have hp : 0 < l.length := by have := (List.getElem?_eq_some_iff.1 hi).1; omega
    obtain ⟨b', o', e, _, hc⟩ := hl hp
    simp only [Option.some.injEq, Addr.mk.injEq, and_true] at e
    obtain ⟨rfl, rfl⟩ := e
    have ea : (⟨b, off, none⟩ : Addr).add (i * size + r) = ⟨b, off + i * size + r, none⟩ := by unfold Addr.add; split <;> simp_all <;> omega
    rw [ea]
    exact hc i y hi r u hr
  obtain ⟨v', w', hrun, h2, h3, _, h5⟩ := run_append_own_at (P := P) w base t o.type e i0 _ size bytes ht hi hz0 hz1 hz2 hzs hpos v n xs hown ⟨b, off, none⟩ l.length c (l.flatMap cells) (flat_size hcl l) hnews
    (fun u hu => by obtain ⟨y, _, hy⟩ := List.mem_flatMap.1 hu; exact hone y u hy) h63 hn hbase
  unfold Oper.wp execOp
  simp only [ho, resolve, invoke, builtin, Sem.run_bind, Sem.run_pure, Result.andThen_ok, List.map_toArray, List.map_cons, List.map_nil, hs, hx, hrun]
  exact h v' w' h2 ((Below.refl base w).grown h3 hbase (fun k hk => (hown.lt k hk).1)) h5 h3
end
end Go.Proofs.Ytfhlgdidobecaaa
namespace Go.Proofs.Ytfhlgdidobecaaa
open Go Go.RowKit

theorem lies_of_times {W : World} {B : Nat} {A : Option Addr} {l : List Tm} (h : Times W B A l) : Lies 3 Tm.cells W B A l := fun hp => by
  obtain ⟨b, o, e, hB, hc⟩ := h hp
  refine ⟨b, o, e, hB, fun i x hi j u hj => ?_⟩
  obtain ⟨h0, h1, h2⟩ := hc i x hi
  match j, hj with
  | 0, hj => obtain rfl : Value.int .u64 (x.e : Int) = u := by simpa [Tm.cells] using hj
             exact h0
  | 1, hj => obtain rfl : Value.int .u64 (x.a : Int) = u := by simpa [Tm.cells] using hj
             exact h1
  | 2, hj => obtain rfl : Value.int .u64 (x.b : Int) = u := by simpa [Tm.cells] using hj
             exact h2
theorem lies_take {W : World} {B : Nat} {A : Option Addr} {l : List Tm} (h : Lies 3 Tm.cells W B A l) (m : Nat) : Lies 3 Tm.cells W B A (l.take m) := fun hp => by
  obtain ⟨b, o, e, hB, hc⟩ := h (by rw [List.length_take] at hp; omega)
  refine ⟨b, o, e, hB, fun i x hi => hc i x ?_⟩
  rw [List.getElem?_take] at hi
  split at hi
  · exact hi
  · cases hi
theorem lies_drop {W : World} {B : Nat} {b o : Nat} {l : List Tm} (h : Lies 3 Tm.cells W B (some ⟨b, o, none⟩) l) (m : Nat) : Lies 3 Tm.cells W B (some ⟨b, o + m * 3, none⟩) (l.drop m) := fun hp => by
  obtain ⟨b', o', e, hB, hc⟩ := h (by rw [List.length_drop] at hp; omega)
  simp only [Option.some.injEq, Addr.mk.injEq, and_true] at e
  obtain ⟨rfl, rfl⟩ := e
  refine ⟨_, _, rfl, hB, fun i x hi j u hj => ?_⟩
  rw [List.getElem?_drop] at hi
  have := hc (m + i) x hi j u hj
  rw [show o + (m + i) * 3 + j = o + m * 3 + i * 3 + j by omega] at this
  exact this
theorem lies_t {W : World} {G : Nat} {t : Tm} (h : Own W G 26 t.cells) : Lies 3 Tm.cells W (G + 1) (some ⟨G, 0, none⟩) [t] := fun _ => by
  refine ⟨G, 0, rfl, by omega, fun i x hi j u hj => ?_⟩
  match i, hi with
  | 0, hi =>
    obtain rfl : t = x := by simpa using hi
    rw [show (0 : Nat) + 0 * 3 + j = j by omega, h.at_ j]
    exact hj
theorem own_new {w : World} {N : Nat} {t : TypeId} {l : List Value} (hN : w.heap.size = N) : Own (w.alloc (.cells l.toArray t)) N t l := by subst hN; exact Own.made w t l
theorem own_kept {w w' : World} {r : Option Nat} {g : Nat} {t : TypeId} {l : List Value} (h : Own w g t l) (hg : w.grownBy w' r) (hne : some g ≠ r) : Own w' g t l := (hg.block g h.inside hne).trans h
theorem empty_row {w : World} {N base : Nat} (hN : w.heap.size = N) (hb : base ≤ N) : (w.alloc (.cells #[] 26)).ownsRow base 26 3 (.slice (some ⟨N, 0, none⟩) 0 0) 0 [] := by
  subst hN
  exact World.ownsRow_made w #[] 0 hb (Nat.zero_le _) rfl
theorem tm_one (x : Tm) : ∀ u ∈ x.cells, u.oneCell' = true := by
  intro u hu
  simp [Tm.cells] at hu
  rcases hu with rfl | rfl | rfl <;> rfl
theorem step_tm (w : World) {ops : Array Oper} {o : Oper} {a : Act} {K : Act → World → Prop} {Q : Exit → Act → World → Prop} {E : Prop} (hgd : o.guard = none) (s x : Operand)
    (ho : o.op = .call { callee := .builtin .append, args := #[s, x], argTypes := #[22, 22] })
    (base : Nat) (v : Value) (n : Nat) (xs : List Value) (hs : a.eval s = v) (hown : w.ownsRow base 26 3 v n xs)
    (B : Nat) (A : Option Addr) (c : Nat) (l : List Tm) (k : Nat) (hk : l.length = k) (hx : a.eval x = .slice A k c) (hl : Lies 3 Tm.cells w B A l) (hn : (n + k) * 24 ≤ 140737488355328) (hbase : base ≤ w.heap.size)
    (h : ∀ v' w', w'.ownsRow base 26 3 v' (n + k) (xs ++ l.flatMap Tm.cells) → Below base w w' → w.grownBy w' v.ownBlock → K (a.put o.dst v') w') :
    if Region.wanted o (yielded ops a.tmps) = true then Oper.wp Try.prog o a w K Q else E := by
  obtain ⟨i0, hi, hz0, hz1, hz2⟩ := info_parts infoTm
  subst hk
  have hw : Region.wanted o (yielded ops a.tmps) = true := by simp [Region.wanted, hgd]
  rw [if_pos hw]
  obtain ⟨v', w', hrun, ho', hb, hg⟩ : ∃ v' w', (Builtin.append_ #[22, 22] o.type #[v, .slice A l.length c]).run Try.prog w = .ok v' w' ∧ w'.ownsRow base 26 3 v' (n + l.length) (xs ++ l.flatMap Tm.cells) ∧ Below base w w' ∧ w.grownBy w' v.ownBlock := by
    cases A with
    | none =>
      have h0 : l = [] := by
        cases l with
        | nil => rfl
        | cons x l => obtain ⟨_, _, e, _⟩ := hl (by simp); cases e
      subst h0
      exact ⟨v, w, run_append_none w base _ _ _ i0 3 Try.underlying22 hi v n xs hown c, by simpa using hown, Below.refl _ _, ⟨rfl, rfl, rfl, Nat.le_refl _, fun _ _ _ => rfl⟩⟩
    | some ad =>
      have hnews : ∀ j u, (l.flatMap Tm.cells)[j]? = some u → w.cell? (ad.add j) = some u := by
        intro j u hu
        obtain ⟨i, r, y, rfl, hi, hr⟩ := flat_back (size := 3) (cells := Tm.cells) (by decide) (fun _ => rfl) l j u hu
        have hp : 0 < l.length := by have := (List.getElem?_eq_some_iff.1 hi).1; omega
        obtain ⟨b, o, e, _, hc⟩ := hl hp
        obtain rfl : ad = ⟨b, o, none⟩ := by injection e
        have ea : (⟨b, o, none⟩ : Addr).add (i * 3 + r) = ⟨b, o + i * 3 + r, none⟩ := by unfold Addr.add; split <;> simp_all <;> omega
        rw [ea]
        exact hc i y hi r u hr
      obtain ⟨v', w', hr, h2, h3, _, _⟩ := run_append_own_at (P := Try.prog) w base 22 o.type 26 i0 _ 3 24 Try.underlying22 hi hz0 hz1 hz2 rfl (by decide) v n xs hown ad l.length c (l.flatMap Tm.cells) (flat_size (size := 3) (cells := Tm.cells) (fun _ => rfl) l) hnews
        (fun u hu => by obtain ⟨y, _, hy⟩ := List.mem_flatMap.1 hu; exact tm_one y u hy) (by unfold maxLen; omega) hn hbase
      exact ⟨v', w', hr, h2, (Below.refl base w).grown h3 hbase (fun k hk => (hown.lt k hk).1), h3⟩
  unfold Oper.wp execOp
  simp only [ho, resolve, invoke, builtin, Sem.run_bind, Sem.run_pure, Result.andThen_ok, List.map_toArray, List.map_cons, List.map_nil, hs, hx, hrun]
  exact h v' w' ho' hb hg
end Go.Proofs.Ytfhlgdidobecaaa
namespace Go.Proofs.Ytfhlgdidobecaaa
open Go

/-- the state behind those operations that have come up: each has left its value -/
def putsR : List (Option Tmp × Option Value) → Act → Act
  | [], a => a
  | (_, none) :: l, a => putsR l a
  | (d, some v) :: l, a => putsR l (a.put d v)
/-- no two operations leave their values in one temporary -/
def ApartR : List (Option Tmp) → Prop
  | [] => True
  | d :: l => (∀ t, d = some t → some t ∉ l) ∧ ApartR l
theorem putsR_put : ∀ (l : List (Option Tmp × Option Value)) (a : Act) (d : Option Tmp) (v : Value), (∀ t, d = some t → some t ∉ l.map Prod.fst) → putsR l (a.put d v) = (putsR l a).put d v
  | [], _, _, _, _ => rfl
  | (_, none) :: l, a, d, v, h => putsR_put l a d v fun t ht hm => h t ht (List.mem_cons_of_mem _ hm)
  | (e, some u) :: l, a, d, v, h => by
    show putsR l ((a.put d v).put e u) = (putsR l (a.put e u)).put d v
    rw [← putsR_put l (a.put e u) d v fun t ht hm => h t ht (List.mem_cons_of_mem _ hm)]
    congr 1
    exact Act.put_comm a v u fun t ht he => h t ht (by subst he; exact List.mem_cons_self)
theorem putsR_set : ∀ (l : List (Option Tmp × Option Value)) (a : Act) (i : Nat) (d : Option Tmp) (v : Value), ApartR (l.map Prod.fst) → l[i]? = some (d, none) → (putsR l a).put d v = putsR (l.set i (d, some v)) a
  | [], _, _, _, _, _, h => by simp at h
  | (e, x) :: l, a, 0, d, v, ha, h => by
    obtain ⟨rfl, rfl⟩ : e = d ∧ x = none := by simpa using h
    show (putsR l a).put e v = putsR l (a.put e v)
    exact (putsR_put l a e v ha.1).symm
  | (e, none) :: l, a, i + 1, d, v, ha, h => putsR_set l a i d v ha.2 (by simpa using h)
  | (e, some u) :: l, a, i + 1, d, v, ha, h => putsR_set l (a.put e u) i d v ha.2 (by simpa using h)
theorem putsR_size : ∀ (l : List (Option Tmp × Option Value)) (a : Act), (putsR l a).tmps.size = a.tmps.size
  | [], _ => rfl
  | (_, none) :: l, a => putsR_size l a
  | (d, some v) :: l, a => (putsR_size l (a.put d v)).trans (by cases d <;> simp [Act.put])
/-- a temporary that none leaves its value in -/
theorem putsR_miss : ∀ (l : List (Option Tmp × Option Value)) (a : Act) (t : Tmp), (∀ v, (some t, some v) ∉ l) → (putsR l a).eval (.tmp t) = a.eval (.tmp t)
  | [], _, _, _ => rfl
  | (_, none) :: l, a, t, h => putsR_miss l a t fun v hm => h v (List.mem_cons_of_mem _ hm)
  | (d, some v) :: l, a, t, h => by
    show (putsR l (a.put d v)).eval (.tmp t) = _
    rw [putsR_miss l (a.put d v) t fun v hm => h v (List.mem_cons_of_mem _ hm)]
    exact Act.eval_put fun e he ht => h v (by cases ht; subst he; exact List.mem_cons_self)
theorem putsR_hit : ∀ (l : List (Option Tmp × Option Value)) (a : Act) (i : Nat) (t : Tmp) (v : Value), ApartR (l.map Prod.fst) → l[i]? = some (some t, some v) → t < a.tmps.size → (putsR l a).eval (.tmp t) = v
  | [], _, _, _, _, _, h, _ => by simp at h
  | (e, x) :: l, a, 0, t, v, ha, h, ht => by
    obtain ⟨rfl, rfl⟩ : e = some t ∧ x = some v := by simpa using h
    show (putsR l (a.put (some t) v)).eval (.tmp t) = v
    rw [putsR_miss l _ t fun u hm => ha.1 t rfl (List.mem_map.2 ⟨_, hm, rfl⟩)]
    simp [Act.eval, Act.put, ht]
  | (e, none) :: l, a, i + 1, t, v, ha, h, ht => putsR_hit l a i t v ha.2 (by simpa using h) ht
  | (e, some u) :: l, a, i + 1, t, v, ha, h, ht => putsR_hit l (a.put e u) i t v ha.2 (by simpa using h) (by cases e <;> simpa [Act.put] using ht)
theorem apartR_of {l : List (Option Tmp)} (h : (l.filterMap id).Nodup) : ApartR l := by
  induction l with
  | nil => trivial
  | cons d l ih =>
    cases d with
    | none => exact ⟨fun t ht => (by cases ht), ih (by simpa using h)⟩
    | some t =>
      have h' : (t :: l.filterMap id).Nodup := by simpa using h
      refine ⟨fun s hs hm => ?_, ih (List.nodup_cons.1 h').2⟩
      cases hs
      exact (List.nodup_cons.1 h').1 (List.mem_filterMap.2 ⟨_, hm, rfl⟩)

section
variable {P : Program} {Q : Exit → Act → World → Prop}
/-- every operation waits for earlier ones alone -/
def earlyR (l : List Oper) : Bool := (List.range l.length).all fun i => ((l[i]?).map fun o => o.after.all fun e => decide (e.on < i)).getD true
theorem earlyR_spec {l : List Oper} (h : earlyR l = true) {i : Nat} {o : Oper} (ho : l[i]? = some o) : ∀ e ∈ o.after, e.on < i := by
  unfold earlyR at h
  rw [List.all_eq_true] at h
  have := h i (List.mem_range.2 (List.getElem?_eq_some_iff.1 ho).1)
  rw [ho] at this
  simp only [Option.map_some, Option.getD_some, Array.all_eq_true_iff_forall_mem, decide_eq_true_eq] at this
  exact this
def slotsR (l : List Oper) (vals : List (Option Value)) : List (Option Tmp × Option Value) := (l.map Oper.dst).zip vals
theorem slotsR_fst {l : List Oper} {vals : List (Option Value)} (h : vals.length = l.length) : (slotsR l vals).map Prod.fst = l.map Oper.dst := by
  unfold slotsR; rw [List.map_fst_zip]; simp [h]
theorem slotsR_at {l : List Oper} {vals : List (Option Value)} {i : Nat} {o : Oper} {x : Option Value} (ho : l[i]? = some o) (hx : vals[i]? = some x) : (slotsR l vals)[i]? = some (o.dst, x) := by
  unfold slotsR; rw [List.getElem?_zip_eq_some]; simp [ho, hx]
theorem slotsR_set {l : List Oper} {vals : List (Option Value)} {i : Nat} {o : Oper} {x : Option Value} (ho : l[i]? = some o) : slotsR l (vals.set i x) = (slotsR l vals).set i (o.dst, x) := by
  unfold slotsR
  apply List.ext_getElem?
  intro j
  by_cases hij : i = j
  · subst hij
    rw [List.getElem?_set]
    rw [if_pos rfl]
    by_cases hl : i < vals.length
    · have : (vals.set i x)[i]? = some x := by simp [hl]
      have h2 := slotsR_at ho this
      unfold slotsR at h2
      rw [h2, if_pos]
      have := (List.getElem?_eq_some_iff.1 ho).1
      simp; omega
    · rw [List.set_eq_of_length_le (by omega), if_neg (by simp; omega)]
      rw [List.getElem?_eq_none]; simp; omega
  · rw [List.getElem?_set_ne hij, List.zip_eq_zipWith, List.zip_eq_zipWith, List.getElem?_zipWith, List.getElem?_zipWith, List.getElem?_set_ne hij]
/-- what has come up: some operations, those that they wait for among them -/
structure CameUp (l : List Oper) (vals : List (Option Value)) : Prop where
  len : vals.length = l.length
  closed : ∀ (i : Nat) (o : Oper) (v : Value), l[i]? = some o → vals[i]? = some (some v) → ∀ e ∈ o.after, Region.binds .any e = true → ∃ u, vals[e.on]? = some (some u)
def flagsR (vals : List (Option Value)) : Array Bool := (vals.map Option.isSome).toArray
theorem flagsR_set (vals : List (Option Value)) (i : Nat) (v : Value) : (flagsR vals).setIfInBounds i true = flagsR (vals.set i (some v)) := by
  unfold flagsR
  apply Array.ext'
  simp [List.map_set]
theorem flagR_at {vals : List (Option Value)} {i : Nat} {d : Bool} (h : i < vals.length) : (flagsR vals).getD i d = (vals[i]).isSome := by
  unfold flagsR
  rw [Array.getD_eq_getD_getElem?]
  simp [h]
/-- **a region that draws its order, one step law an operation**: F holds of what has come up and of the world -/
theorem wp_region_steps {id : Nat} {l : List Oper} {a : Act} {w : World} (hm : P.follows .mixedOrders = true) (he : earlyR l = true) (hd : ((l.map Oper.dst).filterMap _root_.id).Nodup)
    (F : List (Option Value) → World → Prop) (h0 : F (l.map fun _ => none) w.drew)
    (hstep : ∀ (i : Nat) (o : Oper) (vals : List (Option Value)) (w' : World), l[i]? = some o → CameUp l vals → vals[i]? = some none → (∀ e ∈ o.after, Region.binds .any e = true → ∃ u, vals[e.on]? = some (some u)) → F vals w' →
      ∀ K : Act → World → Prop, (∀ v w'', F (vals.set i (some v)) w'' → K ((putsR (slotsR l vals) a).put o.dst v) w'') →
      if Region.wanted o (yielded l.toArray (putsR (slotsR l vals) a).tmps) = true then Oper.wp P o (putsR (slotsR l vals) a) w' K Q else K ((putsR (slotsR l vals) a).put o.dst undef) w')
    (hend : ∀ (vs : List Value) (w' : World), vs.length = l.length → F (vs.map some) w' → Q .normal (putsR (slotsR l (vs.map some)) a) w') :
    (Code.region id l.toArray true).wp P Q a w := by
  refine wp_region_any hm ?_
  have hap : ∀ vals : List (Option Value), vals.length = l.length → ApartR ((slotsR l vals).map Prod.fst) := fun vals hv => by rw [slotsR_fst hv]; exact apartR_of hd
  have key : ∀ (n : Nat) (vals : List (Option Value)) (w' : World), CameUp l vals → (vals.filter (fun x => x.isNone)).length ≤ n → F vals w' → wpAny P .any l.toArray Q n (flagsR vals) (putsR (slotsR l vals) a) w' := by
    have all : ∀ (vals : List (Option Value)), CameUp l vals → Region.ready .any l.toArray (flagsR vals) = [] → ∀ i, i < l.length → ∃ v, vals[i]? = some (some v) := by
      intro vals hc hr i
      induction i using Nat.strongRecOn with
      | _ i ih =>
        intro hi
        have hiv : i < vals.length := by rw [hc.len]; exact hi
        cases hx : vals[i] with
        | some v => exact ⟨v, by rw [List.getElem?_eq_getElem hiv, hx]⟩
        | none =>
          exfalso
          have hmem : i ∈ Region.ready .any l.toArray (flagsR vals) := mem_ready.2 ⟨by rw [flagR_at hiv, hx]; rfl, l[i], by simp [hi], fun e hem hb => by
            have hlt := earlyR_spec he (List.getElem?_eq_getElem hi) e hem
            obtain ⟨u, hu⟩ := ih e.on hlt (by omega)
            have hel : e.on < vals.length := by omega
            rw [flagR_at hel]
            rw [List.getElem?_eq_getElem hel] at hu
            injection hu with hu
            rw [hu]; rfl⟩
          rw [hr] at hmem
          cases hmem
    have done : ∀ (vals : List (Option Value)) (w' : World), CameUp l vals → F vals w' → Region.ready .any l.toArray (flagsR vals) = [] → Q .normal (putsR (slotsR l vals) a) w' := by
      intro vals w' hc hF hr
      have hall := all vals hc hr
      have hv : vals = (vals.map fun x => x.getD undef).map some := by
        apply List.ext_getElem?
        intro i
        rw [List.getElem?_map, List.getElem?_map]
        by_cases hi : i < vals.length
        · obtain ⟨v, hv⟩ := hall i (by rw [← hc.len]; exact hi)
          rw [hv]; rfl
        · rw [List.getElem?_eq_none (by omega)]; rfl
      rw [hv] at hF ⊢
      exact hend _ w' (by rw [List.length_map]; exact hc.len) hF
    intro n
    induction n with
    | zero =>
      intro vals w' hc hn hF
      have hr : Region.ready .any l.toArray (flagsR vals) = [] := by
        rw [List.eq_nil_iff_forall_not_mem]
        intro i hi
        obtain ⟨h1, o, ho, _⟩ := mem_ready.1 hi
        have hil : i < l.length := by have := (Array.getElem?_eq_some_iff.1 ho).1; simpa using this
        have hiv : i < vals.length := by rw [hc.len]; exact hil
        rw [flagR_at hiv] at h1
        have hno : vals[i] = none := by cases h : vals[i] with | none => rfl | some v => rw [h] at h1; cases h1
        have : vals[i] ∈ vals.filter (fun x => x.isNone) := List.mem_filter.2 ⟨List.getElem_mem hiv, by rw [hno]; rfl⟩
        have := List.length_pos_of_mem this
        omega
      exact ⟨hr, done vals w' hc hF hr⟩
    | succ n ih =>
      intro vals w' hc hn hF
      refine ⟨fun hr => done vals w' hc hF hr, fun i hi => ?_⟩
      obtain ⟨h1, o, ho, hdeps⟩ := mem_ready.1 hi
      have ho' : l[i]? = some o := by simpa using ho
      have hil : i < l.length := (List.getElem?_eq_some_iff.1 ho').1
      have hiv : i < vals.length := by rw [hc.len]; exact hil
      rw [flagR_at hiv] at h1
      have hno : vals[i] = none := by cases h : vals[i] with | none => rfl | some v => rw [h] at h1; cases h1
      have hno' : vals[i]? = some none := by rw [List.getElem?_eq_getElem hiv, hno]
      have hdeps' : ∀ e ∈ o.after, Region.binds .any e = true → ∃ u, vals[e.on]? = some (some u) := fun e hem hb => by
        have h2 := hdeps e hem hb
        have hlt := earlyR_spec he ho' e hem
        have hel : e.on < vals.length := by omega
        rw [flagR_at hel] at h2
        obtain ⟨u, hu⟩ := Option.isSome_iff_exists.1 h2
        exact ⟨u, by rw [List.getElem?_eq_getElem hel, hu]⟩
      refine wpOp_step ho fun K' hK => hstep i o vals w' ho' hc hno' hdeps' hF K' fun v w'' hF' => hK _ _ ?_
      have hc' : CameUp l (vals.set i (some v)) := by
        refine ⟨by rw [List.length_set]; exact hc.len, fun j oj u hoj hu e hem hb => ?_⟩
        have hs : ∀ k u, vals[k]? = some (some u) → ∃ u', (vals.set i (some v))[k]? = some (some u') := fun k u hk => by
          by_cases hik : i = k
          · subst hik; rw [hno'] at hk; cases hk
          · exact ⟨u, by rw [List.getElem?_set_ne hik]; exact hk⟩
        by_cases hij : i = j
        · subst hij
          rw [ho'] at hoj
          cases hoj
          obtain ⟨u', hu'⟩ := hdeps' e hem hb
          exact hs _ _ hu'
        · rw [List.getElem?_set_ne hij] at hu
          obtain ⟨u', hu'⟩ := hc.closed j oj u hoj hu e hem hb
          exact hs _ _ hu'
      rw [flagsR_set vals i v, putsR_set _ a i o.dst v (hap vals hc.len) (slotsR_at ho' hno'), ← slotsR_set ho']
      refine ih _ w'' hc' ?_ hF'
      have hcnt : ∀ (vals : List (Option Value)) (i : Nat), vals[i]? = some none → ((vals.set i (some v)).filter (fun x => x.isNone)).length + 1 = (vals.filter (fun x => x.isNone)).length := by
        intro vals
        induction vals with
        | nil => intro i h; simp at h
        | cons x vals ih =>
          intro i h
          cases i with
          | zero =>
            obtain rfl : x = none := by simpa using h
            simp
          | succ i =>
            have := ih i (by simpa using h)
            rw [List.set_cons_succ, List.filter_cons, List.filter_cons]
            split <;> simp_all
      have := hcnt vals i hno'
      omega
  have h := key l.length (l.map fun _ => none) w.drew ⟨by simp, fun i o v _ hv => by rw [List.getElem?_map] at hv; cases l[i]? <;> simp at hv⟩ (by
    refine Nat.le_trans (List.length_filter_le _ _) (by simp)) h0
  have e1 : flagsR (l.map fun _ => none) = Array.replicate l.toArray.size false := by
    unfold flagsR
    apply Array.ext'
    rw [List.map_map]
    show List.map (fun _ => false) l = _
    rw [List.map_const', List.size_toArray, Array.toList_replicate]
  have e2 : putsR (slotsR l (l.map fun _ => none)) a = a := by
    have : ∀ (m : List (Option Tmp × Option Value)) (a : Act), (∀ x ∈ m, x.2 = none) → putsR m a = a := by
      intro m
      induction m with
      | nil => intro a _; rfl
      | cons x m ih =>
        intro a h
        obtain ⟨d, y⟩ := x
        obtain rfl : y = none := h (d, y) List.mem_cons_self
        exact ih a fun z hz => h z (List.mem_cons_of_mem _ hz)
    refine this _ a fun x hx => ?_
    obtain ⟨d, y⟩ := x
    have := (List.of_mem_zip hx).2
    simp at this
    exact this.2.symm
  rw [e1, e2] at h
  simpa using h
end
end Go.Proofs.Ytfhlgdidobecaaa
