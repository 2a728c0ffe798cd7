/- Front: of the sorted times each that none of those kept is ahead of. -/
import Derived.Test.YtdbdjojgccbfcaaClone
import Derived.Test.YtdbdjojgccbfcaaBeyond
namespace Go.Proofs.Ytdbdjojgccbfcaa
open Go Go.RowKit Go.Sort Go.Lib

theorem sort_all (v : Value) (n : Nat) (l : List Tm) (w : World) (base : Nat) (hnl : n = l.length) (h : w.ownsRow base 26 3 v n (l.flatMap Tm.cells)) (hn : l.length * 24 ≤ 140737488351232) :
    ∃ A c, v = .slice A l.length c ∧ Calls Try.prog 15 #[.slice A l.length c, .func (.func 16) #[] #[]] w fun e w' => e = .returned (.tuple #[]) ∧ Times w' w'.heap.size A (sortT l) ∧ Below base w w' := by
  subst hnl
  cases l with
  | nil =>
    rcases h.2 with ⟨rfl, _⟩ | ⟨g, cap, cur, rfl, _⟩
    · refine ⟨_, _, rfl, (AnyF.slices_SortFunc_none Try.sortTm _ _ _ w).mono fun e w' ⟨he, hw⟩ => ?_⟩
      subst hw
      exact ⟨he, fun h => by simp [sortT] at h, Below.refl _ _⟩
    · refine ⟨_, _, rfl, (AnyF.slices_SortFunc_none Try.sortTm _ _ _ w).mono fun e w' ⟨he, hw⟩ => ?_⟩
      subst hw
      exact ⟨he, fun h => by simp [sortT] at h, Below.refl _ _⟩
  | cons x l =>
    rcases h.2 with ⟨_, h0⟩ | ⟨g, cap, cur, rfl, hb, _⟩
    · simp at h0
    · exact ⟨_, _, rfl, (sort_any g cap (x :: l) w base h hn).mono fun e w' ⟨he, ht, hbe⟩ => ⟨he, ht, hbe.mono hb⟩⟩

/-- what is kept of the first k -/
def keepStep (f : List Tm) (t : Tm) : List Tm := if beyond f t = true then f else f ++ [t]
def frontTo (s : List Tm) (k : Nat) : List Tm := (s.take k).foldl keepStep []
def frontL (l : List Tm) : List Tm := frontTo (sortT l) (sortT l).length
theorem frontTo_snoc {s : List Tm} {t : Tm} {k : Nat} (h : s[k]? = some t) : frontTo s (k + 1) = keepStep (frontTo s k) t := by
  unfold frontTo; rw [List.take_add_one, h, List.foldl_append]; rfl
theorem frontTo_len (s : List Tm) : ∀ k, k ≤ s.length → (frontTo s k).length ≤ k
  | 0, _ => by simp [frontTo]
  | k + 1, h => by
    have := frontTo_len s k (by omega)
    rw [frontTo_snoc (List.getElem?_eq_getElem (by omega))]
    unfold keepStep
    split
    · omega
    · rw [List.length_append]; simp; omega

set_option maxRecDepth 100000 in
set_option maxHeartbeats 1600000 in
theorem front_any (A : Option Addr) (c : Nat) (l : List Tm) (w : World) (hl : Times w w.heap.size A l) (hn : l.length * 24 ≤ 140737488351232) :
    Calls Try.prog 7 #[.slice A l.length c] w fun e w' => ∃ v, e = .returned v ∧ w'.ownsRow w.heap.size 26 3 v (frontL l).length ((frontL l).flatMap Tm.cells) ∧ Below w.heap.size w w' := by
  obtain ⟨i0, hi, hz0, hz1, hz2⟩ := info_parts infoTm
  have hU := Try.underlying22
  have Hl := Lib.hid hl
  have hbey := fun A c l t W h hn => Lib.hid (beyond_any A c l t W h hn)
  unfold Tm.val maxLen at hbey
  clear hl
  go_enter Try.func7, Try.ntmps7
  go_wp2_with fail
  refine (clone_any A c l _ Hl.out hn).mono ?_
  rintro e w1 ⟨v, rfl, ho1, hb1⟩
  obtain ⟨A', c', rfl, hsort⟩ := sort_all v _ l w1 _ rfl ho1 hn
  have HS := Lib.hid hsort
  have H1 := Lib.hid hb1
  clear hsort hb1 ho1
  go_wp2_with fail
  refine HS.out.mono ?_
  rintro e w0 ⟨rfl, ht0, hb0⟩
  have hlen := sortT_len l
  have HT := Lib.hid (And.intro ht0 (And.intro (H1.out.trans hb0) hlen))
  clear ht0 hb0 hlen HS
  go_wp2_with fail
  go_loopw [3, 12] (fun v i wr => ∃ k : Nat, i = .int .i64 (k : Int) ∧ k ≤ l.length ∧ Below w0.heap.size w0 wr ∧ wr.ownsRow w0.heap.size 26 3 v (frontTo (sortT l) k).length ((frontTo (sortT l) k).flatMap Tm.cells))
    (fun _ i _ => l.length - (intOf i).toNat)
  case atStart => exact ⟨0, rfl, by omega, Below.refl _ _, World.ownsRow_nil _ _ _ _⟩
  case round =>
    obtain ⟨k, rfl, hk, fb, hown⟩ := hrel
    obtain ⟨ht0, hb0, hlen⟩ := HT.out
    have hfl := frontTo_len (sortT l) k (by omega)
    obtain ⟨Af, cf, rfl, hcf, hcm, htf⟩ := times_of_own rfl hown
    by_cases hlt : k < l.length
    · have hx : (sortT l)[k]? = some (sortT l)[k] := List.getElem?_eq_getElem (by omega)
      obtain ⟨b, o, rfl, hB, hl⟩ := ht0 (by omega)
      obtain ⟨c0, c1, c2⟩ := (hl k _ hx).past fb hB
      have hsn := frontTo_snoc hx
      generalize (sortT l)[k] = y at *
      generalize frontTo (sortT l) k = f at *
      have hB2 : b < wr.heap.size := by have := fb.size; omega
      have hcall := fun o => hbey Af cf f y (wr.alloc o) ((htf.past ((Below.refl _ _).alloc (Nat.le_refl _) _) (Nat.le_refl _)).wide (by simp)) (by omega)
      have HR := Lib.hid (And.intro fb (And.intro hown (And.intro hsn hx)))
      have hz := fb.size
      clear fb hown hsn hx hl htf ht0 hb0 hlen hbey
      by_cases hbe : beyond f y = true
      · simp only [hbe] at hcall
        have HE := Lib.hid hbe
        clear hbe
        go_wp2_with fail
        refine (hcall _).out.mono ?_
        rintro e w2 ⟨rfl, h2⟩
        obtain ⟨fb, hown, hsn, hx⟩ := HR.out
        have h3 : Below wr.heap.size wr w2 := below_then ((Below.refl _ _).alloc (Nat.le_refl _) _) (by simp) h2
        have H3 := Lib.hid (And.intro h3 (And.intro fb (And.intro hown hsn)))
        clear fb hown hsn hx h2 h3
        go_wp2_with fail
        obtain ⟨h3, fb, hown, hsn⟩ := H3.out
        go_roundw
        case rel => exact ⟨k + 1, by go_num, by omega, fb.trans (h3.mono fb.size), by rw [hsn]; unfold keepStep; rw [if_pos HE.out]; exact own_below hown h3⟩
        case measure => simp [intOf]; omega
      · have hbf : beyond f y = false := by simpa using hbe
        simp only [hbf] at hcall
        have HE := Lib.hid hbe
        clear hbe hbf
        go_wp2_with fail
        refine (hcall _).out.mono ?_
        rintro e w2 ⟨rfl, h2⟩
        obtain ⟨fb, hown, hsn, hx⟩ := HR.out
        have h3 : Below wr.heap.size wr w2 := below_then ((Below.refl _ _).alloc (Nat.le_refl _) _) (by simp) h2
        have hown2 := own_below hown h3
        have d0 : w2.cell? ⟨wr.heap.size, 0, none⟩ = some (.int .u64 (y.e : Int)) := (h2.cell (p := ⟨wr.heap.size, 0, none⟩) (by simp)).trans (by simp [go_sem])
        have d1 : w2.cell? ⟨wr.heap.size, 1, none⟩ = some (.int .u64 (y.a : Int)) := (h2.cell (p := ⟨wr.heap.size, 1, none⟩) (by simp)).trans (by simp [go_sem])
        have d2 : w2.cell? ⟨wr.heap.size, 2, none⟩ = some (.int .u64 (y.b : Int)) := (h2.cell (p := ⟨wr.heap.size, 2, none⟩) (by simp)).trans (by simp [go_sem])
        have hz2 := h3.size
        have H3 := Lib.hid (And.intro (fb.trans (h3.mono fb.size)) hsn)
        clear fb hown hsn hx h2 h3
        go_wp2_with (at_builtin; refine wpList_push _ rfl _ _ 22 rfl w0.heap.size 26 i0 _ 3 24 hU hi hz0 hz1 ‹i0.bytes = 24› rfl (by decide) _ _ _ rfl hown2 _ rfl rfl ?c1 ?c2 ?c3 ?c4 ?_)
        case c1 => exact ⟨rfl, rfl, rfl⟩
        case c2 => unfold maxLen; omega
        case c3 => omega
        case c4 => omega
        intro v' w' ho' hb' _ _
        obtain ⟨fb, hsn⟩ := H3.out
        have H4 := Lib.hid (And.intro (fb.trans hb') (And.intro hsn ho'))
        clear fb hsn ho' hb' hown2
        go_wp2
        obtain ⟨fb, hsn, ho'⟩ := H4.out
        go_roundw
        case rel =>
          refine ⟨k + 1, by go_num, by omega, fb, ?_⟩
          rw [hsn]
          unfold keepStep
          rw [if_neg HE.out, ← flat_snoc, List.length_append]
          exact ho'
        case measure => simp [intOf]; omega
    · have hk2 : k = l.length := by omega
      have hfin : frontTo (sortT l) k = frontL l := by unfold frontL; rw [hk2, hlen]
      rw [hfin] at hown ⊢
      have HR := Lib.hid (And.intro fb (And.intro hown (And.intro hb0 hk2)))
      clear fb hown hb0 hk2 hfin hfl hlen ht0 htf
      go_wp2_with fail
      go_ret
      obtain ⟨fb, hown, hb0, hk2⟩ := HR.out
      refine ⟨_, rfl, ?_, hb0.trans (fb.mono hb0.size)⟩
      exact ⟨hown.1, hown.2.imp id fun ⟨g, cap, cur, e, hbg, r⟩ => ⟨g, cap, cur, e, Nat.le_trans hb0.size hbg, r⟩⟩
end Go.Proofs.Ytdbdjojgccbfcaa
