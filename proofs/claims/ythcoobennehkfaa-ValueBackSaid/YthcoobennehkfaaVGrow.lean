/- slices.Grow of a nil row; slices.Concat of rows. -/
import Derived.Test.YthcoobennehkfaaVRows2
import Derived.Outline
import Derived.WalkSpells
import Derived.WalkLawsBesides
import Derived.BigQuiet
import Derived.Deep.Onto
namespace Go.Proofs.Ythcoobennehkfaa
open Go Go.RowKit

theorem zero_size (z : Array Value) (n : Nat) : (Builtin.zeroCells z n).size = n * z.size := by simp [Builtin.zeroCells]
theorem bytesVl : Try.t23.bytes = 32 := by kernel_rfl
set_option maxRecDepth 100000 in
set_option maxHeartbeats 1600000 in
theorem grow_any (n : Nat) (w : World) (hn : n * 32 ≤ 140737488355328) :
    Calls Try.prog 74 #[.slice none 0 0, .int .i64 (n : Int)] w fun e w' => ∃ v, e = .returned v ∧ w'.ownsRow w.heap.size 23 3 v 0 [] ∧ Below w.heap.size w w' := by
  by_cases h0 : n = 0
  · subst h0
    go_enter Try.func74, Try.ntmps74
    go_wp2_with fail
    go_ret
    exact ⟨_, rfl, World.ownsRow_nil _ _ _ _, Below.refl _ _⟩
  · have hp : 0 < n := by omega
    have t1 : decide (0 < (n : Int)) = true := by simp; omega
    have hge := grownCap_ge w n 0 23
    have hle := grownCap_le_maxLen w n 0 23 (by unfold maxLen; omega)
    have HG := Lib.hid (And.intro hge hle)
    have hb := bytesVl
    have hnx : Builtin.nextslicecap n 0 = n := by unfold Builtin.nextslicecap; simp; omega
    clear h0 hge hle
    go_enter Try.func74, Try.ntmps74
    go_wp2_with fail
    all_goals first
      | (exfalso; omega)
      | skip
    go_ret
    refine ⟨_, rfl, ?_, ((Below.refl w.heap.size w).alloc (Nat.le_refl _) _).drew⟩
    obtain ⟨hge, hle⟩ := HG.out
    exact World.ownsRow_made (base := w.heap.size) (e := 23) (size := 3) w _ (grownCap w n 0 23) (Nat.le_refl _) hle (by
      rw [Array.size_append, zero_size, zero_size]
      show n * 3 + (grownCap w n 0 23 - n) * 3 = _
      omega)

theorem lens_one {L : List (List Vl)} {k : Nat} {l : List Vl} (h : L[k]? = some l) : lens (L.take k) + l.length ≤ lens L := by
  rw [← lens_snoc h]; exact lens_take L (k + 1)
set_option maxRecDepth 100000 in
set_option maxHeartbeats 3200000 in
theorem concat_any (A : Option Addr) (c : Nat) (L : List (List Vl)) (w : World) (hl : RowsAt w w.heap.size A L) (hn : L.length ≤ maxLen) (hs : lens L ≤ 8) :
    Calls Try.prog 53 #[.slice A L.length c] w fun e w' => ∃ v, e = .returned v ∧ w'.ownsRow w.heap.size 23 3 v (lens L) (L.flatten.flatMap Vl.cells) ∧ Below w.heap.size w w' := by
  have Hl := Lib.hid hl
  unfold maxLen at hn
  have hgrow := fun W => Lib.hid (grow_any (lens L) W (by omega))
  clear hl
  go_enter Try.func53, Try.ntmps53
  go_wp2_with fail
  go_loopw [3, 11] (fun s i wr => ∃ k : Nat, i = .int .i64 (k : Int) ∧ s = .int .i64 ((lens (L.take k) : Nat) : Int) ∧ k ≤ L.length ∧ Below w.heap.size w wr)
    (fun _ i _ => L.length - (intOf i).toNat)
  case atStart => exact ⟨0, rfl, rfl, by omega, Below.refl _ _⟩
  case round =>
    obtain ⟨k, rfl, rfl, hk, hb⟩ := hrel
    by_cases hlt : k < L.length
    · have hx : L[k]? = some L[k] := List.getElem?_eq_getElem hlt
      obtain ⟨b, o, rfl, hB, hl⟩ := Hl.out (by omega)
      obtain ⟨A', c', hc, hv⟩ := hl k _ hx
      have c0 := (hb.cell (p := ⟨b, o + k, none⟩) hB).trans hc
      have hsn := lens_snoc hx
      have hon := lens_one hx
      generalize L[k] = l at *
      generalize lens (L.take k) = m at *
      have HH := Lib.hid (And.intro hb hsn)
      clear hb hl hx hsn hc hv
      go_wp2_with fail
      go_roundw
      case rel => exact ⟨k + 1, by go_num, by rw [HH.out.2]; go_num, by omega, HH.out.1⟩
      case measure => simp [intOf]; omega
    · have hk2 : k = L.length := by omega
      subst hk2
      rw [List.take_length]
      have HH := Lib.hid hb
      clear hb
      go_wp2_with fail
      refine (hgrow _).out.mono ?_
      rintro e w1 ⟨v1, rfl, o1, b1⟩
      have hw1 := HH.out.trans (b1.mono HH.out.size)
      have o1' := o1.mono HH.out.size
      have H1 := Lib.hid (And.intro o1' hw1)
      clear o1 o1' b1 hw1 hgrow
      go_wp2_with fail
      go_loopw [6, 27] (fun v i w2 => ∃ k : Nat, i = .int .i64 (k : Int) ∧ k ≤ L.length ∧ w2.ownsRow w.heap.size 23 3 v (lens (L.take k)) ((L.take k).flatten.flatMap Vl.cells) ∧ Below w.heap.size w w2)
        (fun _ i _ => L.length - (intOf i).toNat)
      case atStart => exact ⟨0, rfl, by omega, H1.out.1, H1.out.2⟩
      case round =>
        obtain ⟨k, rfl, hk', hown, hb2⟩ := hrel
        by_cases hlt' : k < L.length
        · have hx : L[k]? = some L[k] := List.getElem?_eq_getElem hlt'
          obtain ⟨b, o, rfl, hB, hl⟩ := Hl.out (by omega)
          obtain ⟨A', c', hc, hv⟩ := hl k _ hx
          have c0 := (hb2.cell (p := ⟨b, o + k, none⟩) hB).trans hc
          have hvv := hv.past hb2 (Nat.le_refl _)
          have hsn := lens_snoc hx
          have hon := lens_one hx
          have hfs := flat_snoc hx
          generalize L[k] = l at *
          have HV := Lib.hid (And.intro hvv (And.intro hown (And.intro hb2 (And.intro hsn hfs))))
          clear hl hx hsn hfs hc hv hvv hown hb2
          go_wp2_with (at_builtin; refine wpList_append_vl _ rfl (.tmp 31) (.tmp 32) rfl w.heap.size _ _ _ rfl HV.out.2.1 w.heap.size A' c' l rfl HV.out.1 ?c1 ?c2 ?_)
          case c1 => omega
          case c2 => exact HV.out.2.2.1.size
          intro v' w' ho' hb'
          rw [← List.flatMap_append] at ho'
          have H2 := Lib.hid (And.intro ho' (HV.out.2.2.1.trans hb'))
          clear ho' hb'
          go_wp2_with fail
          go_roundw
          case rel => exact ⟨k + 1, by go_num, by omega, by rw [HV.out.2.2.2.1, HV.out.2.2.2.2]; exact H2.out.1, H2.out.2⟩
          case measure => simp [intOf]; omega
        · have hk3 : k = L.length := by omega
          subst hk3
          rw [List.take_length] at hown
          have H2 := Lib.hid (And.intro hown hb2)
          clear hown hb2
          go_wp2_with fail
          go_ret
          exact ⟨_, rfl, H2.out.1, H2.out.2⟩
end Go.Proofs.Ythcoobennehkfaa
