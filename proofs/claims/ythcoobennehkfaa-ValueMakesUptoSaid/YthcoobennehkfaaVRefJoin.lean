/- Join, by the reference. -/
import Derived.Test.YthcoobennehkfaaVJoin
namespace Go.Proofs.Ythcoobennehkfaa
open Go Go.RowKit

set_option maxRecDepth 100000 in
set_option maxHeartbeats 3200000 in
theorem refJoin_any (A : Option Addr) (c : Nat) (L : List (List Vl)) (w : World) (hl : RowsAt w w.heap.size A L) (hn : L.length ≤ 140737488355328) (hlen : ∀ l ∈ L, l.length ≤ maxLen) (hok : ∀ l ∈ L, ∀ v ∈ l, VOk v) :
    Calls Try.prog 28 #[.slice A L.length c] w (JoinPost L w) := by
  have hchk := fun A c l W h hn hs => Lib.hid (vrefCheck_any A c l W h hn hs)
  have Hl := Lib.hid (And.intro hl (And.intro hlen hok))
  clear hl hlen hok
  go_enter Try.func28, Try.ntmps28
  go_wp2_with fail
  go_loopw [12] (fun i wr => ∃ k : Nat, i = .int .i64 (k : Int) ∧ k ≤ L.length ∧ okRows (L.take k) = true ∧ Below w.heap.size w wr)
    (fun i _ => L.length - (intOf i).toNat)
  case atStart => exact ⟨0, rfl, by omega, rfl, Below.refl _ _⟩
  case round =>
    obtain ⟨k, rfl, hk, hokk, hb⟩ := hrel
    by_cases hlt : k < L.length
    · have hx : L[k]? = some L[k] := List.getElem?_eq_getElem hlt
      obtain ⟨b, o, rfl, hB, hl⟩ := Hl.out.1 (by omega)
      obtain ⟨A', c', hc, hv⟩ := hl k _ hx
      have c0 := (hb.cell (p := ⟨b, o + k, none⟩) hB).trans hc
      have hvv := vals_keep (hv.past hb (Nat.le_refl _) |>.wide hb.size) (Below.refl _ _)
      have hos := okRows_snoc hx
      have hob := fun h => okRows_bad hx h
      have hll := Hl.out.2.1 _ (List.mem_of_getElem? hx)
      have hvs := VOk_all Hl.out.2.2 hx
      have htw := chk_two L[k]
      generalize L[k] = l at *
      have hcall := Lib.hid ((hchk A' c' l wr hvv hll hvs).out)
      have HH := Lib.hid (And.intro hb (And.intro hos (And.intro hokk hob)))
      clear hb hl hx hos hc hv hvv hob hokk hll hvs
      rcases htw with ⟨hz, hl8⟩ | hz
      · rw [hz] at hcall
        have HZ := Lib.hid hz
        clear hz
        go_wp2_with fail
        refine hcall.out.mono ?_
        rintro e w1 ⟨rfl, b1⟩
        have H1 := Lib.hid b1
        clear b1
        go_wp2_with fail
        go_roundw
        case rel =>
          obtain ⟨hb, hos, hokk, hob⟩ := HH.out
          exact ⟨k + 1, by go_num, by omega, by rw [hos, hokk, HZ.out]; rfl, hb.trans (H1.out.mono hb.size)⟩
        case measure => simp [intOf]; omega
      · rw [hz] at hcall
        have HZ := Lib.hid hz
        clear hz
        go_wp2_with fail
        refine hcall.out.mono ?_
        rintro e w1 ⟨rfl, b1⟩
        have H1 := Lib.hid b1
        clear b1
        go_wp2_with fail
        go_ret2
        obtain ⟨hb, hos, hokk, hob⟩ := HH.out
        have hob := hob HZ.out
        exact join_none (by unfold joinE; rw [hob]; rfl) (by unfold joinL; rw [hob]; rfl) (hb.trans (H1.out.mono hb.size))
    · have hk2 : k = L.length := by omega
      subst hk2
      rw [List.take_length] at hokk
      have H0 := Lib.hid (And.intro hokk hb)
      clear hokk hb
      go_wp2_with fail
      go_loopw [4, 24] (fun v i w2 => ∃ k : Nat, i = .int .i64 (k : Int) ∧ k ≤ L.length ∧ w2.ownsRow w.heap.size 23 3 v (lens (L.take k)) ((L.take k).flatten.flatMap Vl.cells) ∧ lens (L.take k) ≤ 8 ∧ Below w.heap.size w w2)
        (fun _ i _ => L.length - (intOf i).toNat)
      case atStart => exact ⟨0, rfl, by omega, World.ownsRow_nil _ _ _ _, by simp [lens], H0.out.2⟩
      case round =>
        obtain ⟨k, rfl, hk', hown, h8, hb2⟩ := hrel
        by_cases hlt' : k < L.length
        · have hx : L[k]? = some L[k] := List.getElem?_eq_getElem hlt'
          obtain ⟨b, o, rfl, hB, hl⟩ := Hl.out.1 (by omega)
          obtain ⟨A', c', hc, hv⟩ := hl k _ hx
          have c0 := (hb2.cell (p := ⟨b, o + k, none⟩) hB).trans hc
          have hvv := hv.past hb2 (Nat.le_refl _)
          have hsn := lens_snoc hx
          have hon := lens_one hx
          have hfs := flat_snoc hx
          have hl8 := okRows_len H0.out.1 hx
          generalize L[k] = l at *
          have HV := Lib.hid (And.intro hvv (And.intro hown (And.intro hb2 (And.intro hsn hfs))))
          have hle := lens_take L k
          clear hl hx hsn hfs hc hv hvv hown hb2
          go_wp2_with (at_builtin; refine wpList_append_vl _ rfl (.tmp 28) (.tmp 29) rfl w.heap.size _ _ _ rfl HV.out.2.1 w.heap.size A' c' l rfl HV.out.1 ?c1 ?c2 ?_)
          case c1 => omega
          case c2 => exact HV.out.2.2.1.size
          intro v' w' ho' hb'
          rw [← List.flatMap_append] at ho'
          obtain ⟨A1, c1, rfl⟩ : ∃ A1 c1, v' = .slice A1 (lens (L.take k) + l.length) c1 := by
            rcases ho'.2 with ⟨rfl, h0⟩ | ⟨g, cc, cur, rfl, _⟩
            · exact ⟨none, 0, by rw [h0]⟩
            · exact ⟨_, _, rfl⟩
          have H2 := Lib.hid (And.intro ho' (HV.out.2.2.1.trans hb'))
          clear ho' hb'
          by_cases hm : 8 < lens (L.take k) + l.length
          · have t1 : decide ((8 : Int) < ((lens (L.take k) : Nat) : Int) + ((l.length : Nat) : Int)) = true := by simp; omega
            have HM := Lib.hid hm
            go_wp2_with fail
            go_ret2
            have hm := HM.out
            have hokk := H0.out.1
            have hon' := hon
            exact join_none (by unfold joinE; rw [hokk]; simp; omega) (by unfold joinL; rw [hokk]; simp; omega) H2.out.2
          · have t1 : decide ((8 : Int) < ((lens (L.take k) : Nat) : Int) + ((l.length : Nat) : Int)) = false := by simp; omega
            have HM := Lib.hid hm
            clear hm
            go_wp2_with fail
            go_roundw
            case rel =>
              have hm := HM.out
              exact ⟨k + 1, by go_num, by omega, by rw [HV.out.2.2.2.1, HV.out.2.2.2.2]; exact H2.out.1, by rw [HV.out.2.2.2.1]; omega, H2.out.2⟩
            case measure => simp [intOf]; omega
        · have hk3 : k = L.length := by omega
          subst hk3
          rw [List.take_length] at hown h8
          have H2 := Lib.hid (And.intro hown (And.intro hb2 h8))
          clear hown hb2 h8
          go_wp2_with fail
          go_ret2
          obtain ⟨hown, hb2, h8⟩ := H2.out
          have hokk := H0.out.1
          have hj : joinL L = L.flatten := by unfold joinL; rw [hokk]; simp; omega
          refine ⟨_, by rw [show joinE L = 0 from by unfold joinE; rw [hokk]; simp; omega]; rfl, ?_, hb2⟩
          rw [hj, lens_flat]
          exact hown
end Go.Proofs.Ythcoobennehkfaa
