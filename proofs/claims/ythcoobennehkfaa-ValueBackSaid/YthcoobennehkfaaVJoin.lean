/- Join, by the program and by the reference. -/
import Derived.Test.YthcoobennehkfaaVGrow
import Derived.Test.YthcoobennehkfaaVCheck
namespace Go.Proofs.Ythcoobennehkfaa
open Go Go.RowKit

/-- whether all rows are right; what their join is, and why there is none -/
def okRows (L : List (List Vl)) : Bool := L.all fun l => decide (chkRow l = 0)
def joinE (L : List (List Vl)) : Int := if okRows L then (if lens L ≤ 8 then 0 else 2) else 4
def joinL (L : List (List Vl)) : List Vl := if okRows L && decide (lens L ≤ 8) then L.flatten else []
theorem chk_two (l : List Vl) : chkRow l = 0 ∧ l.length ≤ 8 ∨ chkRow l = 4 := by
  unfold chkRow
  by_cases h : (l.all Vl.right && decide (l.length ≤ 8)) = true
  · rw [if_pos h]; simp only [Bool.and_eq_true, decide_eq_true_eq] at h; exact .inl ⟨rfl, h.2⟩
  · rw [if_neg h]; exact .inr rfl
theorem okRows_snoc {L : List (List Vl)} {k : Nat} {l : List Vl} (h : L[k]? = some l) : okRows (L.take (k + 1)) = (okRows (L.take k) && decide (chkRow l = 0)) := by
  unfold okRows; rw [List.take_add_one, h]; simp
theorem okRows_bad {L : List (List Vl)} {k : Nat} {l : List Vl} (h : L[k]? = some l) (hc : chkRow l = 4) : okRows L = false := by
  cases ho : okRows L with
  | false => rfl
  | true =>
    have := List.all_eq_true.1 ho l (List.mem_of_getElem? h)
    rw [hc] at this; simp at this
theorem okRows_len {L : List (List Vl)} {k : Nat} {l : List Vl} (ho : okRows L = true) (h : L[k]? = some l) : l.length ≤ 8 := by
  have := List.all_eq_true.1 ho l (List.mem_of_getElem? h)
  rcases chk_two l with h1 | h1
  · exact h1.2
  · rw [h1] at this; simp at this
/-- what a join hands back -/
def JoinPost (L : List (List Vl)) (w : World) (e : Ending) (w' : World) : Prop :=
  ∃ v, e = .returned (.tuple #[v, .int .i64 (joinE L)]) ∧ w'.ownsRow w.heap.size 23 3 v (joinL L).length ((joinL L).flatMap Vl.cells) ∧ Below w.heap.size w w'
theorem join_none {L : List (List Vl)} {w w' : World} {c : Int} (hE : joinE L = c) (hL : joinL L = []) (hb : Below w.heap.size w w') : JoinPost L w (.returned (.tuple #[.slice none 0 0, .int .i64 c])) w' :=
  ⟨_, by rw [hE], by rw [hL]; exact World.ownsRow_nil _ _ _ _, hb⟩
theorem VOk_all {L : List (List Vl)} (h : ∀ l ∈ L, ∀ v ∈ l, VOk v) {k : Nat} {l : List Vl} (hx : L[k]? = some l) : ∀ v ∈ l, v.s.size ≤ maxLen := fun v hv => (h l (List.mem_of_getElem? hx) v hv).1

set_option maxRecDepth 100000 in
set_option maxHeartbeats 3200000 in
theorem join_any (A : Option Addr) (c : Nat) (L : List (List Vl)) (w : World) (hl : RowsAt w w.heap.size A L) (hn : L.length ≤ 140737488355328) (hlen : ∀ l ∈ L, l.length ≤ maxLen) (hok : ∀ l ∈ L, ∀ v ∈ l, VOk v) :
    Calls Try.prog 27 #[.slice A L.length c] w (JoinPost L w) := by
  have hconc := fun W h hs => Lib.hid (concat_any A c L W h (by unfold maxLen; omega) hs)
  have hchk := fun A c l W h hn hs => Lib.hid (vcheck_any A c l W h hn hs)
  have Hl := Lib.hid (And.intro hl (And.intro hlen hok))
  clear hl hlen hok
  go_enter Try.func27, Try.ntmps27
  go_wp2_with fail
  go_loopw [4, 10] (fun s i wr => ∃ k : Nat, i = .int .i64 (k : Int) ∧ s = .int .i64 ((lens (L.take k) : Nat) : Int) ∧ k ≤ L.length ∧ lens (L.take k) ≤ 8 * k ∧ okRows (L.take k) = true ∧ Below w.heap.size w wr)
    (fun _ i _ => L.length - (intOf i).toNat)
  case atStart => exact ⟨0, rfl, rfl, by omega, by simp [lens], rfl, Below.refl _ _⟩
  case round =>
    obtain ⟨k, rfl, rfl, hk, h8, hokk, hb⟩ := hrel
    by_cases hlt : k < L.length
    · have hx : L[k]? = some L[k] := List.getElem?_eq_getElem hlt
      obtain ⟨b, o, rfl, hB, hl⟩ := Hl.out.1 (by omega)
      obtain ⟨A', c', hc, hv⟩ := hl k _ hx
      have c0 := (hb.cell (p := ⟨b, o + k, none⟩) hB).trans hc
      have hvv := vals_keep (hv.past hb (Nat.le_refl _) |>.wide hb.size) (Below.refl _ _)
      have hsn := lens_snoc hx
      have hos := okRows_snoc hx
      have hob := fun h => okRows_bad hx h
      have hll := Hl.out.2.1 _ (List.mem_of_getElem? hx)
      have hvs := VOk_all Hl.out.2.2 hx
      have htw := chk_two L[k]
      generalize L[k] = l at *
      generalize lens (L.take k) = m at *
      have hcall := Lib.hid ((hchk A' c' l wr hvv hll hvs).out)
      have HH := Lib.hid (And.intro hb (And.intro hsn (And.intro hos (And.intro hokk hob))))
      clear hb hl hx hsn hos hc hv hvv hob hokk hll hvs
      rcases htw with ⟨hz, hl8⟩ | hz
      · rw [hz] at hcall
        have HZ := Lib.hid hz
        clear hz
        go_wp2_with fail
        refine hcall.out.mono ?_
        rintro e w1 ⟨rfl, b1⟩
        have H1 := Lib.hid b1
        clear b1
        go_wp2_with fail
        go_roundw
        case rel =>
          obtain ⟨hb, hsn, hos, hokk, hob⟩ := HH.out
          exact ⟨k + 1, by go_num, by rw [hsn]; go_num, by omega, by omega, by rw [hos, hokk, HZ.out]; rfl, hb.trans (H1.out.mono hb.size)⟩
        case measure => simp [intOf]; omega
      · rw [hz] at hcall
        have HZ := Lib.hid hz
        clear hz
        go_wp2_with fail
        refine hcall.out.mono ?_
        rintro e w1 ⟨rfl, b1⟩
        have H1 := Lib.hid b1
        clear b1
        go_wp2_with fail
        go_ret2
        obtain ⟨hb, hsn, hos, hokk, hob⟩ := HH.out
        have hob := hob HZ.out
        exact join_none (by unfold joinE; rw [hob]; rfl) (by unfold joinL; rw [hob]; rfl) (hb.trans (H1.out.mono hb.size))
    · have hk2 : k = L.length := by omega
      subst hk2
      rw [List.take_length] at hokk h8 ⊢
      have HH := Lib.hid (And.intro hb hokk)
      clear hb hokk
      by_cases hm : 8 < lens L
      · have t1 : decide ((8 : Int) < ((lens L : Nat) : Int)) = true := by simp; omega
        have HM := Lib.hid hm
        go_wp2_with fail
        go_ret2
        obtain ⟨hb, hokk⟩ := HH.out
        have hm := HM.out
        exact join_none (by unfold joinE; rw [hokk]; simp; omega) (by unfold joinL; rw [hokk]; simp; omega) hb
      · have t1 : decide ((8 : Int) < ((lens L : Nat) : Int)) = false := by simp; omega
        have HM := Lib.hid hm
        have hcall := Lib.hid ((hconc wr (Hl.out.1.past HH.out.1 (Nat.le_refl _) |>.wide HH.out.1.size) (by omega)).out)
        clear hm
        go_wp2_with fail
        refine hcall.out.mono ?_
        rintro e w1 ⟨v1, rfl, o1, b1⟩
        have H1 := Lib.hid (And.intro o1 b1)
        clear o1 b1
        go_wp2_with fail
        go_ret2
        obtain ⟨hb, hokk⟩ := HH.out
        have hm := HM.out
        have hj : joinL L = L.flatten := by unfold joinL; rw [hokk]; simp; omega
        refine ⟨_, by rw [show joinE L = 0 from by unfold joinE; rw [hokk]; simp; omega]; rfl, ?_, hb.trans (H1.out.2.mono hb.size)⟩
        rw [hj, lens_flat]
        exact H1.out.1.mono hb.size
end Go.Proofs.Ythcoobennehkfaa
