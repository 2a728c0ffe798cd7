/- Sum, by the reference. -/
import Derived.Test.YtblcoknalailjaaSmRef
import Derived.Test.YtblcoknalailjaaInts
namespace Go.Proofs.Ytblcoknalailjaa
open Go Go.RowKit

theorem take_bound' {l : List Int} (h : Fit64 l) (hn : l.length ≤ 9223372036854775807) (k : Nat) : -85070591730234615865843651857942052864 ≤ (l.take k).sum ∧ (l.take k).sum < 85070591730234615865843651857942052864 := by
  have h1 := sum_bound (l.take k) fun n hn => h n (List.mem_of_mem_take hn)
  have h2 : (l.take k).length ≤ l.length := List.length_take_le' ..
  omega
set_option maxRecDepth 100000 in
set_option maxHeartbeats 1600000 in
theorem refSum_any (A : Option Addr) (c : Nat) (l : List Int) (w : World) (hl : Ints w w.heap.size A l) (hn : l.length ≤ maxLen) (hs : Fit64 l) :
    Calls Try.prog 6 #[.slice A l.length c] w fun e w' => e = .returned (.tuple #[.int .i64 (fitN l.sum), .int .i64 (fitE l.sum)]) ∧ Below w.heap.size w w' := by
  unfold maxLen at hn
  have htb := Lib.hid (take_bound' hs hn)
  have Hl := Lib.hid (And.intro hl hs)
  clear hl hs
  have hplus := fun S n W h1 h2 h3 h4 => Lib.hid (plus_any S n W h1 h2 h3 h4)
  have hfit := fun S W h1 h2 => Lib.hid (fit_any S W h1 h2)
  go_enter Try.func6, Try.ntmps6
  go_wp2_with fail
  go_loopw [10] (fun i wr => ∃ k : Nat, i = .int .i64 (k : Int) ∧ k ≤ l.length ∧ Below w.heap.size w wr ∧ Own wr w.heap.size 37 [.int .i64 ((l.take k).sum / 18446744073709551616), .int .u64 (loW (l.take k).sum)])
    (fun i _ => l.length - (intOf i).toNat)
  case atStart => exact ⟨0, rfl, by omega, (Below.refl _ _).alloc (Nat.le_refl _) _, Own.made w _ _⟩
  case round =>
    obtain ⟨k, rfl, hk, hb, ho⟩ := hrel
    by_cases hlt : k < l.length
    · have hx : l[k]? = some l[k] := List.getElem?_eq_getElem hlt
      obtain ⟨b, o, rfl, hB, hl⟩ := Hl.out.1 (by omega)
      have c0 := (hb.cell (p := ⟨b, o + k, none⟩) hB).trans (hl k _ hx)
      obtain ⟨h1, h2⟩ := Hl.out.2 _ (List.mem_of_getElem? hx)
      have hsn := sum_snoc l k _ hx
      generalize l[k] = n at *
      have o0 := ho.at_ 0
      have o1 := ho.at_ 1
      simp only [List.getElem?_cons_zero, List.getElem?_cons_succ] at o0 o1
      have HH := Lib.hid (And.intro hb (And.intro ho hsn))
      clear hb ho hl hx hsn
      go_wp2_with fail
      refine (hplus (l.take k).sum n _ h1 h2 (htb.out k).1 (htb.out k).2).out.mono ?_
      rintro e w1 ⟨rfl, b1⟩
      have o2 := HH.out.2.1.past b1 HH.out.2.1.inside
      have g1 := o2.open_ 0
      have g2 := o2.open_ 1
      have g3 := o2.inside
      have p0 := o2.at_ 0
      have p1 := o2.at_ 1
      simp only [List.getElem?_cons_zero, List.getElem?_cons_succ] at p0 p1
      have H1 := Lib.hid (And.intro b1 o2)
      clear b1 o2 o0 o1
      go_wp2_with fail
      go_roundw
      case rel =>
        obtain ⟨hb, ho, hsn⟩ := HH.out
        obtain ⟨b1, o2⟩ := H1.out
        exact ⟨k + 1, by go_num, by omega, ((hb.trans (b1.mono hb.size)).setCell (Nat.le_refl _) _).setCell (Nat.le_refl _) _, own_of ((o2.set_ 0 _).set_ 1 _) (by rw [hsn]; rfl)⟩
      case measure => simp [intOf]; omega
    · have hk2 : k = l.length := by omega
      subst hk2
      have c0 := ho.at_ 0
      have c1 := ho.at_ 1
      rw [List.take_length] at c0 c1
      simp only [List.getElem?_cons_zero, List.getElem?_cons_succ] at c0 c1
      have HH := Lib.hid hb
      have HT := htb.out l.length
      rw [List.take_length] at HT
      have HT := Lib.hid HT
      clear hb ho
      go_wp2_with fail
      refine (hfit l.sum _ HT.out.1 HT.out.2).out.mono ?_
      rintro e w3 ⟨rfl, b3⟩
      go_wp2_with fail
      go_ret2
      exact ⟨rfl, HH.out.trans (b3.mono HH.out.size)⟩
end Go.Proofs.Ytblcoknalailjaa
