/- Sum, by the program. -/
import Derived.Test.YtjidjpmdmcleoaaSmAdd
import Derived.Test.YtjidjpmdmcleoaaInts
namespace Go.Proofs.Ytjidjpmdmcleoaa
open Go Go.RowKit

theorem take_bound {l : List Int} (h : Fit64 l) (hn : l.length ≤ 9223372036854775807) (k : Nat) : -170141183460469231731687303715884105728 ≤ (l.take k).sum ∧ (l.take k).sum < 170141183460469231731687303715884105728 := by
  have h1 := sum_bound (l.take k) fun n hn => h n (List.mem_of_mem_take hn)
  have h2 : (l.take k).length ≤ l.length := List.length_take_le' ..
  omega
set_option maxRecDepth 100000 in
set_option maxHeartbeats 1600000 in
theorem sum_any (A : Option Addr) (c : Nat) (l : List Int) (w : World) (hl : Ints w w.heap.size A l) (hn : l.length ≤ maxLen) (hs : Fit64 l) :
    Calls Try.prog 56 #[.slice A l.length c] w fun e w' => e = .returned (.tuple #[.int .i64 (fitN l.sum), .int .i64 (fitE l.sum)]) ∧ Below w.heap.size w w' := by
  have htb := Lib.hid (take_bound hs (by unfold maxLen at hn; omega) l.length)
  unfold maxLen at hn
  have Hl := Lib.hid (And.intro hl hs)
  clear hl hs
  have hof := fun n W h1 h2 => Lib.hid (of_any n W h1 h2)
  have hadd := fun S T g W h => Lib.hid (add_any S T g W h)
  have hnum := fun S W h1 h2 => Lib.hid (number_any S W h1 h2)
  go_enter Try.func56, Try.ntmps56
  go_wp2_with fail
  go_loopw [9] (fun i wr => ∃ k : Nat, i = .int .i64 (k : Int) ∧ k ≤ l.length ∧ Below w.heap.size w wr ∧ Own wr w.heap.size 130 [.int .u64 (hiW (l.take k).sum), .int .u64 (loW (l.take k).sum)])
    (fun i _ => l.length - (intOf i).toNat)
  case atStart => exact ⟨0, rfl, by omega, (Below.refl _ _).alloc (Nat.le_refl _) _, Own.made w _ _⟩
  case round =>
    obtain ⟨k, rfl, hk, hb, ho⟩ := hrel
    by_cases hlt : k < l.length
    · have hx : l[k]? = some l[k] := List.getElem?_eq_getElem hlt
      obtain ⟨b, o, rfl, hB, hl⟩ := Hl.out.1 (by omega)
      have c0 := (hb.cell (p := ⟨b, o + k, none⟩) hB).trans (hl k _ hx)
      obtain ⟨h1, h2⟩ := Hl.out.2 _ (List.mem_of_getElem? hx)
      have hsn := sum_snoc l k _ hx
      generalize l[k] = n at *
      have HH := Lib.hid (And.intro hb (And.intro ho hsn))
      clear hb ho hl hx hsn
      go_wp2_with fail
      refine (hof n _ h1 h2).out.mono ?_
      rintro e w1 ⟨rfl, b1⟩
      have H1 := Lib.hid b1
      clear b1
      go_wp2_with fail
      refine (hadd (l.take k).sum n w.heap.size _ (HH.out.2.1.past H1.out HH.out.2.1.inside)).out.mono ?_
      rintro e w2 ⟨rfl, o2, b2⟩
      have H2 := Lib.hid (And.intro o2 b2)
      clear o2 b2
      go_wp2_with fail
      go_roundw
      case rel =>
        obtain ⟨hb, ho, hsn⟩ := HH.out
        exact ⟨k + 1, by go_num, by omega, (hb.trans (H1.out.mono hb.size)).trans (H2.out.2 _ (Nat.le_refl _)), own_of H2.out.1 (by rw [hsn])⟩
      case measure => simp [intOf]; omega
    · have hk2 : k = l.length := by omega
      subst hk2
      have c0 := ho.at_ 0
      have c1 := ho.at_ 1
      rw [List.take_length] at c0 c1
      simp only [List.getElem?_cons_zero, List.getElem?_cons_succ] at c0 c1
      have HH := Lib.hid hb
      have HT := htb.out
      rw [List.take_length] at HT
      have HT := Lib.hid HT
      clear hb ho
      go_wp2_with fail
      refine (hnum l.sum _ HT.out.1 HT.out.2).out.mono ?_
      rintro e w3 ⟨rfl, b3⟩
      go_wp2_with fail
      go_ret2
      exact ⟨rfl, HH.out.trans (b3.mono HH.out.size)⟩
end Go.Proofs.Ytjidjpmdmcleoaa
