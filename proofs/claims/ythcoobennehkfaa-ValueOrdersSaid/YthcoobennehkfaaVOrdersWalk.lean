/- ValueOrders returns true. -/
import Derived.Test.YthcoobennehkfaaVOrders
import Derived.Test.YthcoobennehkfaaVCheck
import Derived.Test.YthcoobennehkfaaVBoxes
namespace Go.Proofs.Ythcoobennehkfaa
open Go Go.RowKit

set_option maxRecDepth 100000 in
set_option maxHeartbeats 3200000 in
theorem vorders_walk (x y : Vl) (A : Option Addr) (c : Nat) (l : List Vl) (A' : Option Addr) (c' : Nat) (m : List Vl) (w : World) (_ : VOk x) (_ : VOk y)
    (hl : Vals w w.heap.size A l) (hc : l.length ≤ c) (hcm : c ≤ maxLen) (hlo : ∀ v ∈ l, VOk v) (hm : Vals w w.heap.size A' m) (hc' : m.length ≤ c') (hcm' : c' ≤ maxLen) (_ : ∀ v ∈ m, VOk v) :
    Calls Try.prog 3 #[x.val, y.val, .slice A l.length c, .slice A' m.length c'] w fun e w' => e = .returned (.bool true) ∧ Below w.heap.size w w' := by
  have hn := Nat.le_trans hc hcm
  have hn' := Nat.le_trans hc' hcm'
  have a0 := fun W => Lib.hid (vorders_true W)
  have a1 := fun W => Lib.hid (vcompare_any x y W)
  have a2 := fun W => Lib.hid (vrefCompare_any x y W)
  have a3 := fun W h h' => Lib.hid (rows_any A A' c c' l m W h h' hn hn')
  have a4 := fun W h h' => Lib.hid (refRows_any A A' c c' l m W h h' hn hn')
  have a5 := fun W h => Lib.hid (vcheck_any A c l W h hn (fun v hv => (hlo v hv).1))
  have a6 := fun W h => Lib.hid (vrefCheck_any A c l W h hn (fun v hv => (hlo v hv).1))
  generalize x.cmp y = r at a1 a2
  generalize cmpRows l m = s at a3 a4
  generalize chkRow l = q at a5 a6
  unfold Vl.val at *
  have Hl := Lib.hid (And.intro hl hm)
  clear hl hm hc hc' hcm hcm' hn hn' hlo
  go_enter Try.func3, Try.ntmps3
  go_wp2_with fail
  obtain ⟨W, hW, fb, hsz, f0, f1⟩ := vbox2 w x y
  rw [← hW]
  have HF := Lib.hid fb
  have HL := Lib.hid (And.intro (vals_keep Hl.out.1 fb) (vals_keep Hl.out.2 fb))
  obtain ⟨c0, c1, c2⟩ := past_vl f0 (by omega)
  obtain ⟨d0, d1, d2⟩ := past_vl f1 (by omega)
  clear hW fb f0 f1 hsz
  refine wp_region_past W (by kernel_rfl) (by kernel_rfl) (Below.refl _ _) ?_
  repeat (quiet_step ((first | (go_at_call 12; exact calls_past (a0 _).out) | (go_at_call 13; exact calls_past (a1 _).out) | (go_at_call 14; exact calls_past (a2 _).out) | (go_at_call 15; exact calls_past (a3 _ (past_vals HL.out.1 _) (past_vals HL.out.2 _)).out) | (go_at_call 16; exact calls_past (a4 _ (past_vals HL.out.1 _) (past_vals HL.out.2 _)).out) | (go_at_call 17; exact calls_past (a5 _ (past_vals HL.out.1 _)).out) | (go_at_call 18; exact calls_past (a6 _ (past_vals HL.out.1 _)).out))))
  refine wpQuiet_nil ?_
  intro wq hw'
  obtain ⟨⟨wz, hbz⟩, hw''⟩ := hw'
  obtain rfl : wq = wz := hw''
  go_wp2_with fail
  go_ret
  exact ⟨rfl, HF.out.trans (hbz.mono HF.out.size)⟩
end Go.Proofs.Ythcoobennehkfaa
