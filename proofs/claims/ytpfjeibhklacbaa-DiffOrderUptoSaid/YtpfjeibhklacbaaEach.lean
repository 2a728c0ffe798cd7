/- The greater and the smaller of two rounds; of each loop. -/
import Derived.Test.YtpfjeibhklacbaaProg
import Derived.Test.YtpfjeibhklacbaaTm
import Derived.Test.YtpfjeibhklacbaaMem
import Derived.Outline
import Derived.WalkSpells
import Derived.WalkLawsBesides
import Derived.Deep.RegionHeld3
import Derived.Deep.DrawnRows
import Derived.StillTailTactics
namespace Go.Proofs.Ytpfjeibhklacbaa
open Go Go.RowKit
attribute [local go_sem ↓] Go.wp_at_zero Go.wp_at_succ


set_option maxRecDepth 100000 in
set_option maxHeartbeats 400000 in
theorem greater_any (x y : Nat) (w : World) :
    Calls Try.prog 61 #[.int .u64 (x : Int), .int .u64 (y : Int)] w fun e w' => e = .returned (.int .u64 ((max x y : Nat) : Int)) ∧ w = w' := by
  go_enter Try.func61, Try.ntmps61
  go_wp2_with fail
  all_goals
    go_ret
    exact ⟨ret_u64 (by omega), rfl⟩

set_option maxRecDepth 100000 in
set_option maxHeartbeats 800000 in
theorem each_greater (a b c d : Nat) (w : World) :
    Calls Try.prog 60 #[.agg #[.int .u64 (a : Int), .int .u64 (b : Int)], .agg #[.int .u64 (c : Int), .int .u64 (d : Int)], .func (.func 61) #[] #[]] w
      fun e w' => e = .returned (.agg #[.int .u64 ((max a c : Nat) : Int), .int .u64 ((max b d : Nat) : Int)]) ∧ Below w.heap.size w w' := by
  go_enter Try.func60, Try.ntmps60
  go_wp2_with fail
  go_loopw [8] (fun i wr => ∃ k : Nat, i = .int .i64 (k : Int) ∧ k ≤ 2 ∧ Below w.heap.size w wr ∧
      Own wr w.heap.size 34 [.int .u64 ((if 0 < k then max a c else a : Nat) : Int), .int .u64 ((if 1 < k then max b d else b : Nat) : Int)] ∧
      Own wr (w.heap.size + 1) 34 [.int .u64 (c : Int), .int .u64 (d : Int)] ∧ Own wr (w.heap.size + 1 + 1) 34 [.int .u64 0, .int .u64 0])
    (fun i _ => 2 - (intOf i).toNat)
  case atStart =>
    exact ⟨0, rfl, by omega, (((Below.refl _ _).alloc (Nat.le_refl _) _).alloc (by simp) _).alloc (by simp; omega) _, ((Own.made w _ _).more _).more _, by have := (Own.made (w.alloc (.cells #[.int .u64 (a : Int), .int .u64 (b : Int)] 34)) 34 [.int .u64 (c : Int), .int .u64 (d : Int)]).more (.cells #[.int .u64 0, .int .u64 0] 34); simpa using this, by
      have := Own.made ((w.alloc (.cells #[.int .u64 (a : Int), .int .u64 (b : Int)] 34)).alloc (.cells #[.int .u64 (c : Int), .int .u64 (d : Int)] 34)) 34 [.int .u64 0, .int .u64 0]; simpa using this⟩
  case round =>
    obtain ⟨k, rfl, hk, hb, h1, h2, h3⟩ := hrel
    have hs := h3.inside
    have Hs := Lib.hid (And.intro hb (And.intro h1 (And.intro h2 h3)))
    rcases (by omega : k = 0 ∨ k = 1 ∨ k = 2) with rfl | rfl | rfl
    · have c1 : wr.cell? ⟨w.heap.size, 0, none⟩ = some (.int .u64 (a : Int)) := h1.at_ 0
      have c2 : wr.cell? ⟨w.heap.size + 1, 0, none⟩ = some (.int .u64 (c : Int)) := h2.at_ 0
      have c3 : wr.frozen? ⟨w.heap.size, 0, none⟩ = false := h1.open_ 0
      clear h1 h2 h3 hb hk
      go_wp2_with fail
      go_region_with (go_at_call 61; refine (greater_any _ _ _).mono ?_; rintro e w' ⟨rfl, rfl⟩)
      all_goals
        go_wp2_with fail
        obtain ⟨hb, h1, h2, h3⟩ := Hs.out
        go_roundw
        case rel => exact ⟨1, by go_num, by omega, (hb.setCell (by simp) _).drew, (h1.set_ 0 _).draws 1, (h2.other (by simp) _).draws 1, (h3.other (by simp; omega) _).draws 1⟩
        case measure => simp [intOf]
    · have c1 : wr.cell? ⟨w.heap.size, 1, none⟩ = some (.int .u64 (b : Int)) := h1.at_ 1
      have c2 : wr.cell? ⟨w.heap.size + 1, 1, none⟩ = some (.int .u64 (d : Int)) := h2.at_ 1
      have c3 : wr.frozen? ⟨w.heap.size, 1, none⟩ = false := h1.open_ 1
      clear h1 h2 h3 hb hk
      go_wp2_with fail
      go_region_with (go_at_call 61; refine (greater_any _ _ _).mono ?_; rintro e w' ⟨rfl, rfl⟩)
      all_goals
        go_wp2_with fail
        obtain ⟨hb, h1, h2, h3⟩ := Hs.out
        go_roundw
        case rel => exact ⟨2, by go_num, by omega, (hb.setCell (by simp) _).drew, (h1.set_ 1 _).draws 1, (h2.other (by simp) _).draws 1, (h3.other (by simp; omega) _).draws 1⟩
        case measure => simp [intOf]
    · have c1 : wr.cell? ⟨w.heap.size, 0, none⟩ = some (.int .u64 ((max a c : Nat) : Int)) := h1.at_ 0
      have c2 : wr.cell? ⟨w.heap.size, 1, none⟩ = some (.int .u64 ((max b d : Nat) : Int)) := h1.at_ 1
      have c3 : wr.frozen? ⟨w.heap.size + 1 + 1, 0, none⟩ = false := h3.open_ 0
      have c4 : wr.frozen? ⟨w.heap.size + 1 + 1, 1, none⟩ = false := h3.open_ 1
      have c5 : wr.cell? ⟨w.heap.size + 1 + 1, 0, none⟩ = some (.int .u64 0) := h3.at_ 0
      have c6 : wr.cell? ⟨w.heap.size + 1 + 1, 1, none⟩ = some (.int .u64 0) := h3.at_ 1
      clear h1 h2 h3 hb hk
      go_wp2_with fail
      have h3 := Hs.out.2.2.2
      have d1 : (wr.setCell ⟨w.heap.size + 1 + 1, 0, none⟩ (.int .u64 ((max a c : Nat) : Int))).cell? ⟨w.heap.size + 1 + 1, 0, none⟩ = some (.int .u64 ((max a c : Nat) : Int)) := (h3.set_ 0 _).at_ 0
      have d2 : ((wr.setCell ⟨w.heap.size + 1 + 1, 0, none⟩ (.int .u64 ((max a c : Nat) : Int))).setCell ⟨w.heap.size + 1 + 1, 1, none⟩ (.int .u64 ((max b d : Nat) : Int))).cell? ⟨w.heap.size + 1 + 1, 1, none⟩ = some (.int .u64 ((max b d : Nat) : Int)) := ((h3.set_ 0 _).set_ 1 _).at_ 1
      refine bodyPost_ret (v := .agg #[.int .u64 ((max a c : Nat) : Int), .int .u64 ((max b d : Nat) : Int)]) (by simp [results, Try.results60, go_sem, d1, d2]) rfl ⟨rfl, ((Hs.out.1).setCell (by simp; omega) _).setCell (by simp; omega) _⟩

end Go.Proofs.Ytpfjeibhklacbaa
