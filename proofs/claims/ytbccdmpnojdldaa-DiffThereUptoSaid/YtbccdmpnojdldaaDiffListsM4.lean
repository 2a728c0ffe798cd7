/- Part 4 of the texts on which DiffLists rests: facts and contracts. -/
import Derived.Test.YtbccdmpnojdldaaDiffListsM3
import Derived.Tactics2
import Derived.Orders
import Derived.RegionTactic
import Derived.Deep.Cut
namespace Go.Proofs.Ytbccdmpnojdldaa
open Go Go.RowKit

set_option maxRecDepth 100000 in
set_option maxHeartbeats 16000000 in
theorem sameC_any (A A' : Option Addr) (c c' : Nat) (l m : List Ct) (w : World) (hl : Cts w w.heap.size A l) (hm : Cts w w.heap.size A' m) (hol : ∀ u ∈ l, COk u) (hom : ∀ u ∈ m, COk u) (hn : l.length ≤ 1099511627776) (hn' : m.length ≤ 1099511627776) :
    Calls Try.prog 19 #[.slice A l.length c, .slice A' m.length c'] w fun x w' => ∃ b : Bool, x = .returned (.bool b) ∧ (b = true ↔ l.map Ct.p = m.map Ct.p) ∧ Below w.heap.size w w' := by
  have HL := Lib.hid (And.intro hl (And.intro hm (And.intro hol hom)))
  clear hl hm hol hom
  by_cases hlen : l.length = m.length
  case neg =>
    have t1 : ((l.length : Int) != (m.length : Int)) = true := by rw [bne_iff_ne]; omega
    have HN := Lib.hid hlen
    clear hlen
    go_enter Try.func19, Try.ntmps19
    go_wp2_with fail
    go_ret
    exact ⟨false, rfl, by simp only [Bool.false_eq_true, false_iff]; exact fun h => HN.out (by have := congrArg List.length h; simpa using this), Below.refl _ _⟩
  have t1 : ((l.length : Int) != (m.length : Int)) = false := by simp [hlen]
  have HE := Lib.hid hlen
  clear hlen
  go_enter Try.func19, Try.ntmps19
  go_wp2_with fail
  go_loopw [13] (fun v13 wr => ∃ j : Nat, v13 = .int .i64 (j : Int) ∧ j ≤ l.length ∧ Below w.heap.size w wr ∧ (l.take j).map Ct.p = (m.take j).map Ct.p) (fun v13 _ => l.length - (intOf v13).toNat)
  case atStart => exact ⟨0, rfl, by omega, Below.refl _ _, rfl⟩
  case round =>
    obtain ⟨j, rfl, hj, hbj, heq⟩ := hrel
    obtain ⟨wi, hwi⟩ : ∃ wi, wi = wr := ⟨_, rfl⟩
    subst hwi
    by_cases hjt : j < l.length
    · have hjm : j < m.length := by have := HE.out; omega
      have hx : l[j]? = some l[j] := List.getElem?_eq_getElem hjt
      have hy : m[j]? = some m[j] := List.getElem?_eq_getElem hjm
      have hxm := List.mem_of_getElem? hx
      have hym := List.mem_of_getElem? hy
      generalize l[j] = x at *
      generalize m[j] = y at *
      obtain ⟨b, o, rfl, hB, hxs⟩ := lies_ct HL.out.1.head (by omega)
      obtain ⟨b', o', rfl, hB', hys⟩ := lies_ct HL.out.2.1.head (by omega)
      have hX := fun p : Past wi => ((hxs j x hx).past_ (hbj.trans (p.h.mono hbj.size)) hB).two
      have hY := fun p : Past wi => ((hys j y hy).past_ (hbj.trans (p.h.mono hbj.size)) hB').two
      have hxin := fun p : Past wi => ((HL.out.1.each_ x hxm).past (hbj.trans (p.h.mono hbj.size)) (Nat.le_refl _)).wide (Nat.le_trans hbj.size p.h.size)
      have hyin := fun p : Past wi => ((HL.out.2.1.each_ y hym).past (hbj.trans (p.h.mono hbj.size)) (Nat.le_refl _)).wide (Nat.le_trans hbj.size p.h.size)
      have hxo := HL.out.2.2.1 x hxm
      have hyo := HL.out.2.2.2 y hym
      have u1 := fun p : Past wi => calls_past (vsame_any x.rA y.rA x.rc y.rc x.row y.row p.w (hxin p).row (hyin p).row (maxn hxo.rn) (maxn hyo.rn))
      have hnext := fun h : x.p = y.p => (show (l.take (j + 1)).map Ct.p = (m.take (j + 1)).map Ct.p by rw [List.take_add_one, List.take_add_one, hx, hy, List.map_append, List.map_append, heq]; simp only [Option.toList_some, List.map_cons, List.map_nil]; rw [h])
      have hne := fun h : x.p ≠ y.p => (show ¬ l.map Ct.p = m.map Ct.p from fun e => h (by
        have h1 : (l.map Ct.p)[j]? = some x.p := by rw [List.getElem?_map, hx]; rfl
        have h2 : (m.map Ct.p)[j]? = some y.p := by rw [List.getElem?_map, hy]; rfl
        rw [e, h2] at h1
        exact (Option.some.inj h1).symm))
      have HJ := Lib.hid (And.intro hbj heq)
      have q0 : (0 : Int) ≤ (j : Int) := by omega
      have q1 : (j : Int) < (l.length : Int) := by omega
      have q1' : (j : Int) < (m.length : Int) := by omega
      have q2 : decide ((j : Int) < (l.length : Int)) = true := decide_eq_true q1
      clear hx hy hxm hym hxs hys hbj heq hxin hyin hxo hyo
      by_cases hr : x.row = y.row
      · simp only [decide_eq_true hr] at u1
        by_cases hd : x.n = y.n
        · have t2 : (x.n != y.n) = false := by simp [hd]
          have HEQ := Lib.hid (hnext (by unfold Ct.p; rw [hr, hd]))
          clear hr hd hnext hne
          go_upto_region 6 with fail
          refine wp_region_past wi (by kernel_rfl) (by kernel_rfl) (Below.refl _ _) ?_
          repeat (first | go_big_quiet_step (fail) | quiet_step (fail))
          quiet_step ((go_at_call 27; exact u1 _))
          repeat (first | go_big_quiet_step (fail) | quiet_step (fail))
          refine wpQuiet_nil ?_
          intro wz hw'
          obtain ⟨⟨wy, hbz⟩, hw''⟩ := hw'
          dsimp only at hw''
          subst hw''
          have HZ := Lib.hid (HJ.out.1.trans (hbz.mono HJ.out.1.size))
          clear hbz
          go_wp2_with fail
          go_roundw
          case rel => exact ⟨j + 1, by go_num, by omega, HZ.out, HEQ.out⟩
          case measure => simp [intOf]; omega
        · have t2 : (x.n != y.n) = true := bne_iff_ne.2 hd
          have HNE := Lib.hid (hne fun e => hd (congrArg Prod.snd e))
          clear hr hd hnext hne
          go_upto_region 6 with fail
          refine wp_region_past wi (by kernel_rfl) (by kernel_rfl) (Below.refl _ _) ?_
          repeat (first | go_big_quiet_step (fail) | quiet_step (fail))
          quiet_step ((go_at_call 27; exact u1 _))
          repeat (first | go_big_quiet_step (fail) | quiet_step (fail))
          refine wpQuiet_nil ?_
          intro wz hw'
          obtain ⟨⟨wy, hbz⟩, hw''⟩ := hw'
          dsimp only at hw''
          subst hw''
          have HZ := Lib.hid (HJ.out.1.trans (hbz.mono HJ.out.1.size))
          clear hbz
          go_wp2_with fail
          go_ret
          exact ⟨false, rfl, by simp only [Bool.false_eq_true, false_iff]; exact HNE.out, HZ.out⟩
      · simp only [decide_eq_false hr] at u1
        have HNE := Lib.hid (hne fun e => hr (congrArg Prod.fst e))
        clear hr hnext hne
        go_upto_region 6 with fail
        refine wp_region_past wi (by kernel_rfl) (by kernel_rfl) (Below.refl _ _) ?_
        repeat (first | go_big_quiet_step (fail) | quiet_step (fail))
        quiet_step ((go_at_call 27; exact u1 _))
        repeat (first | go_big_quiet_step (fail) | quiet_step (fail))
        refine wpQuiet_nil ?_
        intro wz hw'
        obtain ⟨⟨wy, hbz⟩, hw''⟩ := hw'
        dsimp only at hw''
        subst hw''
        have HZ := Lib.hid (HJ.out.1.trans (hbz.mono HJ.out.1.size))
        clear hbz
        go_wp2_with fail
        go_ret
        exact ⟨false, rfl, by simp only [Bool.false_eq_true, false_iff]; exact HNE.out, HZ.out⟩
    · have hj2 : j = l.length := by omega
      have q2 : decide ((j : Int) < (l.length : Int)) = false := decide_eq_false (by omega)
      rw [hj2, List.take_length, HE.out, List.take_length] at heq
      have HJ := Lib.hid (And.intro hbj heq)
      clear hbj heq
      go_wp2_with fail
      go_ret
      exact ⟨true, rfl, ⟨fun _ => HJ.out.2, fun _ => rfl⟩, HJ.out.1⟩
end Go.Proofs.Ytbccdmpnojdldaa
namespace Go.Proofs.Ytbccdmpnojdldaa
open Go Go.RowKit

set_option maxRecDepth 100000 in
set_option maxHeartbeats 16000000 in
theorem sameU_any (A A' : Option Addr) (c c' : Nat) (l m : List Up) (w : World) (hl : Ups w w.heap.size A l) (hm : Ups w w.heap.size A' m) (hol : ∀ u ∈ l, UOk u) (hom : ∀ u ∈ m, UOk u) (hn : l.length ≤ 1099511627776) (hn' : m.length ≤ 1099511627776) :
    Calls Try.prog 8 #[.slice A l.length c, .slice A' m.length c'] w fun x w' => ∃ b : Bool, x = .returned (.bool b) ∧ (b = true ↔ l.map Up.p = m.map Up.p) ∧ Below w.heap.size w w' := by
  have HL := Lib.hid (And.intro hl (And.intro hm (And.intro hol hom)))
  clear hl hm hol hom
  by_cases hlen : l.length = m.length
  case neg =>
    have t1 : ((l.length : Int) != (m.length : Int)) = true := by rw [bne_iff_ne]; omega
    have HN := Lib.hid hlen
    clear hlen
    go_enter Try.func8, Try.ntmps8
    go_wp2_with fail
    go_ret
    exact ⟨false, rfl, by simp only [Bool.false_eq_true, false_iff]; exact fun h => HN.out (by have := congrArg List.length h; simpa using this), Below.refl _ _⟩
  have t1 : ((l.length : Int) != (m.length : Int)) = false := by simp [hlen]
  have HE := Lib.hid hlen
  clear hlen
  go_enter Try.func8, Try.ntmps8
  go_wp2_with fail
  go_loopw [13] (fun v13 wr => ∃ j : Nat, v13 = .int .i64 (j : Int) ∧ j ≤ l.length ∧ Below w.heap.size w wr ∧ (l.take j).map Up.p = (m.take j).map Up.p) (fun v13 _ => l.length - (intOf v13).toNat)
  case atStart => exact ⟨0, rfl, by omega, Below.refl _ _, rfl⟩
  case round =>
    obtain ⟨j, rfl, hj, hbj, heq⟩ := hrel
    obtain ⟨wi, hwi⟩ : ∃ wi, wi = wr := ⟨_, rfl⟩
    subst hwi
    by_cases hjt : j < l.length
    · have hjm : j < m.length := by have := HE.out; omega
      have hx : l[j]? = some l[j] := List.getElem?_eq_getElem hjt
      have hy : m[j]? = some m[j] := List.getElem?_eq_getElem hjm
      have hxm := List.mem_of_getElem? hx
      have hym := List.mem_of_getElem? hy
      generalize l[j] = x at *
      generalize m[j] = y at *
      obtain ⟨b, o, rfl, hB, hxs⟩ := lies_up HL.out.1.head (by omega)
      obtain ⟨b', o', rfl, hB', hys⟩ := lies_up HL.out.2.1.head (by omega)
      have hX := fun p : Past wi => ((hxs j x hx).past_ (hbj.trans (p.h.mono hbj.size)) hB).six
      have hY := fun p : Past wi => ((hys j y hy).past_ (hbj.trans (p.h.mono hbj.size)) hB').six
      have hxin := fun p : Past wi => ((HL.out.1.each_ x hxm).past (hbj.trans (p.h.mono hbj.size)) (Nat.le_refl _)).wide (Nat.le_trans hbj.size p.h.size)
      have hyin := fun p : Past wi => ((HL.out.2.1.each_ y hym).past (hbj.trans (p.h.mono hbj.size)) (Nat.le_refl _)).wide (Nat.le_trans hbj.size p.h.size)
      have hxo := HL.out.2.2.1 x hxm
      have hyo := HL.out.2.2.2 y hym
      have u1 := fun p : Past wi => calls_past (vsame_any x.kA y.kA x.kc y.kc x.key y.key p.w (hxin p).key (hyin p).key (maxn hxo.kn) (maxn hyo.kn))
      have u2 := fun p : Past wi => calls_past (vsame_any x.rA y.rA x.rc y.rc x.row y.row p.w (hxin p).row (hyin p).row (maxn hxo.rn) (maxn hyo.rn))
      have hnext := fun h : x.p = y.p => (show (l.take (j + 1)).map Up.p = (m.take (j + 1)).map Up.p by rw [List.take_add_one, List.take_add_one, hx, hy, List.map_append, List.map_append, heq]; simp only [Option.toList_some, List.map_cons, List.map_nil]; rw [h])
      have hne := fun h : x.p ≠ y.p => (show ¬ l.map Up.p = m.map Up.p from fun e => h (by
        have h1 : (l.map Up.p)[j]? = some x.p := by rw [List.getElem?_map, hx]; rfl
        have h2 : (m.map Up.p)[j]? = some y.p := by rw [List.getElem?_map, hy]; rfl
        rw [e, h2] at h1
        exact (Option.some.inj h1).symm))
      have HJ := Lib.hid (And.intro hbj heq)
      have q0 : (0 : Int) ≤ (j : Int) := by omega
      have q1 : (j : Int) < (l.length : Int) := by omega
      have q1' : (j : Int) < (m.length : Int) := by omega
      have q2 : decide ((j : Int) < (l.length : Int)) = true := decide_eq_true q1
      clear hx hy hxm hym hxs hys hbj heq hxin hyin hxo hyo
      by_cases hk : x.key = y.key
      · simp only [decide_eq_true hk] at u1
        by_cases hr : x.row = y.row
        · simp only [decide_eq_true hr] at u2
          have hq : ∀ W, (binOp .neq 36 (.agg #[.int .u64 (x.t.e : Int), .int .u64 (x.t.a : Int), .int .u64 (x.t.b : Int)]) (.agg #[.int .u64 (y.t.e : Int), .int .u64 (y.t.a : Int), .int .u64 (y.t.b : Int)])).run Try.prog W = .ok (.bool (!eqT x.t y.t)) W := fun W => neq_time x.t y.t W
          have hgd := fun (x1 y1 : Operand) (xs ys : Array Value) (w : World) => grd_time .neq x1 y1 xs ys w
          by_cases ht : x.t = y.t
          · rw [eqT_iff.2 ht] at hq
            by_cases hd : x.d = y.d
            · have t2 : (x.d != y.d) = false := by simp [hd]
              have HEQ := Lib.hid (hnext (by unfold Up.p Up.k; rw [hk, hr, ht, hd]))
              clear hk hr ht hd hnext hne
              go_upto_region 6 with fail
              refine wp_region_past wi (by kernel_rfl) (by kernel_rfl) (Below.refl _ _) ?_
              repeat (first | go_big_quiet_step (fail) | quiet_step (fail))
              quiet_step ((go_at_call 27; exact u1 _))
              repeat (first | go_big_quiet_step (fail) | quiet_step (fail))
              quiet_step ((go_at_call 27; exact u2 _))
              repeat (first | go_big_quiet_step (fail) | quiet_step (fail))
              refine wpQuiet_nil ?_
              intro wz hw'
              obtain ⟨⟨wy, hbz⟩, hw''⟩ := hw'
              dsimp only at hw''
              subst hw''
              have HZ := Lib.hid (HJ.out.1.trans (hbz.mono HJ.out.1.size))
              clear hbz
              go_wp2_with fail
              go_roundw
              case rel => exact ⟨j + 1, by go_num, by omega, HZ.out, HEQ.out⟩
              case measure => simp [intOf]; omega
            · have t2 : (x.d != y.d) = true := bne_iff_ne.2 hd
              have HNE := Lib.hid (hne fun e => hd (congrArg Prod.snd e))
              clear hk hr ht hd hnext hne
              go_upto_region 6 with fail
              refine wp_region_past wi (by kernel_rfl) (by kernel_rfl) (Below.refl _ _) ?_
              repeat (first | go_big_quiet_step (fail) | quiet_step (fail))
              quiet_step ((go_at_call 27; exact u1 _))
              repeat (first | go_big_quiet_step (fail) | quiet_step (fail))
              quiet_step ((go_at_call 27; exact u2 _))
              repeat (first | go_big_quiet_step (fail) | quiet_step (fail))
              refine wpQuiet_nil ?_
              intro wz hw'
              obtain ⟨⟨wy, hbz⟩, hw''⟩ := hw'
              dsimp only at hw''
              subst hw''
              have HZ := Lib.hid (HJ.out.1.trans (hbz.mono HJ.out.1.size))
              clear hbz
              go_wp2_with fail
              go_ret
              exact ⟨false, rfl, by simp only [Bool.false_eq_true, false_iff]; exact HNE.out, HZ.out⟩
          · rw [show eqT x.t y.t = false from Bool.eq_false_iff.2 fun h => ht (eqT_iff.1 h)] at hq
            have HNE := Lib.hid (hne fun e => ht (congrArg (fun z => z.1.t) e))
            clear hk hr ht hnext hne
            go_upto_region 6 with fail
            refine wp_region_past wi (by kernel_rfl) (by kernel_rfl) (Below.refl _ _) ?_
            repeat (first | go_big_quiet_step (fail) | quiet_step (fail))
            quiet_step ((go_at_call 27; exact u1 _))
            repeat (first | go_big_quiet_step (fail) | quiet_step (fail))
            quiet_step ((go_at_call 27; exact u2 _))
            repeat (first | go_big_quiet_step (fail) | quiet_step (fail))
            refine wpQuiet_nil ?_
            intro wz hw'
            obtain ⟨⟨wy, hbz⟩, hw''⟩ := hw'
            dsimp only at hw''
            subst hw''
            have HZ := Lib.hid (HJ.out.1.trans (hbz.mono HJ.out.1.size))
            clear hbz
            go_wp2_with fail
            go_ret
            exact ⟨false, rfl, by simp only [Bool.false_eq_true, false_iff]; exact HNE.out, HZ.out⟩
        · simp only [decide_eq_false hr] at u2
          have HNE := Lib.hid (hne fun e => hr (congrArg (fun z => z.1.row) e))
          clear hk hr hnext hne
          go_upto_region 6 with fail
          refine wp_region_past wi (by kernel_rfl) (by kernel_rfl) (Below.refl _ _) ?_
          repeat (first | go_big_quiet_step (fail) | quiet_step (fail))
          quiet_step ((go_at_call 27; exact u1 _))
          repeat (first | go_big_quiet_step (fail) | quiet_step (fail))
          quiet_step ((go_at_call 27; exact u2 _))
          repeat (first | go_big_quiet_step (fail) | quiet_step (fail))
          refine wpQuiet_nil ?_
          intro wz hw'
          obtain ⟨⟨wy, hbz⟩, hw''⟩ := hw'
          dsimp only at hw''
          subst hw''
          have HZ := Lib.hid (HJ.out.1.trans (hbz.mono HJ.out.1.size))
          clear hbz
          go_wp2_with fail
          go_ret
          exact ⟨false, rfl, by simp only [Bool.false_eq_true, false_iff]; exact HNE.out, HZ.out⟩
      · simp only [decide_eq_false hk] at u1
        have HNE := Lib.hid (hne fun e => hk (congrArg (fun z => z.1.key) e))
        clear hk hnext hne u2
        go_upto_region 6 with fail
        refine wp_region_past wi (by kernel_rfl) (by kernel_rfl) (Below.refl _ _) ?_
        repeat (first | go_big_quiet_step (fail) | quiet_step (fail))
        quiet_step ((go_at_call 27; exact u1 _))
        repeat (first | go_big_quiet_step (fail) | quiet_step (fail))
        refine wpQuiet_nil ?_
        intro wz hw'
        obtain ⟨⟨wy, hbz⟩, hw''⟩ := hw'
        dsimp only at hw''
        subst hw''
        have HZ := Lib.hid (HJ.out.1.trans (hbz.mono HJ.out.1.size))
        clear hbz
        go_wp2_with fail
        go_ret
        exact ⟨false, rfl, by simp only [Bool.false_eq_true, false_iff]; exact HNE.out, HZ.out⟩
    · have hj2 : j = l.length := by omega
      have q2 : decide ((j : Int) < (l.length : Int)) = false := decide_eq_false (by omega)
      rw [hj2, List.take_length, HE.out, List.take_length] at heq
      have HJ := Lib.hid (And.intro hbj heq)
      clear hbj heq
      go_wp2_with fail
      go_ret
      exact ⟨true, rfl, ⟨fun _ => HJ.out.2, fun _ => rfl⟩, HJ.out.1⟩
end Go.Proofs.Ytbccdmpnojdldaa
namespace Go.Proofs.Ytbccdmpnojdldaa
open Go Go.RowKit

/-- evened out: no number is 0, they stand in order, each is right -/
def EvenP (l : List Up) : Prop := (∀ u ∈ l, u.d ≠ 0) ∧ Srt Uk.cmp (l.map Up.p) ∧ chkUs l = 0
/-- a Bool that tells whether p -/
def Tells (p : Prop) (w : World) (x : Ending) (w' : World) : Prop := ∃ b : Bool, x = .returned (.bool b) ∧ (b = true ↔ p) ∧ Below w.heap.size w w'
theorem srt_more {l : List Up} {j : Nat} {x u : Up} (h : Srt Uk.cmp ((l.take (j + 1)).map Up.p)) (hx : l[j]? = some x) (hu : l[j + 1]? = some u) (hlt : x.k.cmp u.k < 0) : Srt Uk.cmp ((l.take (j + 1 + 1)).map Up.p) := by
  have e1 : l.take (j + 1) = l.take j ++ [x] := by rw [List.take_add_one, hx]; rfl
  have e2 : l.take (j + 1 + 1) = l.take (j + 1) ++ [u] := by rw [List.take_add_one, hu]; rfl
  rw [e2, List.map_append]
  rw [e1, List.map_append] at h ⊢
  unfold Srt at *
  rw [List.pairwise_append]
  refine ⟨h, by simp, fun a ha b hb => ?_⟩
  obtain rfl : b = u.p := by simpa using hb
  rcases List.mem_append.1 ha with ha | ha
  · rw [List.pairwise_append] at h
    exact uk_lin.lt_trans (h.2.2 a ha x.p (by simp)) hlt
  · obtain rfl : a = x.p := by simpa using ha
    exact hlt
theorem srt_not {l : List Up} {j : Nat} {x u : Up} (hx : l[j]? = some x) (hu : l[j + 1]? = some u) (hge : ¬ x.k.cmp u.k < 0) : ¬ Srt Uk.cmp (l.map Up.p) := fun h => by
  unfold Srt at h
  obtain ⟨h1, rfl⟩ := List.getElem?_eq_some_iff.1 hx
  obtain ⟨h2, rfl⟩ := List.getElem?_eq_some_iff.1 hu
  have := List.pairwise_iff_getElem.1 h j (j + 1) (by simpa using h1) (by simpa using h2) (by omega)
  simp only [List.getElem_map] at this
  exact hge this
set_option maxRecDepth 100000 in
set_option maxHeartbeats 16000000 in
theorem even_any (A : Option Addr) (c : Nat) (l : List Up) (w : World) (hl : Ups w w.heap.size A l) (hok : ∀ u ∈ l, UOk u) (hn : l.length ≤ 1099511627776) :
    Calls Try.prog 11 #[.slice A l.length c] w (Tells (EvenP l) w) := by
  have HL := Lib.hid (And.intro hl hok)
  clear hl hok
  go_enter Try.func11, Try.ntmps11
  go_wp2_with fail
  go_loopw [7] (fun v7 wr => ∃ j : Nat, v7 = .int .i64 (j : Int) ∧ j ≤ l.length ∧ Below w.heap.size w wr ∧ (∀ u ∈ l.take j, u.d ≠ 0) ∧ Srt Uk.cmp ((l.take j).map Up.p)) (fun v7 _ => l.length - (intOf v7).toNat)
  case atStart => exact ⟨0, rfl, by omega, Below.refl _ _, fun u hu => (by cases hu), List.Pairwise.nil⟩
  case round =>
    obtain ⟨j, rfl, hj, hbj, hnz, hsrt⟩ := hrel
    obtain ⟨wi, hwi⟩ : ∃ wi, wi = wr := ⟨_, rfl⟩
    subst hwi
    by_cases hjt : j < l.length
    · have hy : l[j]? = some l[j] := List.getElem?_eq_getElem hjt
      have hym := List.mem_of_getElem? hy
      generalize l[j] = u at *
      obtain ⟨b, o, rfl, hB, hys⟩ := lies_up HL.out.1.head (by omega)
      obtain ⟨e0, e1, e2, e3, e4, e5⟩ := ((hys j u hy).past_ hbj hB).six
      obtain ⟨V, hV, hvb, hvs, hvo⟩ := upbox wi u
      have hbV := hbj.trans (hvb.mono hbj.size)
      have hX := fun p : Past V => own6 (hvo.past p.h hvo.inside)
      have hnz2 : u.d ≠ 0 → ∀ x ∈ l.take (j + 1), x.d ≠ 0 := fun h x hx => by
        rw [List.take_add_one, hy] at hx
        rcases List.mem_append.1 hx with hx | hx
        · exact hnz x hx
        · obtain rfl : x = u := by simpa using hx
          exact h
      have HJ := Lib.hid (And.intro hbV (And.intro hy (And.intro hym (And.intro hnz2 hsrt))))
      have q0 : (0 : Int) ≤ (j : Int) := by omega
      have q1 : (j : Int) < (l.length : Int) := by omega
      have q2 : decide ((j : Int) < (l.length : Int)) = true := decide_eq_true q1
      by_cases hd : u.d = 0
      · have t1 : (u.d == 0) = true := beq_iff_eq.2 hd
        have HN := Lib.hid (fun h : EvenP l => h.1 u hym hd)
        clear hy hym hbj hnz hsrt hvb hvs hbV hnz2 hvo hd
        go_upto_region 4 with fail
        rw [← hV]
        clear hV e0 e1 e2 e3 e4 e5
        refine wp_region_past V (by kernel_rfl) (by kernel_rfl) (Below.refl _ _) ?_
        repeat (first | go_big_quiet_step (fail) | quiet_step (fail))
        refine wpQuiet_nil ?_
        intro wz hw'
        obtain ⟨⟨wy, hbz⟩, hw''⟩ := hw'
        dsimp only at hw''
        subst hw''
        have HZ := Lib.hid (HJ.out.1.trans (hbz.mono HJ.out.1.size))
        clear hbz
        go_wp2_with fail
        go_ret
        exact ⟨false, rfl, by simp only [Bool.false_eq_true, false_iff]; exact HN.out, HZ.out⟩
      have t1 : (u.d == 0) = false := beq_eq_false_iff_ne.2 hd
      have HD := Lib.hid hd
      cases j with
      | zero =>
        simp only [Nat.zero_mul, Nat.add_zero] at e0 e1 e2 e3 e4 e5
        have q3 : decide ((0 : Int) < ((0 : Nat) : Int)) = false := by decide
        clear hy hym hbj hnz hsrt hvb hvs hbV hnz2 hvo hd
        go_upto_region 4 with fail
        rw [← hV]
        clear hV e0 e1 e2 e3 e4 e5
        refine wp_region_past V (by kernel_rfl) (by kernel_rfl) (Below.refl _ _) ?_
        repeat (first | go_big_quiet_step (fail) | quiet_step (fail))
        refine wpQuiet_nil ?_
        intro wz hw'
        obtain ⟨⟨wy, hbz⟩, hw''⟩ := hw'
        dsimp only at hw''
        subst hw''
        have HZ := Lib.hid (HJ.out.1.trans (hbz.mono HJ.out.1.size))
        clear hbz
        go_wp2_with fail
        go_roundw
        case rel =>
          refine ⟨1, by go_num, by omega, HZ.out, HJ.out.2.2.2.1 HD.out, ?_⟩
          have : l.take (0 + 1) = [u] := by rw [List.take_add_one, HJ.out.2.1]; rfl
          rw [this]
          unfold Srt
          simp
        case measure => simp [intOf]; omega
      | succ i =>
        have hx : l[i]? = some (l[i]'(by omega)) := List.getElem?_eq_getElem _
        have hxm := List.mem_of_getElem? hx
        generalize (l[i]'(by omega)) = x at *
        have hxs := fun p : Past V => ((hys i x hx).past_ (hbV.trans (p.h.mono hbV.size)) hB).six
        have hin := fun (z : Up) (hz : z ∈ l) (p : Past V) => ((HL.out.1.each_ z hz).past (hbV.trans (p.h.mono hbV.size)) (Nat.le_refl _)).wide (Nat.le_trans hbV.size p.h.size)
        have u1 : ∀ p : Past V, Calls Try.prog 13 #[.agg #[.slice x.kA x.key.length x.kc, .slice x.rA x.row.length x.rc, .int .u64 (x.t.e : Int), .int .u64 (x.t.a : Int), .int .u64 (x.t.b : Int), .int .i64 x.d], .agg #[.slice u.kA u.key.length u.kc, .slice u.rA u.row.length u.rc, .int .u64 (u.t.e : Int), .int .u64 (u.t.a : Int), .int .u64 (u.t.b : Int), .int .i64 u.d]] p.w fun e w'' => e = .returned (.int .i64 (x.k.cmp u.k)) ∧ ∃ q : Past V, w'' = q.w := fun p =>
          calls_past ((dcompare_gr x u p.w (hin x hxm p) (hin u hym p) (HL.out.2 x hxm) (HL.out.2 u hym)).mono fun e w' h => ⟨h.1, h.2.below⟩)
        obtain ⟨r, hr⟩ : ∃ r, x.k.cmp u.k = r := ⟨_, rfl⟩
        rw [hr] at u1
        have HX := Lib.hid (And.intro hx hr)
        have q3 : (0 : Int) ≤ (i : Int) := by omega
        have q4 : (i : Int) < (l.length : Int) := by omega
        have q5 : decide (((i + 1 : Nat) : Int) > 0) = true := decide_eq_true (by omega)
        have q5' : decide ((0 : Int) < (i : Int) + 1) = true := decide_eq_true (by omega)
        by_cases hr0 : r < 0
        · have t2 : decide (r ≥ 0) = false := decide_eq_false (by omega)
          have t2' : decide (0 ≤ r) = false := decide_eq_false (by omega)
          have HR0 := Lib.hid hr0
          clear hy hym hbj hnz hsrt hvb hvs hbV hnz2 hvo hd hx hxm hr hin hr0
          go_upto_region 4 with fail
          rw [← hV]
          clear hV e0 e1 e2 e3 e4 e5
          refine wp_region_past V (by kernel_rfl) (by kernel_rfl) (Below.refl _ _) ?_
          repeat (first | go_big_quiet_step (fail) | quiet_step (fail))
          quiet_step ((go_at_call 13; exact u1 _))
          repeat (first | go_big_quiet_step (fail) | quiet_step (fail))
          refine wpQuiet_nil ?_
          intro wz hw'
          obtain ⟨⟨wy, hbz⟩, hw''⟩ := hw'
          dsimp only at hw''
          subst hw''
          have HZ := Lib.hid (HJ.out.1.trans (hbz.mono HJ.out.1.size))
          clear hbz
          go_wp2_with fail
          go_roundw
          case rel => exact ⟨i + 1 + 1, by go_num, by omega, HZ.out, HJ.out.2.2.2.1 HD.out, srt_more HJ.out.2.2.2.2 HX.out.1 HJ.out.2.1 (by rw [HX.out.2]; exact HR0.out)⟩
          case measure => simp [intOf]; omega
        · have t2 : decide (r ≥ 0) = true := decide_eq_true (by omega)
          have t2' : decide (0 ≤ r) = true := decide_eq_true (by omega)
          have HR0 := Lib.hid hr0
          clear hy hym hbj hnz hsrt hvb hvs hbV hnz2 hvo hd hx hxm hr hin hr0
          go_upto_region 4 with fail
          rw [← hV]
          clear hV e0 e1 e2 e3 e4 e5
          refine wp_region_past V (by kernel_rfl) (by kernel_rfl) (Below.refl _ _) ?_
          repeat (first | go_big_quiet_step (fail) | quiet_step (fail))
          quiet_step ((go_at_call 13; exact u1 _))
          repeat (first | go_big_quiet_step (fail) | quiet_step (fail))
          refine wpQuiet_nil ?_
          intro wz hw'
          obtain ⟨⟨wy, hbz⟩, hw''⟩ := hw'
          dsimp only at hw''
          subst hw''
          have HZ := Lib.hid (HJ.out.1.trans (hbz.mono HJ.out.1.size))
          clear hbz
          go_wp2_with fail
          go_ret
          exact ⟨false, rfl, by simp only [Bool.false_eq_true, false_iff]; exact fun h => srt_not HX.out.1 HJ.out.2.1 (by rw [HX.out.2]; have := HR0.out; omega) h.2.1, HZ.out⟩
    · have hj2 : j = l.length := by omega
      have q2 : decide ((j : Int) < (l.length : Int)) = false := decide_eq_false (by omega)
      rw [hj2, List.take_length] at hnz hsrt
      have hcall := Lib.hid (dcheck_any A c l wi ((HL.out.1.past hbj (Nat.le_refl _)).wide hbj.size) (by omega) HL.out.2)
      obtain ⟨K, hK⟩ : ∃ K, chkUs l = K := ⟨_, rfl⟩
      rw [hK] at hcall
      have HJ := Lib.hid (And.intro hbj (And.intro hnz (And.intro hsrt hK)))
      clear hbj hnz hsrt hK
      go_wp2_with fail
      refine hcall.out.mono ?_
      rintro _ w9 ⟨rfl, b9⟩
      have H9 := Lib.hid (HJ.out.1.trans (b9.mono HJ.out.1.size))
      clear b9 hcall
      go_wp2_with fail
      go_ret
      exact ⟨K == 0, rfl, ⟨fun h => ⟨HJ.out.2.1, HJ.out.2.2.1, HJ.out.2.2.2.trans (beq_iff_eq.1 h)⟩, fun h => beq_iff_eq.2 (HJ.out.2.2.2.symm.trans h.2.2)⟩, H9.out⟩
end Go.Proofs.Ytbccdmpnojdldaa
namespace Go.Proofs.Ytbccdmpnojdldaa
open Go Go.RowKit

set_option maxRecDepth 100000 in
set_option maxHeartbeats 3200000 in
theorem rcompare_any (a b : Up) (w : World) (ha : UIn w w.heap.size a) (hb : UIn w w.heap.size b) (oa : UOk a) (ob : UOk b) :
    Calls Try.prog 14 #[a.val, b.val] w fun e w' => e = .returned (.int .i64 (a.k.cmp b.k)) ∧ Below w.heap.size w w' := by
  have y1 := fun W h1 h2 => Lib.hid (refRows_any a.kA b.kA a.kc b.kc a.key b.key W h1 h2 (maxn oa.kn) (maxn ob.kn))
  have y2 := fun W h1 h2 => Lib.hid (refRows_any a.rA b.rA a.rc b.rc a.row b.row W h1 h2 (maxn oa.rn) (maxn ob.rn))
  have y3 := fun W => Lib.hid (refCompare_any a.t b.t W)
  have hc := Lib.hid (show a.k.cmp b.k = if cmpRows a.key b.key = 0 then (if cmpRows a.row b.row = 0 then a.t.cmp b.t else cmpRows a.row b.row) else cmpRows a.key b.key from rfl)
  obtain ⟨W, hW, hg, o1, o2⟩ := two_box w a b
  have HB := Lib.hid (And.intro hg.below (And.intro o1 (And.intro o2 (And.intro (ha.keep hg.below) (hb.keep hg.below)))))
  obtain ⟨a0, a1, a2, a3, a4, a5⟩ := own6 o1
  obtain ⟨b0, b1, b2, b3, b4, b5⟩ := own6 o2
  generalize cmpRows a.key b.key = x at *
  generalize cmpRows a.row b.row = y at *
  generalize a.t.cmp b.t = z at *
  unfold Tm.val at y3
  have hav : a.val = .agg #[.slice a.kA a.key.length a.kc, .slice a.rA a.row.length a.rc, .int .u64 (a.t.e : Int), .int .u64 (a.t.a : Int), .int .u64 (a.t.b : Int), .int .i64 a.d] := rfl
  have hbv : b.val = .agg #[.slice b.kA b.key.length b.kc, .slice b.rA b.row.length b.rc, .int .u64 (b.t.e : Int), .int .u64 (b.t.a : Int), .int .u64 (b.t.b : Int), .int .i64 b.d] := rfl
  rw [hav, hbv]
  clear hav hbv ha hb oa ob hg o1 o2
  go_enter Try.func14, Try.ntmps14
  go_upto_region 1 with fail
  rw [← hW]
  clear hW
  go_wp2_with fail
  refine (y1 _ HB.out.2.2.2.1.key HB.out.2.2.2.2.key).out.mono ?_
  rintro _ w1 ⟨rfl, g1⟩
  have H1 := Lib.hid (And.intro (HB.out.1.trans (g1.mono HB.out.1.size)) (And.intro (HB.out.2.1.past g1 HB.out.2.1.inside) (And.intro (HB.out.2.2.1.past g1 HB.out.2.2.1.inside) (And.intro (HB.out.2.2.2.1.keep g1) (HB.out.2.2.2.2.keep g1)))))
  clear g1 a0 a1 a2 a3 a4 a5 b0 b1 b2 b3 b4 b5 y1
  obtain ⟨a0, a1, a2, a3, a4, a5⟩ := own6 H1.out.2.1
  obtain ⟨b0, b1, b2, b3, b4, b5⟩ := own6 H1.out.2.2.1
  by_cases hx : x = 0
  case neg =>
    have t1 : (x == 0) = false := beq_eq_false_iff_ne.2 hx
    rw [if_neg hx] at hc
    clear hx
    go_wp2_with fail
    go_ret
    exact ⟨ret_i64 hc.out.symm, H1.out.1⟩
  rw [if_pos hx] at hc
  subst hx
  go_wp2_with fail
  refine (y2 _ H1.out.2.2.2.1.row H1.out.2.2.2.2.row).out.mono ?_
  rintro _ w2 ⟨rfl, g2⟩
  have H2 := Lib.hid (And.intro (H1.out.1.trans (g2.mono H1.out.1.size)) (And.intro (H1.out.2.1.past g2 H1.out.2.1.inside) (H1.out.2.2.1.past g2 H1.out.2.2.1.inside)))
  clear g2 a0 a1 a2 a3 a4 a5 b0 b1 b2 b3 b4 b5 y2
  obtain ⟨a0, a1, a2, a3, a4, a5⟩ := own6 H2.out.2.1
  obtain ⟨b0, b1, b2, b3, b4, b5⟩ := own6 H2.out.2.2
  by_cases hy : y = 0
  case neg =>
    have t1 : (y == 0) = false := beq_eq_false_iff_ne.2 hy
    rw [if_neg hy] at hc
    clear hy
    go_wp2_with fail
    go_ret
    exact ⟨ret_i64 hc.out.symm, H2.out.1⟩
  rw [if_pos hy] at hc
  subst hy
  go_wp2_with fail
  refine (y3 _).out.mono ?_
  rintro _ w3 ⟨rfl, g3⟩
  have H3 := Lib.hid (H2.out.1.trans (g3.mono H2.out.1.size))
  clear g3
  go_wp2_with fail
  go_ret
  exact ⟨ret_i64 hc.out.symm, H3.out⟩
/-- a slice of two rows -/
theorem rows_box (w : World) (u : Up) (hu : UIn w w.heap.size u) : ∃ V, V = w.alloc (.cells #[.slice u.kA u.key.length u.kc, .slice u.rA u.row.length u.rc] 32) ∧ Below w.heap.size w V ∧ V.cell? ⟨w.heap.size, 0, none⟩ = some (.slice u.kA u.key.length u.kc) ∧ V.cell? ⟨w.heap.size, 1, none⟩ = some (.slice u.rA u.row.length u.rc) ∧ UIn V V.heap.size u ∧ w.heap.size < V.heap.size := by
  have ho := Own.made w 32 [.slice u.kA u.key.length u.kc, .slice u.rA u.row.length u.rc]
  exact ⟨_, rfl, (Below.refl _ _).alloc (Nat.le_refl _) _, ho.at_ 0, ho.at_ 1, hu.keep ((Below.refl _ _).alloc (Nat.le_refl _) _), by simp⟩
theorem chkRow_four {l : List Vl} (h : chkRow l ≠ 0) : chkRow l = 4 := by
  unfold chkRow at *
  split at h
  · exact absurd rfl h
  · rename_i h1; rw [if_neg h1]
set_option maxRecDepth 100000 in
set_option maxHeartbeats 6400000 in
theorem rcheck_any (A : Option Addr) (c : Nat) (l : List Up) (w : World) (hl : Ups w w.heap.size A l) (hn : l.length ≤ 140737488351232) (hk : ∀ u ∈ l, UOk u) :
    Calls Try.prog 10 #[.slice A l.length c] w fun x w' => x = .returned (.int .i64 (chkUs l)) ∧ Below w.heap.size w w' := by
  have HL := Lib.hid (And.intro hl hk)
  clear hl hk
  go_enter Try.func10, Try.ntmps10
  go_wp2_with fail
  go_loopw [10] (fun i wr => ∃ k : Nat, i = .int .i64 (k : Int) ∧ k ≤ l.length ∧ Below w.heap.size w wr ∧ chkUs (l.take k) = 0) (fun i _ => l.length - (intOf i).toNat)
  case atStart => exact ⟨0, rfl, by omega, Below.refl _ _, rfl⟩
  case round =>
    obtain ⟨k, rfl, hk, hb, h0⟩ := hrel
    obtain ⟨wi, hwi⟩ : ∃ wi, wi = wr := ⟨_, rfl⟩
    subst hwi
    by_cases hlt : k < l.length
    · have hx : l[k]? = some l[k] := List.getElem?_eq_getElem hlt
      have hmem := List.mem_of_getElem? hx
      obtain ⟨b, o, rfl, hB, hxs⟩ := lies_up HL.out.1.head (by omega)
      have hxa := (hxs k _ hx).past_ hb hB
      have hin := ((HL.out.1.each_ _ hmem).past hb (Nat.le_refl _)).wide hb.size
      have hok := HL.out.2 _ hmem
      have hnx := chkUs_take hx h0
      have hbad := fun h => chkUs_bad hx h0 h
      generalize l[k] = u at *
      obtain ⟨c0, c1, c2, c3, c4, c5⟩ := hxa.six
      obtain ⟨V, hV, hvb, hvs, hvo⟩ := upbox wi u
      obtain ⟨V2, hV2, hvb2, g0, g1, hin2, hlt2⟩ := rows_box V u (hin.keep hvb)
      have hcu : chkU u = orI (chkRow u.key) (orI (chkRow u.row) (chk [u.t])) := rfl
      have y1 := fun W (h : Below V2.heap.size V2 W) => Lib.hid (vrefCheck_any u.kA u.kc u.key W (hin2.keep h).key (maxn hok.kn) (fun v hv => (hok.ks v hv).1))
      have y2 := fun W (h : Below V2.heap.size V2 W) => Lib.hid (vrefCheck_any u.rA u.rc u.row W (hin2.keep h).row (maxn hok.rn) (fun v hv => (hok.rs v hv).1))
      have HV := Lib.hid (And.intro (hb.trans ((hvb.trans (hvb2.mono hvb.size)).mono hb.size)) (And.intro (hvo.past hvb2 hvo.inside) (And.intro hnx (And.intro hbad (And.intro g0 (And.intro g1 (And.intro hcu (And.intro (chkRow_four (l := u.key)) (And.intro (chkRow_four (l := u.row)) (And.intro hlt2 hvs))))))))))
      obtain ⟨d0, d1, d2, d3, d4, d5⟩ := own6 hvo
      have q0 : (0 : Int) ≤ (k : Int) := by omega
      have q1 : (k : Int) < (l.length : Int) := by omega
      have q2 : decide ((k : Int) < (l.length : Int)) = true := decide_eq_true q1
      obtain ⟨K, hK⟩ : ∃ K, chkRow u.key = K := ⟨_, rfl⟩
      obtain ⟨R, hR⟩ : ∃ R, chkRow u.row = R := ⟨_, rfl⟩
      simp only [hK] at y1
      simp only [hR] at y2
      have HK := Lib.hid (And.intro hK hR)
      clear hx hmem hxs hxa hin hok hnx hbad hvb hvb2 hvo hin2 hb h0 hvs hcu g0 g1 hlt2 hK hR
      go_upto_region 4 with fail
      rw [← hV]
      clear hV c0 c1 c2 c3 c4 c5
      go_wp2_with fail
      rw [← hV2]
      clear hV2 d0 d1 d2 d3 d4 d5
      go_loopw [20] (fun v20 wx => ∃ i : Nat, v20 = .int .i64 (i : Int) ∧ i ≤ 2 ∧ Below V2.heap.size V2 wx ∧ (1 ≤ i → K = 0) ∧ (2 ≤ i → R = 0)) (fun v20 _ => 2 - (intOf v20).toNat)
      case atStart => exact ⟨0, rfl, by omega, Below.refl _ _, fun h => (by omega), fun h => (by omega)⟩
      case round =>
        obtain ⟨i, rfl, hi, hbi, hi1, hi2⟩ := hrel
        obtain ⟨wj, hwj⟩ : ∃ wj, wj = wr := ⟨_, rfl⟩
        subst hwj
        have g0 := (hbi.cell (p := ⟨V.heap.size, 0, none⟩) HV.out.2.2.2.2.2.2.2.2.2.1).trans HV.out.2.2.2.2.1
        have g1 := (hbi.cell (p := ⟨V.heap.size, 1, none⟩) HV.out.2.2.2.2.2.2.2.2.2.1).trans HV.out.2.2.2.2.2.1
        match i, hi, hi1, hi2 with
        | 0, _, _, _ =>
          have hcall := y1 wj hbi
          have HJ := Lib.hid hbi
          clear hbi
          go_wp2_with fail
          refine hcall.out.mono ?_
          rintro _ w1 ⟨rfl, b1⟩
          have H1 := Lib.hid (HJ.out.trans (b1.mono HJ.out.size))
          clear b1 hcall g0 g1
          by_cases hz : K = 0
          · have t1 : (K != 0) = false := by simp [hz]
            have HZ := Lib.hid hz
            clear hz
            go_wp2_with fail
            go_roundw
            case rel => exact ⟨1, rfl, by omega, H1.out, fun _ => HZ.out, fun h => (by omega)⟩
            case measure => simp [intOf]
          · have t1 : (K != 0) = true := bne_iff_ne.2 hz
            have h4 := HV.out.2.2.2.2.2.2.2.1 (by rw [HK.out.1]; exact hz)
            have hcu : chkU u = 4 := by rw [HV.out.2.2.2.2.2.2.1]; unfold orI; rw [if_neg (by rw [HK.out.1]; exact hz)]; exact h4
            have hr := Lib.hid ((HV.out.2.2.2.1 (by rw [hcu]; decide)).trans hcu)
            clear hz h4 hcu
            go_wp2_with fail
            go_ret
            exact ⟨ret_i64 hr.out.symm, HV.out.1.trans (H1.out.mono HV.out.1.size)⟩
        | 1, _, hi1, _ =>
          have hK0 := Lib.hid (hi1 (by omega))
          have hcall := y2 wj hbi
          have HJ := Lib.hid hbi
          clear hbi hi1
          go_wp2_with fail
          refine hcall.out.mono ?_
          rintro _ w1 ⟨rfl, b1⟩
          have H1 := Lib.hid (HJ.out.trans (b1.mono HJ.out.size))
          clear b1 hcall g0 g1
          by_cases hz : R = 0
          · have t1 : (R != 0) = false := by simp [hz]
            have HZ := Lib.hid hz
            clear hz
            go_wp2_with fail
            go_roundw
            case rel => exact ⟨2, rfl, by omega, H1.out, fun _ => hK0.out, fun _ => HZ.out⟩
            case measure => simp [intOf]
          · have t1 : (R != 0) = true := bne_iff_ne.2 hz
            have h4 := HV.out.2.2.2.2.2.2.2.2.1 (by rw [HK.out.2]; exact hz)
            have hcu : chkU u = 4 := by rw [HV.out.2.2.2.2.2.2.1]; unfold orI; rw [if_pos (HK.out.1.trans hK0.out), if_neg (by rw [HK.out.2]; exact hz)]; exact h4
            have hr := Lib.hid ((HV.out.2.2.2.1 (by rw [hcu]; decide)).trans hcu)
            clear hz h4 hcu
            go_wp2_with fail
            go_ret
            exact ⟨ret_i64 hr.out.symm, HV.out.1.trans (H1.out.mono HV.out.1.size)⟩
        | 2, _, hi1, hi2 =>
          have hcu : chkU u = chk [u.t] := by rw [HV.out.2.2.2.2.2.2.1]; unfold orI; rw [if_pos (HK.out.1.trans (hi1 (by omega))), if_pos (HK.out.2.trans (hi2 (by omega)))]
          have hvo := HV.out.2.1.past hbi HV.out.2.1.inside
          have htm := times_made wj u.t
          have hcall := Lib.hid (refCheck_any (some ⟨wj.heap.size, 0, none⟩) 1 [u.t] _ htm (by unfold maxLen; simp))
          have HJ := Lib.hid (And.intro (hbi.alloc hbi.size (.cells #[.int .u64 (u.t.e : Int), .int .u64 (u.t.a : Int), .int .u64 (u.t.b : Int)] 36)) hcu)
          obtain ⟨d0, d1, d2, d3, d4, d5⟩ := own6 hvo
          obtain ⟨Q, hQ⟩ : ∃ Q, chk [u.t] = Q := ⟨_, rfl⟩
          rw [hQ] at hcall
          have HQ := Lib.hid hQ
          clear hbi hvo htm hcu hi1 hi2 g0 g1 hQ
          go_wp2_with fail
          refine hcall.out.mono ?_
          rintro _ w1 ⟨rfl, b1⟩
          have H1 := Lib.hid (HJ.out.1.trans (b1.mono HJ.out.1.size))
          clear b1 hcall d0 d1 d2 d3 d4 d5
          by_cases hz : Q = 0
          · have t1 : (Q != 0) = false := by simp [hz]
            have HZ := Lib.hid hz
            clear hz
            go_wp2_with fail
            go_roundw
            case rel => exact ⟨k + 1, by go_num, by omega, HV.out.1.trans (H1.out.mono HV.out.1.size), by rw [HV.out.2.2.1, HJ.out.2, HQ.out, HZ.out]⟩
            case measure => simp [intOf]; omega
          · have t1 : (Q != 0) = true := bne_iff_ne.2 hz
            have hr := Lib.hid ((HV.out.2.2.2.1 (by rw [HJ.out.2, HQ.out]; exact hz)).trans (HJ.out.2.trans HQ.out))
            clear hz
            go_wp2_with fail
            go_ret
            exact ⟨ret_i64 hr.out.symm, HV.out.1.trans (H1.out.mono HV.out.1.size)⟩
        | i + 3, hi, _, _ => omega
    · have hk2 : k = l.length := by omega
      subst hk2
      rw [List.take_length] at h0
      have q2 : decide ((l.length : Int) < (l.length : Int)) = false := decide_eq_false (by omega)
      have HX := Lib.hid (And.intro h0 hb)
      clear h0 hb
      go_wp2_with fail
      go_ret
      exact ⟨ret_i64 HX.out.1.symm, HX.out.2⟩
end Go.Proofs.Ytbccdmpnojdldaa
namespace Go.Proofs.Ytbccdmpnojdldaa
open Go Go.RowKit

set_option maxRecDepth 100000 in
set_option maxHeartbeats 16000000 in
theorem reven_any (A : Option Addr) (c : Nat) (l : List Up) (w : World) (hl : Ups w w.heap.size A l) (hok : ∀ u ∈ l, UOk u) (hn : l.length ≤ 1099511627776) :
    Calls Try.prog 12 #[.slice A l.length c] w (Tells (EvenP l) w) := by
  have HL := Lib.hid (And.intro hl hok)
  clear hl hok
  go_enter Try.func12, Try.ntmps12
  go_wp2_with fail
  go_loopw [7] (fun v7 wr => ∃ j : Nat, v7 = .int .i64 (j : Int) ∧ j ≤ l.length ∧ Below w.heap.size w wr ∧ (∀ u ∈ l.take j, u.d ≠ 0) ∧ Srt Uk.cmp ((l.take j).map Up.p)) (fun v7 _ => l.length - (intOf v7).toNat)
  case atStart => exact ⟨0, rfl, by omega, Below.refl _ _, fun u hu => (by cases hu), List.Pairwise.nil⟩
  case round =>
    obtain ⟨j, rfl, hj, hbj, hnz, hsrt⟩ := hrel
    obtain ⟨wi, hwi⟩ : ∃ wi, wi = wr := ⟨_, rfl⟩
    subst hwi
    by_cases hjt : j < l.length
    · have hy : l[j]? = some l[j] := List.getElem?_eq_getElem hjt
      have hym := List.mem_of_getElem? hy
      generalize l[j] = u at *
      obtain ⟨b, o, rfl, hB, hys⟩ := lies_up HL.out.1.head (by omega)
      obtain ⟨e0, e1, e2, e3, e4, e5⟩ := ((hys j u hy).past_ hbj hB).six
      obtain ⟨V, hV, hvb, hvs, hvo⟩ := upbox wi u
      have hbV := hbj.trans (hvb.mono hbj.size)
      have hX := fun p : Past V => own6 (hvo.past p.h hvo.inside)
      have hnz2 : u.d ≠ 0 → ∀ x ∈ l.take (j + 1), x.d ≠ 0 := fun h x hx => by
        rw [List.take_add_one, hy] at hx
        rcases List.mem_append.1 hx with hx | hx
        · exact hnz x hx
        · obtain rfl : x = u := by simpa using hx
          exact h
      have HJ := Lib.hid (And.intro hbV (And.intro hy (And.intro hym (And.intro hnz2 hsrt))))
      have q0 : (0 : Int) ≤ (j : Int) := by omega
      have q1 : (j : Int) < (l.length : Int) := by omega
      have q2 : decide ((j : Int) < (l.length : Int)) = true := decide_eq_true q1
      by_cases hd : u.d = 0
      · have t1 : (u.d == 0) = true := beq_iff_eq.2 hd
        have HN := Lib.hid (fun h : EvenP l => h.1 u hym hd)
        clear hy hym hbj hnz hsrt hvb hvs hbV hnz2 hvo hd
        go_upto_region 4 with fail
        rw [← hV]
        clear hV e0 e1 e2 e3 e4 e5
        refine wp_region_past V (by kernel_rfl) (by kernel_rfl) (Below.refl _ _) ?_
        repeat (first | go_big_quiet_step (fail) | quiet_step (fail))
        refine wpQuiet_nil ?_
        intro wz hw'
        obtain ⟨⟨wy, hbz⟩, hw''⟩ := hw'
        dsimp only at hw''
        subst hw''
        have HZ := Lib.hid (HJ.out.1.trans (hbz.mono HJ.out.1.size))
        clear hbz
        go_wp2_with fail
        go_ret
        exact ⟨false, rfl, by simp only [Bool.false_eq_true, false_iff]; exact HN.out, HZ.out⟩
      have t1 : (u.d == 0) = false := beq_eq_false_iff_ne.2 hd
      have HD := Lib.hid hd
      cases j with
      | zero =>
        simp only [Nat.zero_mul, Nat.add_zero] at e0 e1 e2 e3 e4 e5
        have q3 : decide ((0 : Int) < ((0 : Nat) : Int)) = false := by decide
        clear hy hym hbj hnz hsrt hvb hvs hbV hnz2 hvo hd
        go_upto_region 4 with fail
        rw [← hV]
        clear hV e0 e1 e2 e3 e4 e5
        refine wp_region_past V (by kernel_rfl) (by kernel_rfl) (Below.refl _ _) ?_
        repeat (first | go_big_quiet_step (fail) | quiet_step (fail))
        refine wpQuiet_nil ?_
        intro wz hw'
        obtain ⟨⟨wy, hbz⟩, hw''⟩ := hw'
        dsimp only at hw''
        subst hw''
        have HZ := Lib.hid (HJ.out.1.trans (hbz.mono HJ.out.1.size))
        clear hbz
        go_wp2_with fail
        go_roundw
        case rel =>
          refine ⟨1, by go_num, by omega, HZ.out, HJ.out.2.2.2.1 HD.out, ?_⟩
          have : l.take (0 + 1) = [u] := by rw [List.take_add_one, HJ.out.2.1]; rfl
          rw [this]
          unfold Srt
          simp
        case measure => simp [intOf]; omega
      | succ i =>
        have hx : l[i]? = some (l[i]'(by omega)) := List.getElem?_eq_getElem _
        have hxm := List.mem_of_getElem? hx
        generalize (l[i]'(by omega)) = x at *
        have hxs := fun p : Past V => ((hys i x hx).past_ (hbV.trans (p.h.mono hbV.size)) hB).six
        have hin := fun (z : Up) (hz : z ∈ l) (p : Past V) => ((HL.out.1.each_ z hz).past (hbV.trans (p.h.mono hbV.size)) (Nat.le_refl _)).wide (Nat.le_trans hbV.size p.h.size)
        have u1 : ∀ p : Past V, Calls Try.prog 14 #[.agg #[.slice x.kA x.key.length x.kc, .slice x.rA x.row.length x.rc, .int .u64 (x.t.e : Int), .int .u64 (x.t.a : Int), .int .u64 (x.t.b : Int), .int .i64 x.d], .agg #[.slice u.kA u.key.length u.kc, .slice u.rA u.row.length u.rc, .int .u64 (u.t.e : Int), .int .u64 (u.t.a : Int), .int .u64 (u.t.b : Int), .int .i64 u.d]] p.w fun e w'' => e = .returned (.int .i64 (x.k.cmp u.k)) ∧ ∃ q : Past V, w'' = q.w := fun p =>
          calls_past ((rcompare_any x u p.w (hin x hxm p) (hin u hym p) (HL.out.2 x hxm) (HL.out.2 u hym)).mono fun e w' h => ⟨h.1, h.2⟩)
        obtain ⟨r, hr⟩ : ∃ r, x.k.cmp u.k = r := ⟨_, rfl⟩
        rw [hr] at u1
        have HX := Lib.hid (And.intro hx hr)
        have q3 : (0 : Int) ≤ (i : Int) := by omega
        have q4 : (i : Int) < (l.length : Int) := by omega
        have q5 : decide (((i + 1 : Nat) : Int) > 0) = true := decide_eq_true (by omega)
        have q5' : decide ((0 : Int) < (i : Int) + 1) = true := decide_eq_true (by omega)
        by_cases hr0 : r < 0
        · have t2 : decide (r ≥ 0) = false := decide_eq_false (by omega)
          have t2' : decide (0 ≤ r) = false := decide_eq_false (by omega)
          have HR0 := Lib.hid hr0
          clear hy hym hbj hnz hsrt hvb hvs hbV hnz2 hvo hd hx hxm hr hin hr0
          go_upto_region 4 with fail
          rw [← hV]
          clear hV e0 e1 e2 e3 e4 e5
          refine wp_region_past V (by kernel_rfl) (by kernel_rfl) (Below.refl _ _) ?_
          repeat (first | go_big_quiet_step (fail) | quiet_step (fail))
          quiet_step ((go_at_call 14; exact u1 _))
          repeat (first | go_big_quiet_step (fail) | quiet_step (fail))
          refine wpQuiet_nil ?_
          intro wz hw'
          obtain ⟨⟨wy, hbz⟩, hw''⟩ := hw'
          dsimp only at hw''
          subst hw''
          have HZ := Lib.hid (HJ.out.1.trans (hbz.mono HJ.out.1.size))
          clear hbz
          go_wp2_with fail
          go_roundw
          case rel => exact ⟨i + 1 + 1, by go_num, by omega, HZ.out, HJ.out.2.2.2.1 HD.out, srt_more HJ.out.2.2.2.2 HX.out.1 HJ.out.2.1 (by rw [HX.out.2]; exact HR0.out)⟩
          case measure => simp [intOf]; omega
        · have t2 : decide (r ≥ 0) = true := decide_eq_true (by omega)
          have t2' : decide (0 ≤ r) = true := decide_eq_true (by omega)
          have HR0 := Lib.hid hr0
          clear hy hym hbj hnz hsrt hvb hvs hbV hnz2 hvo hd hx hxm hr hin hr0
          go_upto_region 4 with fail
          rw [← hV]
          clear hV e0 e1 e2 e3 e4 e5
          refine wp_region_past V (by kernel_rfl) (by kernel_rfl) (Below.refl _ _) ?_
          repeat (first | go_big_quiet_step (fail) | quiet_step (fail))
          quiet_step ((go_at_call 14; exact u1 _))
          repeat (first | go_big_quiet_step (fail) | quiet_step (fail))
          refine wpQuiet_nil ?_
          intro wz hw'
          obtain ⟨⟨wy, hbz⟩, hw''⟩ := hw'
          dsimp only at hw''
          subst hw''
          have HZ := Lib.hid (HJ.out.1.trans (hbz.mono HJ.out.1.size))
          clear hbz
          go_wp2_with fail
          go_ret
          exact ⟨false, rfl, by simp only [Bool.false_eq_true, false_iff]; exact fun h => srt_not HX.out.1 HJ.out.2.1 (by rw [HX.out.2]; have := HR0.out; omega) h.2.1, HZ.out⟩
    · have hj2 : j = l.length := by omega
      have q2 : decide ((j : Int) < (l.length : Int)) = false := decide_eq_false (by omega)
      rw [hj2, List.take_length] at hnz hsrt
      have hcall := Lib.hid (rcheck_any A c l wi ((HL.out.1.past hbj (Nat.le_refl _)).wide hbj.size) (by omega) HL.out.2)
      obtain ⟨K, hK⟩ : ∃ K, chkUs l = K := ⟨_, rfl⟩
      rw [hK] at hcall
      have HJ := Lib.hid (And.intro hbj (And.intro hnz (And.intro hsrt hK)))
      clear hbj hnz hsrt hK
      go_wp2_with fail
      refine hcall.out.mono ?_
      rintro _ w9 ⟨rfl, b9⟩
      have H9 := Lib.hid (HJ.out.1.trans (b9.mono HJ.out.1.size))
      clear b9 hcall
      go_wp2_with fail
      go_ret
      exact ⟨K == 0, rfl, ⟨fun h => ⟨HJ.out.2.1, HJ.out.2.2.1, HJ.out.2.2.2.trans (beq_iff_eq.1 h)⟩, fun h => beq_iff_eq.2 (HJ.out.2.2.2.symm.trans h.2.2)⟩, H9.out⟩
end Go.Proofs.Ytbccdmpnojdldaa
namespace Go.Proofs.Ytbccdmpnojdldaa
open Go Go.RowKit

def vnum (n : Int) : Vl := ⟨false, n, ⟨#[]⟩⟩
theorem vals_num (w : World) (n : Int) : Vals (w.alloc (.cells #[.bool false, .int .i64 n, .string ⟨#[]⟩] 84)) (w.alloc (.cells #[.bool false, .int .i64 n, .string ⟨#[]⟩] 84)).heap.size (some ⟨w.heap.size, 0, none⟩) [vnum n] := fun _ => by
  have ho := Own.made w 84 [.bool false, .int .i64 n, .string ⟨#[]⟩]
  refine ⟨w.heap.size, 0, rfl, by simp, fun i x hx => ?_⟩
  match i, hx with
  | 0, hx =>
    obtain rfl : vnum n = x := by simpa using hx
    exact ⟨ho.at_ 0, ho.at_ 1, ho.at_ 2⟩
def lu (G : Nat) (n d : Int) (e : Nat) : Up := ⟨none, 0, [], some ⟨G, 0, none⟩, 1, [vnum n], ⟨e, 0, 0⟩, d⟩
theorem lu_in {w : World} {G : Nat} {n d : Int} {e : Nat} (h : Vals w w.heap.size (some ⟨G, 0, none⟩) [vnum n]) : UIn w w.heap.size (lu G n d e) := ⟨Vals.nil_, h⟩
theorem lu_ok {G : Nat} {n d : Int} {e : Nat} (hn : -9223372036854775808 ≤ n ∧ n ≤ 9223372036854775807) (hd : -9223372036854775808 ≤ d ∧ d ≤ 9223372036854775807) : UOk (lu G n d e) :=
  ⟨Nat.zero_le _, by show 1 ≤ 140737488351232; omega, fun v hv => (by cases hv), fun v hv => by
    obtain rfl : v = vnum n := by simpa [lu] using hv
    exact ⟨Nat.zero_le _, hn⟩, hd⟩
theorem ups_own {w : World} {G : Nat} {t : TypeId} {l : List Up} (h : Own w G t (l.flatMap Up.cells)) (hin : ∀ u ∈ l, UIn w w.heap.size u) : Ups w w.heap.size (some ⟨G, 0, none⟩) l :=
  ⟨fun _ => ⟨G, 0, rfl, h.inside, fun i x hi j u hj => by rw [show 0 + i * 6 + j = i * 6 + j by omega, h.at_]; exact flat_of (size := 6) (cells := Up.cells) (fun _ => rfl) l i j x u hi hj⟩, hin⟩
theorem rw_own {α : Type} {w : World} {G : Nat} {t : TypeId} {l : List (Rw α)} (h : Own w G t (l.flatMap Rw.cells)) : Lies 1 Rw.cells w w.heap.size (some ⟨G, 0, none⟩) l :=
  fun _ => ⟨G, 0, rfl, h.inside, fun i x hi j u hj => by rw [show 0 + i * 1 + j = i * 1 + j by omega, h.at_]; exact flat_of (size := 1) (cells := Rw.cells) (fun _ => rfl) l i j x u hi hj⟩
theorem boxd (w : World) (l : List Value) (t : TypeId) : ∃ W, W = w.alloc (.cells l.toArray t) ∧ W.heap.size = w.heap.size + 1 ∧ Below w.heap.size w W ∧ Own W w.heap.size t l :=
  ⟨_, rfl, by simp, (Below.refl _ _).alloc (Nat.le_refl _) _, Own.made w t l⟩
/-- two updates in a row of their own -/
theorem box_two (w : World) (G1 G2 : Nat) (n1 n2 d1 d2 : Int) (e : Nat) (ei : Int) (he : (e : Int) = ei) (h1 : Vals w w.heap.size (some ⟨G1, 0, none⟩) [vnum n1]) (h2 : Vals w w.heap.size (some ⟨G2, 0, none⟩) [vnum n2]) :
    ∃ V, V = w.alloc (.cells #[.slice none 0 0, .slice (some ⟨G1, 0, none⟩) 1 1, .int .u64 0, .int .u64 0, .int .u64 0, .int .i64 d1, .slice none 0 0, .slice (some ⟨G2, 0, none⟩) 1 1, .int .u64 ei, .int .u64 0, .int .u64 0, .int .i64 d2] 38) ∧ Below w.heap.size w V ∧ Ups V V.heap.size (some ⟨w.heap.size, 0, none⟩) [lu G1 n1 d1 0, lu G2 n2 d2 e] := by
  subst he
  obtain ⟨W, e1, s1, b1, o1⟩ := boxd w [.slice none 0 0, .slice (some ⟨G1, 0, none⟩) 1 1, .int .u64 0, .int .u64 0, .int .u64 0, .int .i64 d1, .slice none 0 0, .slice (some ⟨G2, 0, none⟩) 1 1, .int .u64 (e : Int), .int .u64 0, .int .u64 0, .int .i64 d2] 38
  refine ⟨W, e1, b1, ups_own (t := 38) (l := [lu G1 n1 d1 0, lu G2 n2 d2 e]) o1 fun u hu => ?_⟩
  rcases List.mem_cons.1 hu with rfl | hu
  · exact lu_in (vals_keep h1 b1)
  · obtain rfl : u = lu G2 n2 d2 e := by simpa using hu
    exact lu_in (vals_keep h2 b1)
theorem box_lists (w : World) (A1 G3 : Nat) (l1 : List Up) (hl : l1.length = 2) (n3 d3 : Int) (h1 : Ups w w.heap.size (some ⟨A1, 0, none⟩) l1) (h3 : Vals w w.heap.size (some ⟨G3, 0, none⟩) [vnum n3]) :
    ∃ V, V = (w.alloc (.cells #[.slice none 0 0, .slice (some ⟨G3, 0, none⟩) 1 1, .int .u64 0, .int .u64 0, .int .u64 0, .int .i64 d3] 38)).alloc (.cells #[.slice (some ⟨A1, 0, none⟩) 2 2, .slice (some ⟨w.heap.size, 0, none⟩) 1 1] 23) ∧ Below w.heap.size w V ∧
      ULs V V.heap.size (some ⟨w.heap.size + 1, 0, none⟩) [⟨some ⟨A1, 0, none⟩, 2, l1⟩, ⟨some ⟨w.heap.size, 0, none⟩, 1, [lu G3 n3 d3 0]⟩] := by
  obtain ⟨W1, e1, s1, b1, o1⟩ := boxd w [.slice none 0 0, .slice (some ⟨G3, 0, none⟩) 1 1, .int .u64 0, .int .u64 0, .int .u64 0, .int .i64 d3] 38
  obtain ⟨W2, e2, s2, b2, o2⟩ := boxd W1 [.slice (some ⟨A1, 0, none⟩) 2 2, .slice (some ⟨w.heap.size, 0, none⟩) 1 1] 23
  rw [s1] at o2
  have hu3 : Ups W1 W1.heap.size (some ⟨w.heap.size, 0, none⟩) [lu G3 n3 d3 0] := ups_own (t := 38) (l := [lu G3 n3 d3 0]) o1 fun u hu => by
    obtain rfl : u = lu G3 n3 d3 0 := by simpa using hu
    exact lu_in (vals_keep h3 b1)
  refine ⟨W2, by rw [e2, e1], belows b1 b2, rw_own (t := 23) (by simp only [List.flatMap_cons, List.flatMap_nil, Rw.cells, hl]; exact o2), fun s hs => ?_⟩
  rcases List.mem_cons.1 hs with rfl | hs
  · exact (h1.keep b1).keep b2
  · obtain rfl : s = ⟨some ⟨w.heap.size, 0, none⟩, 1, [lu G3 n3 d3 0]⟩ := by simpa using hs
    exact hu3.keep b2
theorem cons0 (G1 G2 G3 : Nat) : consL [[lu G1 2 2 0, lu G2 1 1 0], [lu G3 2 (-2) 0]] = [((⟨[], [vnum 1], ⟨0, 0, 0⟩⟩ : Uk), (1 : Int))] ∧ consE [[lu G1 2 2 0, lu G2 1 1 0], [lu G3 2 (-2) 0]] = 0 := ⟨by kernel_rfl, by kernel_rfl⟩
theorem at0 (G1 G2 : Nat) : atL [lu G1 1 3 0, lu G2 1 4 2] ⟨1, 0, 0⟩ = [([vnum 1], (3 : Int))] ∧ atE [lu G1 1 3 0, lu G2 1 4 2] ⟨1, 0, 0⟩ = 0 := ⟨by kernel_rfl, by kernel_rfl⟩
theorem even0 {l : List Up} (h : l.map Up.p = [((⟨[], [vnum 1], ⟨0, 0, 0⟩⟩ : Uk), (1 : Int))]) : EvenP l := by
  have hl : l.length = 1 := by have := congrArg List.length h; simpa using this
  obtain ⟨u, rfl⟩ := List.length_eq_one_iff.1 hl
  · have hp : u.p = ((⟨[], [vnum 1], ⟨0, 0, 0⟩⟩ : Uk), (1 : Int)) := by simpa using h
    have hk : u.k = ⟨[], [vnum 1], ⟨0, 0, 0⟩⟩ := congrArg Prod.fst hp
    have hd : u.d = 1 := congrArg Prod.snd hp
    refine ⟨fun x hx => ?_, by unfold Srt; simp, ?_⟩
    · obtain rfl : x = u := by simpa using hx
      rw [hd]; decide
    · simp only [chkUs]
      unfold chkU
      rw [hk]
      exact if_pos (by kernel_rfl)
end Go.Proofs.Ytbccdmpnojdldaa
namespace Go.Proofs.Ytbccdmpnojdldaa
open Go Go.RowKit

def Up.less (u : Up) : Up := { u with d := -u.d }
theorem less_k (u : Up) : u.less.k = u.k := rfl
def bothU (l : List Up) : List Up := l.flatMap fun u => if -9223372036854775807 < u.d then [u, u.less] else []
theorem both_next {l : List Up} {j : Nat} {u : Up} (h : l[j]? = some u) : bothU (l.take (j + 1)) = bothU (l.take j) ++ if -9223372036854775807 < u.d then [u, u.less] else [] := by
  unfold bothU
  rw [List.take_add_one, h, List.flatMap_append]
  simp
theorem both_len (l : List Up) : (bothU l).length ≤ 2 * l.length := by
  induction l with
  | nil => simp [bothU]
  | cons u l ih =>
    have : bothU (u :: l) = (if -9223372036854775807 < u.d then [u, u.less] else []) ++ bothU l := by unfold bothU; rw [List.flatMap_cons]
    rw [this, List.length_append, List.length_cons]
    have : (if -9223372036854775807 < u.d then [u, u.less] else []).length ≤ 2 := by split <;> simp
    omega
theorem both_sum (l : List Up) (k : Uk) : sumOf Uk.cmp ((bothU l).map Up.p) k = 0 := by
  induction l with
  | nil => simp [bothU, sumOf]
  | cons u l ih =>
    have : bothU (u :: l) = (if -9223372036854775807 < u.d then [u, u.less] else []) ++ bothU l := by unfold bothU; rw [List.flatMap_cons]
    rw [this, List.map_append, sumOf_append, ih]
    split
    · simp only [List.map_cons, List.map_nil]
      rw [show u.less.p = (u.k, -u.d) from rfl, show u.p = (u.k, u.d) from rfl]
      simp only [sumOf]
      split <;> omega
    · simp [sumOf]
theorem nz_none {K : Type} {cmp : K → K → Int} {R : K → Prop} (L : Lin cmp R) {l : List (K × Int)} (hR : ∀ x ∈ l, R x.1) (h : ∀ k, sumOf cmp l k = 0) : nz cmp l = [] :=
  List.eq_nil_iff_forall_not_mem.2 fun y hy => by
    obtain ⟨_, h2, h3⟩ := (nz_mem L hR y).1 hy
    exact h3 (h2.trans (h _))
theorem both_none (l : List Up) : consL [bothU l] = [] := by
  unfold consL
  split
  · rename_i hc
    have hc := chkLs_all.1 hc (bothU l) (by simp)
    unfold resL
    split
    · rw [List.flatten_cons, List.flatten_nil, List.append_nil]
      exact nz_none uk_lin (fun x hx => by
        obtain ⟨u, hu, rfl⟩ := List.mem_map.1 hx
        exact chkUs_all.1 hc u hu) (both_sum l)
    · rfl
  · rfl
theorem less_ok {u : Up} (h : UOk u) (hd : -9223372036854775807 < u.d) : UOk u.less := ⟨h.kn, h.rn, h.ks, h.rs, by show -9223372036854775808 ≤ -u.d ∧ -u.d ≤ 9223372036854775807; have := h.dn; omega⟩
theorem both_ok {l : List Up} (h : ∀ u ∈ l, UOk u) : ∀ u ∈ bothU l, UOk u := fun u hu => by
  obtain ⟨x, hx, hux⟩ := List.mem_flatMap.1 hu
  split at hux
  · rename_i hd
    rcases List.mem_cons.1 hux with rfl | hux
    · exact h _ hx
    · obtain rfl : u = x.less := by simpa using hux
      exact less_ok (h x hx) hd
  · cases hux
theorem both_in {w : World} {B : Nat} {l : List Up} (h : ∀ u ∈ l, UIn w B u) : ∀ u ∈ bothU l, UIn w B u := fun u hu => by
  obtain ⟨x, hx, hux⟩ := List.mem_flatMap.1 hu
  split at hux
  · rcases List.mem_cons.1 hux with rfl | hux
    · exact h _ hx
    · obtain rfl : u = x.less := by simpa using hux
      exact ⟨(h x hx).key, (h x hx).row⟩
  · cases hux
/-- two updates in a block of their own -/
theorem pair_up (w : World) (u v : Up) : Lies 6 Up.cells (w.alloc (.cells #[.slice u.kA u.key.length u.kc, .slice u.rA u.row.length u.rc, .int .u64 (u.t.e : Int), .int .u64 (u.t.a : Int), .int .u64 (u.t.b : Int), .int .i64 u.d, .slice v.kA v.key.length v.kc, .slice v.rA v.row.length v.rc, .int .u64 (v.t.e : Int), .int .u64 (v.t.a : Int), .int .u64 (v.t.b : Int), .int .i64 v.d] 38)) (w.heap.size + 1) (some ⟨w.heap.size, 0, none⟩) [u, v] := fun _ =>
  ⟨w.heap.size, 0, rfl, Nat.lt_succ_self _, fun i x hi j y hj => by
    rw [show 0 + i * 6 + j = i * 6 + j by omega]
    exact ((Own.made w 38 ([u, v].flatMap Up.cells)).at_ _).trans (flat_of (size := 6) (cells := Up.cells) (fun _ => rfl) [u, v] i j x y hi hj)⟩
theorem one_list (w : World) (A : Option Addr) (c : Nat) (l : List Up) (h : Ups w w.heap.size A l) : ∃ V, V = w.alloc (.cells #[.slice A l.length c] 23) ∧ Below w.heap.size w V ∧ ULs V V.heap.size (some ⟨w.heap.size, 0, none⟩) [⟨A, c, l⟩] := by
  obtain ⟨W, e1, s1, b1, o1⟩ := boxd w [.slice A l.length c] 23
  refine ⟨W, e1, b1, rw_own (t := 23) o1, fun s hs => ?_⟩
  obtain rfl : s = ⟨A, c, l⟩ := by simpa using hs
  exact h.keep b1
theorem two_lists (w : World) (A A' : Option Addr) (c c' : Nat) (l m : List Up) (h : Ups w w.heap.size A l) (h' : Ups w w.heap.size A' m) : ∃ V, V = w.alloc (.cells #[.slice A l.length c, .slice A' m.length c'] 23) ∧ Below w.heap.size w V ∧ ULs V V.heap.size (some ⟨w.heap.size, 0, none⟩) [⟨A, c, l⟩, ⟨A', c', m⟩] := by
  obtain ⟨W, e1, s1, b1, o1⟩ := boxd w [.slice A l.length c, .slice A' m.length c'] 23
  refine ⟨W, e1, b1, rw_own (t := 23) o1, fun s hs => ?_⟩
  rcases List.mem_cons.1 hs with rfl | hs
  · exact h.keep b1
  · obtain rfl : s = ⟨A', c', m⟩ := by simpa using hs
    exact h'.keep b1
end Go.Proofs.Ytbccdmpnojdldaa
namespace Go.Proofs.Ytbccdmpnojdldaa
open Go Go.RowKit

section
variable {K : Type} {cmp : K → K → Int}
theorem ins_len (x : K × Int) : ∀ l : List (K × Int), (ins cmp x l).length ≤ l.length + 1
  | [] => by simp [ins]
  | y :: t => by
    unfold ins
    have := ins_len x t
    repeat' split
    all_goals simp only [List.length_cons] at *
    all_goals omega
theorem asmF_len : ∀ (l a : List (K × Int)), (asmF cmp a l).length ≤ a.length + l.length
  | [], a => by simp [asmF]
  | x :: l, a => by
    have h1 := asmF_len l (ins cmp x a)
    have h2 := ins_len (cmp := cmp) x a
    show (asmF cmp (ins cmp x a) l).length ≤ _
    rw [List.length_cons]
    omega
theorem nz_len (l : List (K × Int)) : (nz cmp l).length ≤ l.length := by
  unfold nz asm
  have h1 := List.length_filter_le (fun x : K × Int => x.2 != 0) (asmF cmp [] l)
  have h2 := asmF_len (cmp := cmp) l []
  simp only [List.length_nil] at h2
  omega
theorem resL_len (l : List (K × Int)) : (resL cmp l).length ≤ l.length := by
  unfold resL
  split
  · exact nz_len l
  · simp
theorem resE_ne {l : List (K × Int)} (h : resE cmp l ≠ 0) : resL cmp l = [] := by
  unfold resE at h
  unfold resL
  split at h
  · exact absurd rfl h
  · rename_i h1; rw [if_neg h1]
theorem resE_zero {l : List (K × Int)} (h : resE cmp l = 0) : resL cmp l = nz cmp l ∧ (asm cmp l).all (fun x => fits x.2) = true := by
  unfold resE at h
  unfold resL
  split at h
  · rename_i h1; exact ⟨if_pos h1, h1⟩
  · omega
theorem res_again {R : K → Prop} (L : Lin cmp R) {l : List (K × Int)} (hl : ∀ x ∈ l, R x.1) (h : resE cmp l = 0) : resL cmp (resL cmp l) = resL cmp l ∧ resE cmp (resL cmp l) = 0 := by
  obtain ⟨h1, h2⟩ := resE_zero h
  have h3 : (asm cmp (nz cmp l)).all (fun x => fits x.2) = true := by rw [fit_all, nz_nz L hl, ← fit_all]; exact h2
  rw [h1]
  unfold resL resE
  rw [if_pos h3, if_pos h3, nz_nz L hl]
  exact ⟨rfl, rfl⟩
end
theorem consE_ne {L : List (List Up)} (h : consE L ≠ 0) : consL L = [] := by
  unfold consE at h
  unfold consL
  split at h
  · rename_i h1; rw [if_pos h1]; exact resE_ne h
  · rename_i h1; rw [if_neg h1]
theorem consL_len (L : List (List Up)) : (consL L).length ≤ L.flatten.length := by
  unfold consL
  split
  · have := resL_len (cmp := Uk.cmp) (L.flatten.map Up.p); rwa [List.length_map] at this
  · simp
theorem chk_all {L : List (List Up)} : chkLs L = 0 ↔ ∀ u ∈ L.flatten, chkU u = 0 := by
  rw [chkLs_all]
  constructor
  · intro h u hu
    obtain ⟨l, hl, hul⟩ := List.mem_flatten.1 hu
    exact chkUs_all.1 (h l hl) u hul
  · intro h l hl
    exact chkUs_all.2 fun u hu => h u (List.mem_flatten.2 ⟨l, hl, hu⟩)
theorem keys_right {l : List Up} (h : ∀ u ∈ l, chkU u = 0) : ∀ x ∈ l.map Up.p, UkR x.1 := fun x hx => by
  obtain ⟨u, hu, rfl⟩ := List.mem_map.1 hx
  exact h u hu
/-- the same updates, in whatever order and lists -/
theorem cons_perm {L M : List (List Up)} (h : L.flatten.Perm M.flatten) : (consE L = 0 ↔ consE M = 0) ∧ consL L = consL M := by
  by_cases h1 : chkLs L = 0
  · have h2 : chkLs M = 0 := chk_all.2 fun u hu => chk_all.1 h1 u (h.mem_iff.2 hu)
    have := resL_ext uk_lin (keys_right (chk_all.1 h1)) (keys_right (chk_all.1 h2)) fun k => sumOf_perm (h.map Up.p) k
    unfold consE consL
    rw [if_pos h1, if_pos h2, if_pos h1, if_pos h2, this.1, this.2]
    exact ⟨Iff.rfl, rfl⟩
  · have h2 : chkLs M ≠ 0 := fun h2 => h1 (chk_all.2 fun u hu => chk_all.1 h2 u (h.mem_iff.1 hu))
    unfold consE consL
    rw [if_neg h1, if_neg h2, if_neg h1, if_neg h2]
    exact ⟨⟨fun h => absurd h h1, fun h => absurd h h2⟩, rfl⟩
theorem cons_chk {L : List (List Up)} (h : consE L = 0) : chkLs L = 0 ∧ resE Uk.cmp (L.flatten.map Up.p) = 0 ∧ consL L = resL Uk.cmp (L.flatten.map Up.p) := by
  unfold consE at h
  split at h
  · rename_i h1; exact ⟨h1, h, by unfold consL; rw [if_pos h1]⟩
  · rename_i h1; exact absurd h h1
theorem cons_even {L : List (List Up)} {x : List Up} (h : consE L = 0) (hx : x.map Up.p = consL L) : EvenP x := by
  obtain ⟨h1, h2, h3⟩ := cons_chk h
  obtain ⟨h4, _⟩ := resE_zero h2
  rw [h3, h4] at hx
  refine ⟨fun u hu h0 => ?_, by rw [hx]; exact nz_srt uk_lin _, chkUs_all.2 fun u hu => ?_⟩
  · have : u.p ∈ nz Uk.cmp (L.flatten.map Up.p) := by rw [← hx]; exact List.mem_map.2 ⟨u, hu, rfl⟩
    exact ((nz_mem uk_lin (keys_right (chk_all.1 h1)) _).1 this).2.2 h0
  · have : u.p ∈ nz Uk.cmp (L.flatten.map Up.p) := by rw [← hx]; exact List.mem_map.2 ⟨u, hu, rfl⟩
    exact nz_right (R := UkR) (keys_right (chk_all.1 h1)) _ this
theorem cons_again {L : List (List Up)} {x : List Up} (h : consE L = 0) (hx : x.map Up.p = consL L) : consL [x] = consL L ∧ consE [x] = 0 := by
  obtain ⟨h1, h2, h3⟩ := cons_chk h
  have hc : chkLs [x] = 0 := chkLs_all.2 fun l hl => by
    obtain rfl : l = x := by simpa using hl
    exact (cons_even h hx).2.2
  have := res_again uk_lin (keys_right (chk_all.1 h1)) h2
  unfold consL consE at *
  rw [if_pos hc, if_pos hc]
  simp only [List.flatten_cons, List.flatten_nil, List.append_nil]
  rw [hx, if_pos h1]
  exact this
/-- a list from its end down to k -/
def upsT (l : List Up) (k : Nat) : List Up := (l.drop k).reverse
theorem upsT_end (l : List Up) : upsT l l.length = [] := by unfold upsT; simp
theorem upsT_next {l : List Up} {k : Nat} {u : Up} (h : l[k]? = some u) : upsT l k = upsT l (k + 1) ++ [u] := by
  unfold upsT
  obtain ⟨hk, rfl⟩ := List.getElem?_eq_some_iff.1 h
  rw [List.drop_eq_getElem_cons hk, List.reverse_cons]
theorem upsT_zero (l : List Up) : upsT l 0 = l.reverse := by unfold upsT; rw [List.drop_zero]
theorem upsT_len (l : List Up) (k : Nat) : (upsT l k).length ≤ l.length := by unfold upsT; simp
theorem upsT_perm (a b : List Up) : ([a, b] : List (List Up)).flatten.Perm ([upsT b 0 ++ a] : List (List Up)).flatten := by
  simp only [List.flatten_cons, List.flatten_nil, List.append_nil]
  rw [upsT_zero]
  exact List.perm_append_comm.trans (List.Perm.append_right a (List.reverse_perm b).symm)
theorem up_made (w : World) (u : Up) : Lies 6 Up.cells (w.alloc (.cells #[.slice u.kA u.key.length u.kc, .slice u.rA u.row.length u.rc, .int .u64 (u.t.e : Int), .int .u64 (u.t.a : Int), .int .u64 (u.t.b : Int), .int .i64 u.d] 38)) (w.heap.size + 1) (some ⟨w.heap.size, 0, none⟩) [u] := fun _ =>
  ⟨w.heap.size, 0, rfl, Nat.lt_succ_self _, fun i x hi j y hj => by
    rw [show 0 + i * 6 + j = i * 6 + j by omega]
    exact ((Own.made w 38 ([u].flatMap Up.cells)).at_ _).trans (flat_of (size := 6) (cells := Up.cells) (fun _ => rfl) [u] i j x y hi hj)⟩
end Go.Proofs.Ytbccdmpnojdldaa
namespace Go.Proofs.Ytbccdmpnojdldaa
open Go Go.RowKit

def wideV (S : Int) : Value := .agg #[.int .i64 (S / 18446744073709551616), .int .u64 (loW S)]
set_option maxRecDepth 100000 in
set_option maxHeartbeats 800000 in
theorem plus_any (S n : Int) (w : World) (h1 : -9223372036854775808 ≤ n) (h2 : n ≤ 9223372036854775807) (h3 : -85070591730234615865843651857942052864 ≤ S) (h4 : S < 85070591730234615865843651857942052864) :
    Calls Try.prog 23 #[.agg #[.int .i64 (S / 18446744073709551616), .int .u64 (loW S)], .int .i64 n] w fun e w' => e = .returned (.agg #[.int .i64 ((S + n) / 18446744073709551616), .int .u64 (loW (S + n))]) ∧ Below w.heap.size w w' := by
  have l0 := loW_bound S
  have e1 : IntKind.u64.wrap (loW S + IntKind.u64.wrap n) = loW (S + n) := by rw [wrapU, wrapU]; unfold loW; omega
  have q0 : 0 ≤ S / 18446744073709551616 + 4611686018427387904 := by omega
  have q1 : S / 18446744073709551616 < 4611686018427387904 := by omega
  have e2 : ((loW (S + n) < loW S ∧ n < 0 → (S + n) / 18446744073709551616 = S / 18446744073709551616) ∧ (loW (S + n) < loW S ∧ 0 ≤ n → (S + n) / 18446744073709551616 = S / 18446744073709551616 + 1)) ∧ ((loW S ≤ loW (S + n) ∧ n < 0 → (S + n) / 18446744073709551616 = S / 18446744073709551616 - 1) ∧ (loW S ≤ loW (S + n) ∧ 0 ≤ n → (S + n) / 18446744073709551616 = S / 18446744073709551616)) := by unfold loW; omega
  generalize S / 18446744073709551616 = H at *
  generalize (S + n) / 18446744073709551616 = H' at *
  generalize loW (S + n) = L at *
  generalize loW S = L0 at *
  have HE := Lib.hid e2
  clear e2
  go_enter Try.func23, Try.ntmps23
  go_wp2_with fail
  all_goals
    have e2 := HE.out
    exact bodyPost_ret (v := .agg #[.int .i64 H', .int .u64 L]) (by simp [results, Try.results23, go_sem]; omega) rfl ⟨rfl, ((Below.refl _ _).alloc (Nat.le_refl _) _).alloc (by simp) _⟩
set_option maxRecDepth 100000 in
set_option maxHeartbeats 800000 in
theorem fit_any (S : Int) (w : World) (h3 : -85070591730234615865843651857942052864 ≤ S) (h4 : S < 85070591730234615865843651857942052864) :
    Calls Try.prog 24 #[.agg #[.int .i64 (S / 18446744073709551616), .int .u64 (loW S)]] w fun e w' => e = .returned (.tuple #[.int .i64 (fitN S), .int .i64 (fitE S)]) ∧ Below w.heap.size w w' := by
  obtain ⟨l1, l2⟩ := loW_bound S
  have e0 : wrap64 (loW S) = sg (loW S) := wrapS _ l1 l2
  have hs := Lib.hid (sg_lo S)
  have hs2 : S / 18446744073709551616 = 0 ∧ 0 ≤ sg (loW S) ∨ S / 18446744073709551616 = -1 ∧ sg (loW S) < 0 ↔ fits S = true := by
    rw [fits_iff]; unfold sg loW; split <;> omega
  have HS := Lib.hid hs2
  clear hs2 l1 l2
  go_enter Try.func24, Try.ntmps24
  go_wp2_with fail
  all_goals
    go_ret2
    refine ⟨?_, (Below.refl _ _).alloc (Nat.le_refl _) _⟩
    have hs2 := HS.out
    by_cases hf : fits S = true
    · have h6 := hs.out hf
      have h7 := hs2.2 hf
      first
      | (exfalso; omega)
      | (unfold fitN fitE; rw [hf, h6]; rfl)
    · have h7 := mt hs2.1 hf
      first
      | (exfalso; omega)
      | (unfold fitN fitE; simp [hf])
end Go.Proofs.Ytbccdmpnojdldaa
namespace Go.Proofs.Ytbccdmpnojdldaa
open Go Go.RowKit

theorem flat_set {α : Type} {size : Nat} {cells : α → List Value} (hcl : ∀ x, (cells x).length = size) : ∀ (X : List α) (k r : Nat) (u : α) (v : Value), X[k]? = some u → r < size → (X.flatMap cells).set (k * size + r) v = (X.take k).flatMap cells ++ ((cells u).set r v ++ (X.drop (k + 1)).flatMap cells)
  | [], k, r, u, v, h, _ => by simp at h
  | x :: X, 0, r, u, v, h, hr => by
    obtain rfl : x = u := by simpa using h
    rw [List.flatMap_cons, Nat.zero_mul, Nat.zero_add, List.set_append_left _ _ (by rw [hcl]; exact hr)]
    simp
  | x :: X, k + 1, r, u, v, h, hr => by
    have ih := flat_set hcl X k r u v (by simpa using h) hr
    rw [List.flatMap_cons, List.set_append_right _ _ (by rw [hcl, Nat.add_mul]; omega), hcl, show (k + 1) * size + r - size = k * size + r by rw [Nat.add_mul]; omega, ih]
    simp
theorem flat_part {α : Type} {cells : α → List Value} {X : List α} {k : Nat} {u : α} (h : X[k]? = some u) : X.flatMap cells = (X.take k).flatMap cells ++ (cells u ++ (X.drop (k + 1)).flatMap cells) := by
  obtain ⟨hk, rfl⟩ := List.getElem?_eq_some_iff.1 h
  have e : X = X.take k ++ X[k] :: X.drop (k + 1) := by rw [← List.drop_eq_getElem_cons hk, List.take_append_drop]
  have e := congrArg (fun Y : List α => Y.flatMap cells) e
  simp only [List.flatMap_append, List.flatMap_cons] at e
  exact e
theorem flat_change {α : Type} {cells : α → List Value} {X : List α} {k : Nat} {u u' : α} (h : X[k]? = some u) : (X.set k u').flatMap cells = (X.take k).flatMap cells ++ (cells u' ++ (X.drop (k + 1)).flatMap cells) := by
  obtain ⟨hk, rfl⟩ := List.getElem?_eq_some_iff.1 h
  rw [List.set_eq_take_append_cons_drop, if_pos hk]
  simp
theorem flat_sets {α : Type} {size : Nat} {cells : α → List Value} (hcl : ∀ x, (cells x).length = size) {X : List α} {k : Nat} {u : α} (h : X[k]? = some u) (c : List Value) (hc : c.length = size) (r : Nat) (v : Value) (hr : r < size) :
    ((X.take k).flatMap cells ++ (c ++ (X.drop (k + 1)).flatMap cells)).set (k * size + r) v = (X.take k).flatMap cells ++ (c.set r v ++ (X.drop (k + 1)).flatMap cells) := by
  have hk := (List.getElem?_eq_some_iff.1 h).1
  have hl : ((X.take k).flatMap cells).length = k * size := by rw [flat_size hcl, List.length_take, Nat.min_eq_left (by omega)]
  rw [List.set_append_right _ _ (by rw [hl]; omega), hl, Nat.add_sub_cancel_left, List.set_append_left _ _ (by rw [hc]; exact hr)]
end Go.Proofs.Ytbccdmpnojdldaa
namespace Go.Proofs.Ytbccdmpnojdldaa
open Go Go.RowKit

section
variable {α K : Type} {cmp : K → K → Int} {k : α → K}
theorem lsplit_at {β : Type} {P : List β} {i : Nat} {y : β} (h : P[i]? = some y) : P = P.take i ++ y :: P.drop (i + 1) := by
  obtain ⟨hi, rfl⟩ := List.getElem?_eq_some_iff.1 h
  conv => lhs; rw [← List.take_append_drop i P, List.drop_eq_getElem_cons hi]
theorem ins_same (P : List (Ln α)) (i : Nat) (x : K × Int) (y : Ln α) (h : ∀ z ∈ P.take i, cmp (k z.u) x.1 < 0) (hy : P[i]? = some y) (h0 : cmp (k y.u) x.1 = 0) : (P.set i ⟨y.S + x.2, y.u⟩).map (pL k) = ins cmp x (P.map (pL k)) := by
  have hi := (List.getElem?_eq_some_iff.1 hy).1
  rw [List.set_eq_take_append_cons_drop, if_pos hi]
  conv => rhs; rw [lsplit_at hy]
  rw [List.map_append, List.map_append, ins_skip x _ _ fun z hz => by
    obtain ⟨p, hp, rfl⟩ := List.mem_map.1 hz
    exact h p hp]
  rw [List.map_cons, List.map_cons]
  show _ = (P.take i).map (pL k) ++ (if cmp (k y.u) x.1 = 0 then _ else _)
  rw [if_pos h0]
  rfl
theorem ins_new (P : List (Ln α)) (i : Nat) (u : α) (n : Int) (h : ∀ z ∈ P.take i, cmp (k z.u) (k u) < 0) (hy : ∀ y, P[i]? = some y → 0 < cmp (k y.u) (k u)) : (P.take i ++ ⟨n, u⟩ :: P.drop i).map (pL k) = ins cmp (k u, n) (P.map (pL k)) := by
  conv => rhs; rw [← List.take_append_drop i P]
  rw [List.map_append, List.map_append, ins_skip (k u, n) _ _ fun z hz => by
    obtain ⟨p, hp, rfl⟩ := List.mem_map.1 hz
    exact h p hp]
  congr 1
  cases hd : P.drop i with
  | nil => rfl
  | cons y t =>
    have hy0 : P[i]? = some y := by
      have := congrArg List.head? hd
      rw [List.head?_drop] at this
      exact this
    have h1 := hy y hy0
    rw [List.map_cons, List.map_cons]
    show _ = if cmp (k y.u) (k u) = 0 then _ else if cmp (k y.u) (k u) < 0 then _ else _
    rw [if_neg (by omega), if_neg (by omega)]
    rfl
theorem set_new {β : Type} (P : List β) (i : Nat) (hi : i ≤ P.length) (y z : β) : (P.take i ++ y :: P.drop i).set i z = P.take i ++ z :: P.drop i := by
  rw [List.set_append_right _ _ (by rw [List.length_take]; omega), List.length_take, Nat.min_eq_left hi, Nat.sub_self]
  rfl
theorem get_new {β : Type} (P : List β) (i : Nat) (hi : i ≤ P.length) (y : β) : (P.take i ++ y :: P.drop i)[i]? = some y := by
  rw [List.getElem?_append_right (by rw [List.length_take]; omega), List.length_take, Nat.min_eq_left hi, Nat.sub_self]
  rfl
end
def wcells (S : Int) : List Value := [.int .i64 (S / 18446744073709551616), .int .u64 (loW S)]
theorem wcells_len (S : Int) : (wcells S).length = 2 := rfl
theorem wcells_one (S : Int) : ∀ v ∈ wcells S, v.oneCell' = true := by
  intro v hv
  simp only [wcells, List.mem_cons, List.not_mem_nil, or_false] at hv
  rcases hv with rfl | rfl <;> rfl
theorem wcells_zero : wcells 0 = [.int .i64 0, .int .u64 0] := by unfold wcells loW; rfl
theorem set_wide {X : List Int} {k : Nat} {S : Int} (h : X[k]? = some S) (n : Int) :
    ((X.flatMap wcells).set (k * 2 + 0) (.int .i64 (n / 18446744073709551616))).set (k * 2 + 1) (.int .u64 (loW n)) = (X.set k n).flatMap wcells := by
  rw [flat_change h, flat_part h, flat_sets (size := 2) wcells_len h _ rfl 0 _ (by decide), flat_sets (size := 2) wcells_len h _ rfl 1 _ (by decide)]
  rfl
theorem set_same {β : Type} {l : List β} {i : Nat} {x : β} (h : l[i]? = some x) : l.set i x = l := by obtain ⟨hi, rfl⟩ := List.getElem?_eq_some_iff.1 h; exact List.set_getElem_self hi
theorem asm_snoc {K : Type} {cmp : K → K → Int} (l : List (K × Int)) (x : K × Int) : asm cmp (l ++ [x]) = ins cmp x (asm cmp l) := by unfold asm asmF; rw [List.foldl_append]; rfl
end Go.Proofs.Ytbccdmpnojdldaa
namespace Go.Proofs.Ytbccdmpnojdldaa
open Go Go.RowKit

set_option maxRecDepth 100000 in
set_option maxHeartbeats 1600000 in
theorem vcopy_any (A : Option Addr) (c : Nat) (l : List Vl) (w : World) (hl : Vals w w.heap.size A l) (hn : l.length ≤ 1099511627776) :
    Calls Try.prog 46 #[.slice A l.length c] w fun x w' => ∃ A' c', x = .returned (.slice A' l.length c') ∧ Vals w' w'.heap.size A' l ∧ Below w.heap.size w w' ∧ (∀ b o, A' = some ⟨b, o, none⟩ → w.heap.size ≤ b ∧ b < w'.heap.size) := by
  have hr0 := Lib.hid (show (w.alloc (.cells #[] 84)).ownsRow w.heap.size 84 3 (.slice (some ⟨w.heap.size, 0, none⟩) 0 0) 0 [] from World.ownsRow_made w #[] 0 (Nat.le_refl _) (Nat.zero_le _) rfl)
  have hv := Lib.hid (hl.past ((Below.refl _ w).alloc (Nat.le_refl _) (.cells #[] 84)) (Nat.le_refl _))
  clear hl
  go_enter Try.func46, Try.ntmps46
  go_wp2_with (at_builtin; refine wpList_append_vl _ rfl _ _ rfl w.heap.size _ _ _ rfl hr0.out w.heap.size A c l rfl hv.out ?m1 ?m2 ?m3)
  case m1 => omega
  case m2 => simp
  intro v' w' ho' hb'
  have hlt := ho'.lt
  obtain ⟨A', c', rfl, _, _, h3⟩ := vals_of_own (l := l) (n := 0 + l.length) (by omega) (by simpa using ho')
  have HA := Lib.hid (And.intro h3 (And.intro (((Below.refl _ w).alloc (Nat.le_refl _) (.cells #[] 84)).trans hb') (show ∀ b o, A' = some ⟨b, o, none⟩ → w.heap.size ≤ b ∧ b < w'.heap.size from fun b o e => by subst e; exact hlt b rfl)))
  clear ho' hb' h3 hlt
  go_wp2_with fail
  go_ret
  exact ⟨A', c', rfl, HA.out.1, HA.out.2.1, HA.out.2.2⟩
theorem own_zeroth {w : World} {P : Nat} {t : TypeId} {z0 z1 z2 z3 z4 z5 : Value} (h : Own w P t [z0, z1, z2, z3, z4, z5]) (f : Value) :
    ∃ X, X = w.setCell ⟨P, 0, none⟩ f ∧ Own X P t [f, z1, z2, z3, z4, z5] ∧ (∀ B u, Below B u w → B ≤ P → Below B u X) ∧ X.heap.size = w.heap.size ∧ (∀ b, b ≠ P → X.heap[b]? = w.heap[b]?) :=
  ⟨_, rfl, h.set_ 0 f, fun B u hb hB => hb.setCell (p := ⟨P, 0, none⟩) hB _, by simp [World.setCell], fun b hb => Below.heap_setCell w ⟨P, 0, none⟩ f b hb⟩
theorem own_first {w : World} {P : Nat} {t : TypeId} {z0 z1 z2 z3 z4 z5 : Value} (h : Own w P t [z0, z1, z2, z3, z4, z5]) (f : Value) :
    ∃ X, X = w.setCell ⟨P, 1, none⟩ f ∧ Own X P t [z0, f, z2, z3, z4, z5] ∧ (∀ B u, Below B u w → B ≤ P → Below B u X) ∧ X.heap.size = w.heap.size ∧ (∀ b, b ≠ P → X.heap[b]? = w.heap[b]?) :=
  ⟨_, rfl, h.set_ 1 f, fun B u hb hB => hb.setCell (p := ⟨P, 1, none⟩) hB _, by simp [World.setCell], fun b hb => Below.heap_setCell w ⟨P, 1, none⟩ f b hb⟩
theorem vals_but {w X : World} {P : Nat} {A : Option Addr} {l : List Vl} (h : Vals w w.heap.size A l) (hA : ∀ b o, A = some ⟨b, o, none⟩ → b ≠ P) (hs : X.heap.size = w.heap.size) (hX : ∀ b, b ≠ P → X.heap[b]? = w.heap[b]?) : Vals X X.heap.size A l := fun hp => by
  obtain ⟨b, o, e, hb, hc⟩ := h hp
  have hk : ∀ j, X.cell? ⟨b, j, none⟩ = w.cell? ⟨b, j, none⟩ := fun j => by unfold World.cell?; rw [hX b (hA b o e)]
  refine ⟨b, o, e, by omega, fun i v hi => ?_⟩
  obtain ⟨a0, a1, a2⟩ := hc i v hi
  exact ⟨(hk _).trans a0, (hk _).trans a1, (hk _).trans a2⟩
def Copied (l : List Up) (w : World) (x : Ending) (w' : World) : Prop :=
  ∃ A c, ∃ outL : List Up, x = .returned (.slice A outL.length c) ∧ outL.map Up.p = l.map Up.p ∧ Ups w' w'.heap.size A outL ∧ (∀ u ∈ outL, UOk u) ∧ Below w.heap.size w w'
theorem copy_snoc {l outL : List Up} {j : Nat} {u u' : Up} (h : l[j]? = some u) (hm : outL.map Up.p = (l.take j).map Up.p) (e : u'.p = u.p) : (outL ++ [u']).map Up.p = (l.take (j + 1)).map Up.p := by
  rw [List.take_add_one, h, List.map_append, List.map_append, hm]
  simp [e]
theorem infoUp' : (Try.prog.info? 38).map (fun i => (i.zero, i.size, i.bytes)) = some (some (.agg #[.slice none 0 0, .slice none 0 0, .int .u64 0, .int .u64 0, .int .u64 0, .int .i64 0]), 6, 80) := by kernel_rfl
set_option maxRecDepth 100000 in
set_option maxHeartbeats 6400000 in
theorem copyU_any (A : Option Addr) (c : Nat) (l : List Up) (w : World) (hl : Ups w w.heap.size A l) (hok : ∀ u ∈ l, UOk u) (h8 : ∀ u ∈ l, u.key.length ≤ 8 ∧ u.row.length ≤ 8) (hn : l.length ≤ 1099511627776) :
    Calls Try.prog 25 #[.slice A l.length c] w (Copied l w) := by
  obtain ⟨i0, hi, hz0, hz1, hz2⟩ := info_parts infoUp'
  have HI := Lib.hid (And.intro Try.underlying23 (And.intro hi (And.intro hz0 (And.intro hz1 hz2))))
  have HL := Lib.hid (And.intro hl (And.intro hok h8))
  clear hl hok h8 hi hz0 hz1 hz2
  go_enter Try.func25, Try.ntmps25
  go_wp2_with fail
  go_loopw [3, 8] (fun v3 v8 wr => ∃ (j : Nat) (outL : List Up), v8 = .int .i64 (j : Int) ∧ j ≤ l.length ∧ outL.length = j ∧ wr.ownsRow w.heap.size 38 6 v3 outL.length (outL.flatMap Up.cells) ∧ (∀ u ∈ outL, UIn wr wr.heap.size u ∧ UOk u ∧ Far w.heap.size v3 wr u) ∧ outL.map Up.p = (l.take j).map Up.p ∧ Below w.heap.size w wr)
    (fun _ v8 _ => l.length - (intOf v8).toNat)
  case atStart => exact ⟨0, [], rfl, by omega, rfl, World.ownsRow_nil _ _ _ _, fun u hu => (by cases hu), rfl, Below.refl _ _⟩
  case round =>
    obtain ⟨j, outL, rfl, hj, hlen, hown, hout, hmap, hb⟩ := hrel
    obtain ⟨wi, hwi⟩ : ∃ wi, wi = wr := ⟨_, rfl⟩
    subst hwi
    by_cases hjt : j < l.length
    · have hy : l[j]? = some l[j] := List.getElem?_eq_getElem hjt
      have hym := List.mem_of_getElem? hy
      generalize l[j] = u at *
      obtain ⟨g, o, rfl, hB, hys⟩ := lies_up HL.out.1.head (by omega)
      obtain ⟨e0, e1, e2, e3, e4, e5⟩ := ((hys j u hy).past_ hb hB).six
      obtain ⟨V, hV, hvb, hvs, hvo⟩ := upbox wi u
      have hinV : UIn V V.heap.size u := ((((HL.out.1.each_ u hym).past hb (Nat.le_refl _)).wide hb.size).keep hvb)
      have h8 := HL.out.2.2 u hym
      have z1 := Lib.hid (vcopy_any u.kA u.kc u.key V hinV.key (by omega))
      have HV := Lib.hid (And.intro (hb.trans (hvb.mono hb.size)) (And.intro hvo (And.intro hinV (And.intro hy (And.intro (HL.out.2.1 u hym) (And.intro hvb hvs))))))
      have HO := Lib.hid (And.intro hown (And.intro hout (And.intro hmap (And.intro hb hlen))))
      have HW := Lib.hid (((HL.out.1.each_ u hym).past hb (Nat.le_refl _)).wide hb.size)
      have q3 : (0 : Int) ≤ (j : Int) := by omega
      have q4 : (j : Int) < (l.length : Int) := by omega
      have q5 : decide ((j : Int) < (l.length : Int)) = true := decide_eq_true q4
      clear hy hym hys hvb hvs hinV hown hout hmap hb
      go_upto_region 5 with fail
      rw [← hV]
      clear hV e0 e1 e2 e3 e4 e5
      obtain ⟨e0, e1, e2, e3, e4, e5⟩ := own6 hvo
      clear hvo
      go_wp2_with fail
      refine z1.out.mono ?_
      rintro _ w1 ⟨A1, k1, rfl, hv1, b1, hf1⟩
      have ho1 := HV.out.2.1.past b1 HV.out.2.1.inside
      obtain ⟨X1, hX1, hxo1, hxb1, hxs1, hxr1⟩ := own_zeroth ho1 (.slice A1 u.key.length k1)
      have hfz := (own_frozen6 ho1).1
      have hc0 := (own6 ho1).1
      have hbX1 : Below wi.heap.size wi X1 := hxb1 _ _ (HV.out.2.2.2.2.2.1.trans (b1.mono HV.out.2.2.2.2.2.1.size)) (Nat.le_refl _)
      have hrow1 : Vals X1 X1.heap.size u.rA u.row := (HW.out.row.past hbX1 (Nat.le_refl _)).wide hbX1.size
      have hne : ∀ b, V.heap.size ≤ b → b ≠ wi.heap.size := fun b h => by have := HV.out.2.2.2.2.2.2; omega
      have hkey1 := vals_but hv1 (fun b o e => hne b (hf1 b o e).1) hxs1 hxr1
      have z2 := Lib.hid (vcopy_any u.rA u.rc u.row X1 hrow1 (by omega))
      have H1 := Lib.hid (And.intro hbX1 (And.intro hxo1 (And.intro hkey1 (And.intro (fun b o (e : A1 = some ⟨b, o, none⟩) => (⟨(hf1 b o e).1, by rw [hxs1]; exact (hf1 b o e).2⟩ : V.heap.size ≤ b ∧ b < X1.heap.size)) hne))))
      clear hv1 b1 hf1 ho1 hxo1 hxb1 hxs1 hxr1 hbX1 hrow1 hne hkey1 e0 e1 e2 e3 e4 e5 z1
      go_upto_region 6 with fail
      rw [← hX1]
      clear hX1 hfz hc0
      obtain ⟨e0, e1, e2, e3, e4, e5⟩ := own6 H1.out.2.1
      go_wp2_with fail
      refine z2.out.mono ?_
      rintro _ w2 ⟨A2, k2, rfl, hv2, b2, hf2⟩
      have ho2 := H1.out.2.1.past b2 H1.out.2.1.inside
      obtain ⟨X2, hX2, hxo2, hxb2, hxs2, hxr2⟩ := own_first ho2 (.slice A2 u.row.length k2)
      have hfz := (own_frozen6 ho2).2.1
      have hc0 := (own6 ho2).2.1
      have hbX2 : Below wi.heap.size wi X2 := hxb2 _ _ (H1.out.1.trans (b2.mono H1.out.1.size)) (Nat.le_refl _)
      have hsX : V.heap.size ≤ X1.heap.size := by have := H1.out.1.size; have := H1.out.2.1.inside; have := HV.out.2.2.2.2.2.2; omega
      have hkey2 := vals_but (vals_keep H1.out.2.2.1 b2) (fun b o e => H1.out.2.2.2.2 b (H1.out.2.2.2.1 b o e).1) hxs2 hxr2
      have hrow2 := vals_but hv2 (fun b o e => H1.out.2.2.2.2 b (Nat.le_trans hsX (hf2 b o e).1)) hxs2 hxr2
      have hs2 := b2.size
      have hlts : ∀ b o, (A1 = some ⟨b, o, none⟩ ∨ A2 = some ⟨b, o, none⟩) → V.heap.size ≤ b ∧ b < X2.heap.size := fun b o e => by
        rcases e with e | e
        · have h1 := H1.out.2.2.2.1 b o e
          omega
        · have h1 := hf2 b o e
          omega
      obtain ⟨u', hu'⟩ : ∃ u' : Up, u' = ⟨A1, k1, u.key, A2, k2, u.row, u.t, u.d⟩ := ⟨_, rfl⟩
      have hin' : UIn X2 X2.heap.size u' := by subst hu'; exact ⟨hkey2, hrow2⟩
      have hfar' : Far w.heap.size u3 X2 u' := fun b o hb => by
        subst hu'
        have h1 := hlts b o hb
        have h2 := HV.out.2.2.2.2.2.2
        have h3 := HO.out.2.2.2.1.size
        refine ⟨h1.2, fun e => ?_, by omega⟩
        have := (HO.out.1.lt b e).2
        omega
      have hok' : UOk u' := by
        subst hu'
        have := HV.out.2.2.2.2.1
        exact ⟨this.kn, this.rn, this.ks, this.rs, this.dn⟩
      have hp' : u'.p = u.p := by subst hu'; rfl
      have hsw : w.heap.size ≤ X2.heap.size := Nat.le_trans HO.out.2.2.2.1.size hbX2.size
      have H2 := Lib.hid (And.intro hbX2 (And.intro (own_below HO.out.1 hbX2) (And.intro hin' (And.intro hfar' (And.intro hok' hp')))))
      have HU := Lib.hid hu'
      have hln : outL.length ≤ 1099511627776 := by omega
      clear hv2 b2 hf2 ho2 hxb2 hxs2 hxr2 hbX2 hkey2 hrow2 hs2 hlts hin' hfar' hok' hp' e0 e1 e2 e3 e4 e5 z2 hsX hu'
      go_upto_region 7 with fail
      rw [← hX2]
      clear hX2 hfz hc0
      obtain ⟨e0, e1, e2, e3, e4, e5⟩ := own6 hxo2
      have hu' := HU.out
      have c0 : Value.slice A1 u.key.length k1 = .slice u'.kA u'.key.length u'.kc := by rw [hu']
      have c1 : Value.slice A2 u.row.length k2 = .slice u'.rA u'.row.length u'.rc := by rw [hu']
      have c2 : Value.int .u64 (u.t.e : Int) = .int .u64 (u'.t.e : Int) := by rw [hu']
      have c3 : Value.int .u64 (u.t.a : Int) = .int .u64 (u'.t.a : Int) := by rw [hu']
      have c4 : Value.int .u64 (u.t.b : Int) = .int .u64 (u'.t.b : Int) := by rw [hu']
      have c5 : Value.int .i64 u.d = .int .i64 u'.d := by rw [hu']
      rw [c0] at e0
      rw [c1] at e1
      rw [c2] at e2
      rw [c3] at e3
      rw [c4] at e4
      rw [c5] at e5
      clear hu' c0 c1 c2 c3 c4 c5 hxo2
      go_wp2_with (at_builtin; refine wpList_push _ rfl _ _ 23 rfl w.heap.size 38 i0 _ 6 80 HI.out.1 HI.out.2.1 HI.out.2.2.1 HI.out.2.2.2.1 HI.out.2.2.2.2 rfl (by decide) _ _ _ rfl H2.out.2.1 #[.slice u'.kA u'.key.length u'.kc, .slice u'.rA u'.row.length u'.rc, .int .u64 (u'.t.e : Int), .int .u64 (u'.t.a : Int), .int .u64 (u'.t.b : Int), .int .i64 u'.d] rfl rfl ?p1 ?p2 ?p3 ?p4 ?_)
      case p1 => exact ⟨rfl, rfl, rfl, rfl, rfl, rfl⟩
      case p2 => unfold maxLen; omega
      case p3 => omega
      case p4 => exact hsw
      intro v' w' ho' hb' hob hgw
      have hbw' : Below w.heap.size w w' := (HO.out.2.2.2.1.trans (H2.out.1.mono HO.out.2.2.2.1.size)).trans hb'
      have hfarn : ∀ u, Far w.heap.size u3 X2 u → Far w.heap.size v' w' u := fun u hu b o hb => by
        obtain ⟨h1, h2, h3⟩ := hu b o hb
        refine ⟨Nat.lt_of_lt_of_le h1 hgw.size, fun e => ?_, h3⟩
        rcases hob with h | h
        · rw [h] at e; exact h2 e
        · rw [h] at e
          injection e with e
          omega
      have hall : ∀ z ∈ outL ++ [u'], UIn w' w'.heap.size z ∧ UOk z ∧ Far w.heap.size v' w' z := fun z hz => by
        rcases List.mem_append.1 hz with hz | hz
        · have hf3 := (HO.out.2.1 z hz).2.2.next H2.out.1.size
          exact ⟨uin_grown ((HO.out.2.1 z hz).1.keep H2.out.1) hf3 hgw, (HO.out.2.1 z hz).2.1, hfarn z hf3⟩
        · obtain rfl : z = u' := by simpa using hz
          exact ⟨uin_grown H2.out.2.2.1 H2.out.2.2.2.1 hgw, H2.out.2.2.2.2.1, hfarn z H2.out.2.2.2.1⟩
      have hrow' : w'.ownsRow w.heap.size 38 6 v' (outL ++ [u']).length ((outL ++ [u']).flatMap Up.cells) := by
        rw [List.length_append, List.flatMap_append, hlen]
        exact ho'
      have H4 := Lib.hid (And.intro hrow' (And.intro hall (And.intro (copy_snoc HV.out.2.2.2.1 HO.out.2.2.1 H2.out.2.2.2.2.2) hbw')))
      clear ho' hb' hob hgw hbw' hfarn hall hrow' e0 e1 e2 e3 e4 e5
      go_wp2_with fail
      go_roundw
      case rel => exact ⟨j + 1, outL ++ [u'], by go_num, by omega, by rw [List.length_append, List.length_singleton]; omega, H4.out.1, H4.out.2.1, H4.out.2.2.1, H4.out.2.2.2⟩
      case measure => simp [intOf]; omega
    · have hj2 : j = l.length := by omega
      subst hj2
      rw [List.take_length] at hmap
      obtain ⟨A', c', rfl, _, _, hl'⟩ := lies_of_own (size := 6) (cells := Up.cells) (by decide) ucells_len rfl hown
      have HE := Lib.hid (And.intro hmap (And.intro (⟨hl', fun u hu => (hout u hu).1⟩ : Ups wi wi.heap.size A' outL) (And.intro (fun u hu => (hout u hu).2.1) hb)))
      have q5 : decide ((l.length : Int) < (l.length : Int)) = false := decide_eq_false (by omega)
      clear hown hout hmap hb hl'
      go_wp2_with fail
      go_ret
      exact ⟨A', c', outL, rfl, HE.out.1, HE.out.2.1, HE.out.2.2.1, HE.out.2.2.2⟩
end Go.Proofs.Ytbccdmpnojdldaa
namespace Go.Proofs.Ytbccdmpnojdldaa
open Go

/-- the state behind those operations that have come up: each has left its value -/
def putsR : List (Option Tmp × Option Value) → Act → Act
  | [], a => a
  | (_, none) :: l, a => putsR l a
  | (d, some v) :: l, a => putsR l (a.put d v)
/-- no two operations leave their values in one temporary -/
def ApartR : List (Option Tmp) → Prop
  | [] => True
  | d :: l => (∀ t, d = some t → some t ∉ l) ∧ ApartR l
theorem putsR_put : ∀ (l : List (Option Tmp × Option Value)) (a : Act) (d : Option Tmp) (v : Value), (∀ t, d = some t → some t ∉ l.map Prod.fst) → putsR l (a.put d v) = (putsR l a).put d v
  | [], _, _, _, _ => rfl
  | (_, none) :: l, a, d, v, h => putsR_put l a d v fun t ht hm => h t ht (List.mem_cons_of_mem _ hm)
  | (e, some u) :: l, a, d, v, h => by
    show putsR l ((a.put d v).put e u) = (putsR l (a.put e u)).put d v
    rw [← putsR_put l (a.put e u) d v fun t ht hm => h t ht (List.mem_cons_of_mem _ hm)]
    congr 1
    exact Act.put_comm a v u fun t ht he => h t ht (by subst he; exact List.mem_cons_self)
theorem putsR_set : ∀ (l : List (Option Tmp × Option Value)) (a : Act) (i : Nat) (d : Option Tmp) (v : Value), ApartR (l.map Prod.fst) → l[i]? = some (d, none) → (putsR l a).put d v = putsR (l.set i (d, some v)) a
  | [], _, _, _, _, _, h => by simp at h
  | (e, x) :: l, a, 0, d, v, ha, h => by
    obtain ⟨rfl, rfl⟩ : e = d ∧ x = none := by simpa using h
    show (putsR l a).put e v = putsR l (a.put e v)
    exact (putsR_put l a e v ha.1).symm
  | (e, none) :: l, a, i + 1, d, v, ha, h => putsR_set l a i d v ha.2 (by simpa using h)
  | (e, some u) :: l, a, i + 1, d, v, ha, h => putsR_set l (a.put e u) i d v ha.2 (by simpa using h)
theorem putsR_size : ∀ (l : List (Option Tmp × Option Value)) (a : Act), (putsR l a).tmps.size = a.tmps.size
  | [], _ => rfl
  | (_, none) :: l, a => putsR_size l a
  | (d, some v) :: l, a => (putsR_size l (a.put d v)).trans (by cases d <;> simp [Act.put])
/-- a temporary that none leaves its value in -/
theorem putsR_miss : ∀ (l : List (Option Tmp × Option Value)) (a : Act) (t : Tmp), (∀ v, (some t, some v) ∉ l) → (putsR l a).eval (.tmp t) = a.eval (.tmp t)
  | [], _, _, _ => rfl
  | (_, none) :: l, a, t, h => putsR_miss l a t fun v hm => h v (List.mem_cons_of_mem _ hm)
  | (d, some v) :: l, a, t, h => by
    show (putsR l (a.put d v)).eval (.tmp t) = _
    rw [putsR_miss l (a.put d v) t fun v hm => h v (List.mem_cons_of_mem _ hm)]
    exact Act.eval_put fun e he ht => h v (by cases ht; subst he; exact List.mem_cons_self)
theorem putsR_hit : ∀ (l : List (Option Tmp × Option Value)) (a : Act) (i : Nat) (t : Tmp) (v : Value), ApartR (l.map Prod.fst) → l[i]? = some (some t, some v) → t < a.tmps.size → (putsR l a).eval (.tmp t) = v
  | [], _, _, _, _, _, h, _ => by simp at h
  | (e, x) :: l, a, 0, t, v, ha, h, ht => by
    obtain ⟨rfl, rfl⟩ : e = some t ∧ x = some v := by simpa using h
    show (putsR l (a.put (some t) v)).eval (.tmp t) = v
    rw [putsR_miss l _ t fun u hm => ha.1 t rfl (List.mem_map.2 ⟨_, hm, rfl⟩)]
    simp [Act.eval, Act.put, ht]
  | (e, none) :: l, a, i + 1, t, v, ha, h, ht => putsR_hit l a i t v ha.2 (by simpa using h) ht
  | (e, some u) :: l, a, i + 1, t, v, ha, h, ht => putsR_hit l (a.put e u) i t v ha.2 (by simpa using h) (by cases e <;> simpa [Act.put] using ht)
theorem apartR_of {l : List (Option Tmp)} (h : (l.filterMap id).Nodup) : ApartR l := by
  induction l with
  | nil => trivial
  | cons d l ih =>
    cases d with
    | none => exact ⟨fun t ht => (by cases ht), ih (by simpa using h)⟩
    | some t =>
      have h' : (t :: l.filterMap id).Nodup := by simpa using h
      refine ⟨fun s hs hm => ?_, ih (List.nodup_cons.1 h').2⟩
      cases hs
      exact (List.nodup_cons.1 h').1 (List.mem_filterMap.2 ⟨_, hm, rfl⟩)

section
variable {P : Program} {Q : Exit → Act → World → Prop}
/-- every operation waits for earlier ones alone -/
def earlyR (l : List Oper) : Bool := (List.range l.length).all fun i => ((l[i]?).map fun o => o.after.all fun e => decide (e.on < i)).getD true
theorem earlyR_spec {l : List Oper} (h : earlyR l = true) {i : Nat} {o : Oper} (ho : l[i]? = some o) : ∀ e ∈ o.after, e.on < i := by
  unfold earlyR at h
  rw [List.all_eq_true] at h
  have := h i (List.mem_range.2 (List.getElem?_eq_some_iff.1 ho).1)
  rw [ho] at this
  simp only [Option.map_some, Option.getD_some, Array.all_eq_true_iff_forall_mem, decide_eq_true_eq] at this
  exact this
def slotsR (l : List Oper) (vals : List (Option Value)) : List (Option Tmp × Option Value) := (l.map Oper.dst).zip vals
theorem slotsR_fst {l : List Oper} {vals : List (Option Value)} (h : vals.length = l.length) : (slotsR l vals).map Prod.fst = l.map Oper.dst := by
  unfold slotsR; rw [List.map_fst_zip]; simp [h]
theorem slotsR_at {l : List Oper} {vals : List (Option Value)} {i : Nat} {o : Oper} {x : Option Value} (ho : l[i]? = some o) (hx : vals[i]? = some x) : (slotsR l vals)[i]? = some (o.dst, x) := by
  unfold slotsR; rw [List.getElem?_zip_eq_some]; simp [ho, hx]
theorem slotsR_set {l : List Oper} {vals : List (Option Value)} {i : Nat} {o : Oper} {x : Option Value} (ho : l[i]? = some o) : slotsR l (vals.set i x) = (slotsR l vals).set i (o.dst, x) := by
  unfold slotsR
  apply List.ext_getElem?
  intro j
  by_cases hij : i = j
  · subst hij
    rw [List.getElem?_set]
    rw [if_pos rfl]
    by_cases hl : i < vals.length
    · have : (vals.set i x)[i]? = some x := by simp [hl]
      have h2 := slotsR_at ho this
      unfold slotsR at h2
      rw [h2, if_pos]
      have := (List.getElem?_eq_some_iff.1 ho).1
      simp; omega
    · rw [List.set_eq_of_length_le (by omega), if_neg (by simp; omega)]
      rw [List.getElem?_eq_none]; simp; omega
  · rw [List.getElem?_set_ne hij, List.zip_eq_zipWith, List.zip_eq_zipWith, List.getElem?_zipWith, List.getElem?_zipWith, List.getElem?_set_ne hij]
/-- what has come up: some operations, those that they wait for among them -/
structure CameUp (l : List Oper) (vals : List (Option Value)) : Prop where
  len : vals.length = l.length
  closed : ∀ (i : Nat) (o : Oper) (v : Value), l[i]? = some o → vals[i]? = some (some v) → ∀ e ∈ o.after, Region.binds .any e = true → ∃ u, vals[e.on]? = some (some u)
def flagsR (vals : List (Option Value)) : Array Bool := (vals.map Option.isSome).toArray
theorem flagsR_set (vals : List (Option Value)) (i : Nat) (v : Value) : (flagsR vals).setIfInBounds i true = flagsR (vals.set i (some v)) := by
  unfold flagsR
  apply Array.ext'
  simp [List.map_set]
theorem flagR_at {vals : List (Option Value)} {i : Nat} {d : Bool} (h : i < vals.length) : (flagsR vals).getD i d = (vals[i]).isSome := by
  unfold flagsR
  rw [Array.getD_eq_getD_getElem?]
  simp [h]
/-- **a region that draws its order, one step law an operation**: F holds of what has come up and of the world -/
theorem wp_region_steps {id : Nat} {l : List Oper} {a : Act} {w : World} (hm : P.follows .mixedOrders = true) (he : earlyR l = true) (hd : ((l.map Oper.dst).filterMap _root_.id).Nodup)
    (F : List (Option Value) → World → Prop) (h0 : F (l.map fun _ => none) w.drew)
    (hstep : ∀ (i : Nat) (o : Oper) (vals : List (Option Value)) (w' : World), l[i]? = some o → CameUp l vals → vals[i]? = some none → (∀ e ∈ o.after, Region.binds .any e = true → ∃ u, vals[e.on]? = some (some u)) → F vals w' →
      ∀ K : Act → World → Prop, (∀ v w'', F (vals.set i (some v)) w'' → K ((putsR (slotsR l vals) a).put o.dst v) w'') →
      if Region.wanted o (yielded l.toArray (putsR (slotsR l vals) a).tmps) = true then Oper.wp P o (putsR (slotsR l vals) a) w' K Q else K ((putsR (slotsR l vals) a).put o.dst undef) w')
    (hend : ∀ (vs : List Value) (w' : World), vs.length = l.length → F (vs.map some) w' → Q .normal (putsR (slotsR l (vs.map some)) a) w') :
    (Code.region id l.toArray true).wp P Q a w := by
  refine wp_region_any hm ?_
  have hap : ∀ vals : List (Option Value), vals.length = l.length → ApartR ((slotsR l vals).map Prod.fst) := fun vals hv => by rw [slotsR_fst hv]; exact apartR_of hd
  have key : ∀ (n : Nat) (vals : List (Option Value)) (w' : World), CameUp l vals → (vals.filter (fun x => x.isNone)).length ≤ n → F vals w' → wpAny P .any l.toArray Q n (flagsR vals) (putsR (slotsR l vals) a) w' := by
    have all : ∀ (vals : List (Option Value)), CameUp l vals → Region.ready .any l.toArray (flagsR vals) = [] → ∀ i, i < l.length → ∃ v, vals[i]? = some (some v) := by
      intro vals hc hr i
      induction i using Nat.strongRecOn with
      | _ i ih =>
        intro hi
        have hiv : i < vals.length := by rw [hc.len]; exact hi
        cases hx : vals[i] with
        | some v => exact ⟨v, by rw [List.getElem?_eq_getElem hiv, hx]⟩
        | none =>
          exfalso
          have hmem : i ∈ Region.ready .any l.toArray (flagsR vals) := mem_ready.2 ⟨by rw [flagR_at hiv, hx]; rfl, l[i], by simp [hi], fun e hem hb => by
            have hlt := earlyR_spec he (List.getElem?_eq_getElem hi) e hem
            obtain ⟨u, hu⟩ := ih e.on hlt (by omega)
            have hel : e.on < vals.length := by omega
            rw [flagR_at hel]
            rw [List.getElem?_eq_getElem hel] at hu
            injection hu with hu
            rw [hu]; rfl⟩
          rw [hr] at hmem
          cases hmem
    have done : ∀ (vals : List (Option Value)) (w' : World), CameUp l vals → F vals w' → Region.ready .any l.toArray (flagsR vals) = [] → Q .normal (putsR (slotsR l vals) a) w' := by
      intro vals w' hc hF hr
      have hall := all vals hc hr
      have hv : vals = (vals.map fun x => x.getD undef).map some := by
        apply List.ext_getElem?
        intro i
        rw [List.getElem?_map, List.getElem?_map]
        by_cases hi : i < vals.length
        · obtain ⟨v, hv⟩ := hall i (by rw [← hc.len]; exact hi)
          rw [hv]; rfl
        · rw [List.getElem?_eq_none (by omega)]; rfl
      rw [hv] at hF ⊢
      exact hend _ w' (by rw [List.length_map]; exact hc.len) hF
    intro n
    induction n with
    | zero =>
      intro vals w' hc hn hF
      have hr : Region.ready .any l.toArray (flagsR vals) = [] := by
        rw [List.eq_nil_iff_forall_not_mem]
        intro i hi
        obtain ⟨h1, o, ho, _⟩ := mem_ready.1 hi
        have hil : i < l.length := by have := (Array.getElem?_eq_some_iff.1 ho).1; simpa using this
        have hiv : i < vals.length := by rw [hc.len]; exact hil
        rw [flagR_at hiv] at h1
        have hno : vals[i] = none := by cases h : vals[i] with | none => rfl | some v => rw [h] at h1; cases h1
        have : vals[i] ∈ vals.filter (fun x => x.isNone) := List.mem_filter.2 ⟨List.getElem_mem hiv, by rw [hno]; rfl⟩
        have := List.length_pos_of_mem this
        omega
      exact ⟨hr, done vals w' hc hF hr⟩
    | succ n ih =>
      intro vals w' hc hn hF
      refine ⟨fun hr => done vals w' hc hF hr, fun i hi => ?_⟩
      obtain ⟨h1, o, ho, hdeps⟩ := mem_ready.1 hi
      have ho' : l[i]? = some o := by simpa using ho
      have hil : i < l.length := (List.getElem?_eq_some_iff.1 ho').1
      have hiv : i < vals.length := by rw [hc.len]; exact hil
      rw [flagR_at hiv] at h1
      have hno : vals[i] = none := by cases h : vals[i] with | none => rfl | some v => rw [h] at h1; cases h1
      have hno' : vals[i]? = some none := by rw [List.getElem?_eq_getElem hiv, hno]
      have hdeps' : ∀ e ∈ o.after, Region.binds .any e = true → ∃ u, vals[e.on]? = some (some u) := fun e hem hb => by
        have h2 := hdeps e hem hb
        have hlt := earlyR_spec he ho' e hem
        have hel : e.on < vals.length := by omega
        rw [flagR_at hel] at h2
        obtain ⟨u, hu⟩ := Option.isSome_iff_exists.1 h2
        exact ⟨u, by rw [List.getElem?_eq_getElem hel, hu]⟩
      refine wpOp_step ho fun K' hK => hstep i o vals w' ho' hc hno' hdeps' hF K' fun v w'' hF' => hK _ _ ?_
      have hc' : CameUp l (vals.set i (some v)) := by
        refine ⟨by rw [List.length_set]; exact hc.len, fun j oj u hoj hu e hem hb => ?_⟩
        have hs : ∀ k u, vals[k]? = some (some u) → ∃ u', (vals.set i (some v))[k]? = some (some u') := fun k u hk => by
          by_cases hik : i = k
          · subst hik; rw [hno'] at hk; cases hk
          · exact ⟨u, by rw [List.getElem?_set_ne hik]; exact hk⟩
        by_cases hij : i = j
        · subst hij
          rw [ho'] at hoj
          cases hoj
          obtain ⟨u', hu'⟩ := hdeps' e hem hb
          exact hs _ _ hu'
        · rw [List.getElem?_set_ne hij] at hu
          obtain ⟨u', hu'⟩ := hc.closed j oj u hoj hu e hem hb
          exact hs _ _ hu'
      rw [flagsR_set vals i v, putsR_set _ a i o.dst v (hap vals hc.len) (slotsR_at ho' hno'), ← slotsR_set ho']
      refine ih _ w'' hc' ?_ hF'
      have hcnt : ∀ (vals : List (Option Value)) (i : Nat), vals[i]? = some none → ((vals.set i (some v)).filter (fun x => x.isNone)).length + 1 = (vals.filter (fun x => x.isNone)).length := by
        intro vals
        induction vals with
        | nil => intro i h; simp at h
        | cons x vals ih =>
          intro i h
          cases i with
          | zero =>
            obtain rfl : x = none := by simpa using h
            simp
          | succ i =>
            have := ih i (by simpa using h)
            rw [List.set_cons_succ, List.filter_cons, List.filter_cons]
            split <;> simp_all
      have := hcnt vals i hno'
      omega
  have h := key l.length (l.map fun _ => none) w.drew ⟨by simp, fun i o v _ hv => by rw [List.getElem?_map] at hv; cases l[i]? <;> simp at hv⟩ (by
    refine Nat.le_trans (List.length_filter_le _ _) (by simp)) h0
  have e1 : flagsR (l.map fun _ => none) = Array.replicate l.toArray.size false := by
    unfold flagsR
    apply Array.ext'
    rw [List.map_map]
    show List.map (fun _ => false) l = _
    rw [List.map_const', List.size_toArray, Array.toList_replicate]
  have e2 : putsR (slotsR l (l.map fun _ => none)) a = a := by
    have : ∀ (m : List (Option Tmp × Option Value)) (a : Act), (∀ x ∈ m, x.2 = none) → putsR m a = a := by
      intro m
      induction m with
      | nil => intro a _; rfl
      | cons x m ih =>
        intro a h
        obtain ⟨d, y⟩ := x
        obtain rfl : y = none := h (d, y) List.mem_cons_self
        exact ih a fun z hz => h z (List.mem_cons_of_mem _ hz)
    refine this _ a fun x hx => ?_
    obtain ⟨d, y⟩ := x
    have := (List.of_mem_zip hx).2
    simp at this
    exact this.2.symm
  rw [e1, e2] at h
  simpa using h
end
end Go.Proofs.Ytbccdmpnojdldaa
