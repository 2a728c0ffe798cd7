/- Whether two lists are one, by the reference. -/
import Derived.Test.YtpfjeibhklacbaaDAtM
namespace Go.Proofs.Ytpfjeibhklacbaa
open Go Go.RowKit

set_option maxRecDepth 100000 in
set_option maxHeartbeats 16000000 in
theorem sameC_any (A A' : Option Addr) (c c' : Nat) (l m : List Ct) (w : World) (hl : Cts w w.heap.size A l) (hm : Cts w w.heap.size A' m) (hol : ∀ u ∈ l, COk u) (hom : ∀ u ∈ m, COk u) (hn : l.length ≤ 1099511627776) (hn' : m.length ≤ 1099511627776) :
    Calls Try.prog 23 #[.slice A l.length c, .slice A' m.length c'] w fun x w' => ∃ b : Bool, x = .returned (.bool b) ∧ (b = true ↔ l.map Ct.p = m.map Ct.p) ∧ Below w.heap.size w w' := by
  have HL := Lib.hid (And.intro hl (And.intro hm (And.intro hol hom)))
  clear hl hm hol hom
  by_cases hlen : l.length = m.length
  case neg =>
    have t1 : ((l.length : Int) != (m.length : Int)) = true := by rw [bne_iff_ne]; omega
    have HN := Lib.hid hlen
    clear hlen
    go_enter Try.func23, Try.ntmps23
    go_wp2_with fail
    go_ret
    exact ⟨false, rfl, by simp only [Bool.false_eq_true, false_iff]; exact fun h => HN.out (by have := congrArg List.length h; simpa using this), Below.refl _ _⟩
  have t1 : ((l.length : Int) != (m.length : Int)) = false := by simp [hlen]
  have HE := Lib.hid hlen
  clear hlen
  go_enter Try.func23, Try.ntmps23
  go_wp2_with fail
  go_loopw [13] (fun v13 wr => ∃ j : Nat, v13 = .int .i64 (j : Int) ∧ j ≤ l.length ∧ Below w.heap.size w wr ∧ (l.take j).map Ct.p = (m.take j).map Ct.p) (fun v13 _ => l.length - (intOf v13).toNat)
  case atStart => exact ⟨0, rfl, by omega, Below.refl _ _, rfl⟩
  case round =>
    obtain ⟨j, rfl, hj, hbj, heq⟩ := hrel
    obtain ⟨wi, hwi⟩ : ∃ wi, wi = wr := ⟨_, rfl⟩
    subst hwi
    by_cases hjt : j < l.length
    · have hjm : j < m.length := by have := HE.out; omega
      have hx : l[j]? = some l[j] := List.getElem?_eq_getElem hjt
      have hy : m[j]? = some m[j] := List.getElem?_eq_getElem hjm
      have hxm := List.mem_of_getElem? hx
      have hym := List.mem_of_getElem? hy
      generalize l[j] = x at *
      generalize m[j] = y at *
      obtain ⟨b, o, rfl, hB, hxs⟩ := lies_ct HL.out.1.head (by omega)
      obtain ⟨b', o', rfl, hB', hys⟩ := lies_ct HL.out.2.1.head (by omega)
      have hX := fun p : Past wi => ((hxs j x hx).past_ (hbj.trans (p.h.mono hbj.size)) hB).two
      have hY := fun p : Past wi => ((hys j y hy).past_ (hbj.trans (p.h.mono hbj.size)) hB').two
      have hxin := fun p : Past wi => ((HL.out.1.each_ x hxm).past (hbj.trans (p.h.mono hbj.size)) (Nat.le_refl _)).wide (Nat.le_trans hbj.size p.h.size)
      have hyin := fun p : Past wi => ((HL.out.2.1.each_ y hym).past (hbj.trans (p.h.mono hbj.size)) (Nat.le_refl _)).wide (Nat.le_trans hbj.size p.h.size)
      have hxo := HL.out.2.2.1 x hxm
      have hyo := HL.out.2.2.2 y hym
      have u1 := fun p : Past wi => calls_past (vsame_any x.rA y.rA x.rc y.rc x.row y.row p.w (hxin p).row (hyin p).row (maxn hxo.rn) (maxn hyo.rn))
      have hnext := fun h : x.p = y.p => (show (l.take (j + 1)).map Ct.p = (m.take (j + 1)).map Ct.p by rw [List.take_add_one, List.take_add_one, hx, hy, List.map_append, List.map_append, heq]; simp only [Option.toList_some, List.map_cons, List.map_nil]; rw [h])
      have hne := fun h : x.p ≠ y.p => (show ¬ l.map Ct.p = m.map Ct.p from fun e => h (by
        have h1 : (l.map Ct.p)[j]? = some x.p := by rw [List.getElem?_map, hx]; rfl
        have h2 : (m.map Ct.p)[j]? = some y.p := by rw [List.getElem?_map, hy]; rfl
        rw [e, h2] at h1
        exact (Option.some.inj h1).symm))
      have HJ := Lib.hid (And.intro hbj heq)
      have q0 : (0 : Int) ≤ (j : Int) := by omega
      have q1 : (j : Int) < (l.length : Int) := by omega
      have q1' : (j : Int) < (m.length : Int) := by omega
      have q2 : decide ((j : Int) < (l.length : Int)) = true := decide_eq_true q1
      clear hx hy hxm hym hxs hys hbj heq hxin hyin hxo hyo
      by_cases hr : x.row = y.row
      · simp only [decide_eq_true hr] at u1
        by_cases hd : x.n = y.n
        · have t2 : (x.n != y.n) = false := by simp [hd]
          have HEQ := Lib.hid (hnext (by unfold Ct.p; rw [hr, hd]))
          clear hr hd hnext hne
          go_upto_region 6 with fail
          refine wp_region_past wi (by kernel_rfl) (by kernel_rfl) (Below.refl _ _) ?_
          repeat (first | go_big_quiet_step (fail) | quiet_step (fail))
          quiet_step ((go_at_call 31; exact u1 _))
          repeat (first | go_big_quiet_step (fail) | quiet_step (fail))
          refine wpQuiet_nil ?_
          intro wz hw'
          obtain ⟨⟨wy, hbz⟩, hw''⟩ := hw'
          dsimp only at hw''
          subst hw''
          have HZ := Lib.hid (HJ.out.1.trans (hbz.mono HJ.out.1.size))
          clear hbz
          go_wp2_with fail
          go_roundw
          case rel => exact ⟨j + 1, by go_num, by omega, HZ.out, HEQ.out⟩
          case measure => simp [intOf]; omega
        · have t2 : (x.n != y.n) = true := bne_iff_ne.2 hd
          have HNE := Lib.hid (hne fun e => hd (congrArg Prod.snd e))
          clear hr hd hnext hne
          go_upto_region 6 with fail
          refine wp_region_past wi (by kernel_rfl) (by kernel_rfl) (Below.refl _ _) ?_
          repeat (first | go_big_quiet_step (fail) | quiet_step (fail))
          quiet_step ((go_at_call 31; exact u1 _))
          repeat (first | go_big_quiet_step (fail) | quiet_step (fail))
          refine wpQuiet_nil ?_
          intro wz hw'
          obtain ⟨⟨wy, hbz⟩, hw''⟩ := hw'
          dsimp only at hw''
          subst hw''
          have HZ := Lib.hid (HJ.out.1.trans (hbz.mono HJ.out.1.size))
          clear hbz
          go_wp2_with fail
          go_ret
          exact ⟨false, rfl, by simp only [Bool.false_eq_true, false_iff]; exact HNE.out, HZ.out⟩
      · simp only [decide_eq_false hr] at u1
        have HNE := Lib.hid (hne fun e => hr (congrArg Prod.fst e))
        clear hr hnext hne
        go_upto_region 6 with fail
        refine wp_region_past wi (by kernel_rfl) (by kernel_rfl) (Below.refl _ _) ?_
        repeat (first | go_big_quiet_step (fail) | quiet_step (fail))
        quiet_step ((go_at_call 31; exact u1 _))
        repeat (first | go_big_quiet_step (fail) | quiet_step (fail))
        refine wpQuiet_nil ?_
        intro wz hw'
        obtain ⟨⟨wy, hbz⟩, hw''⟩ := hw'
        dsimp only at hw''
        subst hw''
        have HZ := Lib.hid (HJ.out.1.trans (hbz.mono HJ.out.1.size))
        clear hbz
        go_wp2_with fail
        go_ret
        exact ⟨false, rfl, by simp only [Bool.false_eq_true, false_iff]; exact HNE.out, HZ.out⟩
    · have hj2 : j = l.length := by omega
      have q2 : decide ((j : Int) < (l.length : Int)) = false := decide_eq_false (by omega)
      rw [hj2, List.take_length, HE.out, List.take_length] at heq
      have HJ := Lib.hid (And.intro hbj heq)
      clear hbj heq
      go_wp2_with fail
      go_ret
      exact ⟨true, rfl, ⟨fun _ => HJ.out.2, fun _ => rfl⟩, HJ.out.1⟩
end Go.Proofs.Ytpfjeibhklacbaa
namespace Go.Proofs.Ytpfjeibhklacbaa
open Go Go.RowKit

set_option maxRecDepth 100000 in
set_option maxHeartbeats 16000000 in
theorem sameU_any (A A' : Option Addr) (c c' : Nat) (l m : List Up) (w : World) (hl : Ups w w.heap.size A l) (hm : Ups w w.heap.size A' m) (hol : ∀ u ∈ l, UOk u) (hom : ∀ u ∈ m, UOk u) (hn : l.length ≤ 1099511627776) (hn' : m.length ≤ 1099511627776) :
    Calls Try.prog 12 #[.slice A l.length c, .slice A' m.length c'] w fun x w' => ∃ b : Bool, x = .returned (.bool b) ∧ (b = true ↔ l.map Up.p = m.map Up.p) ∧ Below w.heap.size w w' := by
  have HL := Lib.hid (And.intro hl (And.intro hm (And.intro hol hom)))
  clear hl hm hol hom
  by_cases hlen : l.length = m.length
  case neg =>
    have t1 : ((l.length : Int) != (m.length : Int)) = true := by rw [bne_iff_ne]; omega
    have HN := Lib.hid hlen
    clear hlen
    go_enter Try.func12, Try.ntmps12
    go_wp2_with fail
    go_ret
    exact ⟨false, rfl, by simp only [Bool.false_eq_true, false_iff]; exact fun h => HN.out (by have := congrArg List.length h; simpa using this), Below.refl _ _⟩
  have t1 : ((l.length : Int) != (m.length : Int)) = false := by simp [hlen]
  have HE := Lib.hid hlen
  clear hlen
  go_enter Try.func12, Try.ntmps12
  go_wp2_with fail
  go_loopw [13] (fun v13 wr => ∃ j : Nat, v13 = .int .i64 (j : Int) ∧ j ≤ l.length ∧ Below w.heap.size w wr ∧ (l.take j).map Up.p = (m.take j).map Up.p) (fun v13 _ => l.length - (intOf v13).toNat)
  case atStart => exact ⟨0, rfl, by omega, Below.refl _ _, rfl⟩
  case round =>
    obtain ⟨j, rfl, hj, hbj, heq⟩ := hrel
    obtain ⟨wi, hwi⟩ : ∃ wi, wi = wr := ⟨_, rfl⟩
    subst hwi
    by_cases hjt : j < l.length
    · have hjm : j < m.length := by have := HE.out; omega
      have hx : l[j]? = some l[j] := List.getElem?_eq_getElem hjt
      have hy : m[j]? = some m[j] := List.getElem?_eq_getElem hjm
      have hxm := List.mem_of_getElem? hx
      have hym := List.mem_of_getElem? hy
      generalize l[j] = x at *
      generalize m[j] = y at *
      obtain ⟨b, o, rfl, hB, hxs⟩ := lies_up HL.out.1.head (by omega)
      obtain ⟨b', o', rfl, hB', hys⟩ := lies_up HL.out.2.1.head (by omega)
      have hX := fun p : Past wi => ((hxs j x hx).past_ (hbj.trans (p.h.mono hbj.size)) hB).six
      have hY := fun p : Past wi => ((hys j y hy).past_ (hbj.trans (p.h.mono hbj.size)) hB').six
      have hxin := fun p : Past wi => ((HL.out.1.each_ x hxm).past (hbj.trans (p.h.mono hbj.size)) (Nat.le_refl _)).wide (Nat.le_trans hbj.size p.h.size)
      have hyin := fun p : Past wi => ((HL.out.2.1.each_ y hym).past (hbj.trans (p.h.mono hbj.size)) (Nat.le_refl _)).wide (Nat.le_trans hbj.size p.h.size)
      have hxo := HL.out.2.2.1 x hxm
      have hyo := HL.out.2.2.2 y hym
      have u1 := fun p : Past wi => calls_past (vsame_any x.kA y.kA x.kc y.kc x.key y.key p.w (hxin p).key (hyin p).key (maxn hxo.kn) (maxn hyo.kn))
      have u2 := fun p : Past wi => calls_past (vsame_any x.rA y.rA x.rc y.rc x.row y.row p.w (hxin p).row (hyin p).row (maxn hxo.rn) (maxn hyo.rn))
      have hnext := fun h : x.p = y.p => (show (l.take (j + 1)).map Up.p = (m.take (j + 1)).map Up.p by rw [List.take_add_one, List.take_add_one, hx, hy, List.map_append, List.map_append, heq]; simp only [Option.toList_some, List.map_cons, List.map_nil]; rw [h])
      have hne := fun h : x.p ≠ y.p => (show ¬ l.map Up.p = m.map Up.p from fun e => h (by
        have h1 : (l.map Up.p)[j]? = some x.p := by rw [List.getElem?_map, hx]; rfl
        have h2 : (m.map Up.p)[j]? = some y.p := by rw [List.getElem?_map, hy]; rfl
        rw [e, h2] at h1
        exact (Option.some.inj h1).symm))
      have HJ := Lib.hid (And.intro hbj heq)
      have q0 : (0 : Int) ≤ (j : Int) := by omega
      have q1 : (j : Int) < (l.length : Int) := by omega
      have q1' : (j : Int) < (m.length : Int) := by omega
      have q2 : decide ((j : Int) < (l.length : Int)) = true := decide_eq_true q1
      clear hx hy hxm hym hxs hys hbj heq hxin hyin hxo hyo
      by_cases hk : x.key = y.key
      · simp only [decide_eq_true hk] at u1
        by_cases hr : x.row = y.row
        · simp only [decide_eq_true hr] at u2
          have hq : ∀ W, (binOp .neq 36 (.agg #[.int .u64 (x.t.e : Int), .int .u64 (x.t.a : Int), .int .u64 (x.t.b : Int)]) (.agg #[.int .u64 (y.t.e : Int), .int .u64 (y.t.a : Int), .int .u64 (y.t.b : Int)])).run Try.prog W = .ok (.bool (!eqT x.t y.t)) W := fun W => neq_time x.t y.t W
          have hgd := fun (x1 y1 : Operand) (xs ys : Array Value) (w : World) => grd_time .neq x1 y1 xs ys w
          by_cases ht : x.t = y.t
          · rw [eqT_iff.2 ht] at hq
            by_cases hd : x.d = y.d
            · have t2 : (x.d != y.d) = false := by simp [hd]
              have HEQ := Lib.hid (hnext (by unfold Up.p Up.k; rw [hk, hr, ht, hd]))
              clear hk hr ht hd hnext hne
              go_upto_region 6 with fail
              refine wp_region_past wi (by kernel_rfl) (by kernel_rfl) (Below.refl _ _) ?_
              repeat (first | go_big_quiet_step (fail) | quiet_step (fail))
              quiet_step ((go_at_call 31; exact u1 _))
              repeat (first | go_big_quiet_step (fail) | quiet_step (fail))
              quiet_step ((go_at_call 31; exact u2 _))
              repeat (first | go_big_quiet_step (fail) | quiet_step (fail))
              refine wpQuiet_nil ?_
              intro wz hw'
              obtain ⟨⟨wy, hbz⟩, hw''⟩ := hw'
              dsimp only at hw''
              subst hw''
              have HZ := Lib.hid (HJ.out.1.trans (hbz.mono HJ.out.1.size))
              clear hbz
              go_wp2_with fail
              go_roundw
              case rel => exact ⟨j + 1, by go_num, by omega, HZ.out, HEQ.out⟩
              case measure => simp [intOf]; omega
            · have t2 : (x.d != y.d) = true := bne_iff_ne.2 hd
              have HNE := Lib.hid (hne fun e => hd (congrArg Prod.snd e))
              clear hk hr ht hd hnext hne
              go_upto_region 6 with fail
              refine wp_region_past wi (by kernel_rfl) (by kernel_rfl) (Below.refl _ _) ?_
              repeat (first | go_big_quiet_step (fail) | quiet_step (fail))
              quiet_step ((go_at_call 31; exact u1 _))
              repeat (first | go_big_quiet_step (fail) | quiet_step (fail))
              quiet_step ((go_at_call 31; exact u2 _))
              repeat (first | go_big_quiet_step (fail) | quiet_step (fail))
              refine wpQuiet_nil ?_
              intro wz hw'
              obtain ⟨⟨wy, hbz⟩, hw''⟩ := hw'
              dsimp only at hw''
              subst hw''
              have HZ := Lib.hid (HJ.out.1.trans (hbz.mono HJ.out.1.size))
              clear hbz
              go_wp2_with fail
              go_ret
              exact ⟨false, rfl, by simp only [Bool.false_eq_true, false_iff]; exact HNE.out, HZ.out⟩
          · rw [show eqT x.t y.t = false from Bool.eq_false_iff.2 fun h => ht (eqT_iff.1 h)] at hq
            have HNE := Lib.hid (hne fun e => ht (congrArg (fun z => z.1.t) e))
            clear hk hr ht hnext hne
            go_upto_region 6 with fail
            refine wp_region_past wi (by kernel_rfl) (by kernel_rfl) (Below.refl _ _) ?_
            repeat (first | go_big_quiet_step (fail) | quiet_step (fail))
            quiet_step ((go_at_call 31; exact u1 _))
            repeat (first | go_big_quiet_step (fail) | quiet_step (fail))
            quiet_step ((go_at_call 31; exact u2 _))
            repeat (first | go_big_quiet_step (fail) | quiet_step (fail))
            refine wpQuiet_nil ?_
            intro wz hw'
            obtain ⟨⟨wy, hbz⟩, hw''⟩ := hw'
            dsimp only at hw''
            subst hw''
            have HZ := Lib.hid (HJ.out.1.trans (hbz.mono HJ.out.1.size))
            clear hbz
            go_wp2_with fail
            go_ret
            exact ⟨false, rfl, by simp only [Bool.false_eq_true, false_iff]; exact HNE.out, HZ.out⟩
        · simp only [decide_eq_false hr] at u2
          have HNE := Lib.hid (hne fun e => hr (congrArg (fun z => z.1.row) e))
          clear hk hr hnext hne
          go_upto_region 6 with fail
          refine wp_region_past wi (by kernel_rfl) (by kernel_rfl) (Below.refl _ _) ?_
          repeat (first | go_big_quiet_step (fail) | quiet_step (fail))
          quiet_step ((go_at_call 31; exact u1 _))
          repeat (first | go_big_quiet_step (fail) | quiet_step (fail))
          quiet_step ((go_at_call 31; exact u2 _))
          repeat (first | go_big_quiet_step (fail) | quiet_step (fail))
          refine wpQuiet_nil ?_
          intro wz hw'
          obtain ⟨⟨wy, hbz⟩, hw''⟩ := hw'
          dsimp only at hw''
          subst hw''
          have HZ := Lib.hid (HJ.out.1.trans (hbz.mono HJ.out.1.size))
          clear hbz
          go_wp2_with fail
          go_ret
          exact ⟨false, rfl, by simp only [Bool.false_eq_true, false_iff]; exact HNE.out, HZ.out⟩
      · simp only [decide_eq_false hk] at u1
        have HNE := Lib.hid (hne fun e => hk (congrArg (fun z => z.1.key) e))
        clear hk hnext hne u2
        go_upto_region 6 with fail
        refine wp_region_past wi (by kernel_rfl) (by kernel_rfl) (Below.refl _ _) ?_
        repeat (first | go_big_quiet_step (fail) | quiet_step (fail))
        quiet_step ((go_at_call 31; exact u1 _))
        repeat (first | go_big_quiet_step (fail) | quiet_step (fail))
        refine wpQuiet_nil ?_
        intro wz hw'
        obtain ⟨⟨wy, hbz⟩, hw''⟩ := hw'
        dsimp only at hw''
        subst hw''
        have HZ := Lib.hid (HJ.out.1.trans (hbz.mono HJ.out.1.size))
        clear hbz
        go_wp2_with fail
        go_ret
        exact ⟨false, rfl, by simp only [Bool.false_eq_true, false_iff]; exact HNE.out, HZ.out⟩
    · have hj2 : j = l.length := by omega
      have q2 : decide ((j : Int) < (l.length : Int)) = false := decide_eq_false (by omega)
      rw [hj2, List.take_length, HE.out, List.take_length] at heq
      have HJ := Lib.hid (And.intro hbj heq)
      clear hbj heq
      go_wp2_with fail
      go_ret
      exact ⟨true, rfl, ⟨fun _ => HJ.out.2, fun _ => rfl⟩, HJ.out.1⟩
end Go.Proofs.Ytpfjeibhklacbaa
namespace Go.Proofs.Ytpfjeibhklacbaa
open Go Go.RowKit

/-- evened out: no number is 0, they stand in order, each is right -/
def EvenP (l : List Up) : Prop := (∀ u ∈ l, u.d ≠ 0) ∧ Srt Uk.cmp (l.map Up.p) ∧ chkUs l = 0
/-- a Bool that tells whether p -/
def Tells (p : Prop) (w : World) (x : Ending) (w' : World) : Prop := ∃ b : Bool, x = .returned (.bool b) ∧ (b = true ↔ p) ∧ Below w.heap.size w w'
theorem srt_more {l : List Up} {j : Nat} {x u : Up} (h : Srt Uk.cmp ((l.take (j + 1)).map Up.p)) (hx : l[j]? = some x) (hu : l[j + 1]? = some u) (hlt : x.k.cmp u.k < 0) : Srt Uk.cmp ((l.take (j + 1 + 1)).map Up.p) := by
  have e1 : l.take (j + 1) = l.take j ++ [x] := by rw [List.take_add_one, hx]; rfl
  have e2 : l.take (j + 1 + 1) = l.take (j + 1) ++ [u] := by rw [List.take_add_one, hu]; rfl
  rw [e2, List.map_append]
  rw [e1, List.map_append] at h ⊢
  unfold Srt at *
  rw [List.pairwise_append]
  refine ⟨h, by simp, fun a ha b hb => ?_⟩
  obtain rfl : b = u.p := by simpa using hb
  rcases List.mem_append.1 ha with ha | ha
  · rw [List.pairwise_append] at h
    exact uk_lin.lt_trans (h.2.2 a ha x.p (by simp)) hlt
  · obtain rfl : a = x.p := by simpa using ha
    exact hlt
theorem srt_not {l : List Up} {j : Nat} {x u : Up} (hx : l[j]? = some x) (hu : l[j + 1]? = some u) (hge : ¬ x.k.cmp u.k < 0) : ¬ Srt Uk.cmp (l.map Up.p) := fun h => by
  unfold Srt at h
  obtain ⟨h1, rfl⟩ := List.getElem?_eq_some_iff.1 hx
  obtain ⟨h2, rfl⟩ := List.getElem?_eq_some_iff.1 hu
  have := List.pairwise_iff_getElem.1 h j (j + 1) (by simpa using h1) (by simpa using h2) (by omega)
  simp only [List.getElem_map] at this
  exact hge this
set_option maxRecDepth 100000 in
set_option maxHeartbeats 16000000 in
theorem even_any (A : Option Addr) (c : Nat) (l : List Up) (w : World) (hl : Ups w w.heap.size A l) (hok : ∀ u ∈ l, UOk u) (hn : l.length ≤ 1099511627776) :
    Calls Try.prog 15 #[.slice A l.length c] w (Tells (EvenP l) w) := by
  have HL := Lib.hid (And.intro hl hok)
  clear hl hok
  go_enter Try.func15, Try.ntmps15
  go_wp2_with fail
  go_loopw [7] (fun v7 wr => ∃ j : Nat, v7 = .int .i64 (j : Int) ∧ j ≤ l.length ∧ Below w.heap.size w wr ∧ (∀ u ∈ l.take j, u.d ≠ 0) ∧ Srt Uk.cmp ((l.take j).map Up.p)) (fun v7 _ => l.length - (intOf v7).toNat)
  case atStart => exact ⟨0, rfl, by omega, Below.refl _ _, fun u hu => (by cases hu), List.Pairwise.nil⟩
  case round =>
    obtain ⟨j, rfl, hj, hbj, hnz, hsrt⟩ := hrel
    obtain ⟨wi, hwi⟩ : ∃ wi, wi = wr := ⟨_, rfl⟩
    subst hwi
    by_cases hjt : j < l.length
    · have hy : l[j]? = some l[j] := List.getElem?_eq_getElem hjt
      have hym := List.mem_of_getElem? hy
      generalize l[j] = u at *
      obtain ⟨b, o, rfl, hB, hys⟩ := lies_up HL.out.1.head (by omega)
      obtain ⟨e0, e1, e2, e3, e4, e5⟩ := ((hys j u hy).past_ hbj hB).six
      obtain ⟨V, hV, hvb, hvs, hvo⟩ := upbox wi u
      have hbV := hbj.trans (hvb.mono hbj.size)
      have hX := fun p : Past V => own6 (hvo.past p.h hvo.inside)
      have hnz2 : u.d ≠ 0 → ∀ x ∈ l.take (j + 1), x.d ≠ 0 := fun h x hx => by
        rw [List.take_add_one, hy] at hx
        rcases List.mem_append.1 hx with hx | hx
        · exact hnz x hx
        · obtain rfl : x = u := by simpa using hx
          exact h
      have HJ := Lib.hid (And.intro hbV (And.intro hy (And.intro hym (And.intro hnz2 hsrt))))
      have q0 : (0 : Int) ≤ (j : Int) := by omega
      have q1 : (j : Int) < (l.length : Int) := by omega
      have q2 : decide ((j : Int) < (l.length : Int)) = true := decide_eq_true q1
      by_cases hd : u.d = 0
      · have t1 : (u.d == 0) = true := beq_iff_eq.2 hd
        have HN := Lib.hid (fun h : EvenP l => h.1 u hym hd)
        clear hy hym hbj hnz hsrt hvb hvs hbV hnz2 hvo hd
        go_upto_region 4 with fail
        rw [← hV]
        clear hV e0 e1 e2 e3 e4 e5
        refine wp_region_past V (by kernel_rfl) (by kernel_rfl) (Below.refl _ _) ?_
        repeat (first | go_big_quiet_step (fail) | quiet_step (fail))
        refine wpQuiet_nil ?_
        intro wz hw'
        obtain ⟨⟨wy, hbz⟩, hw''⟩ := hw'
        dsimp only at hw''
        subst hw''
        have HZ := Lib.hid (HJ.out.1.trans (hbz.mono HJ.out.1.size))
        clear hbz
        go_wp2_with fail
        go_ret
        exact ⟨false, rfl, by simp only [Bool.false_eq_true, false_iff]; exact HN.out, HZ.out⟩
      have t1 : (u.d == 0) = false := beq_eq_false_iff_ne.2 hd
      have HD := Lib.hid hd
      cases j with
      | zero =>
        simp only [Nat.zero_mul, Nat.add_zero] at e0 e1 e2 e3 e4 e5
        have q3 : decide ((0 : Int) < ((0 : Nat) : Int)) = false := by decide
        clear hy hym hbj hnz hsrt hvb hvs hbV hnz2 hvo hd
        go_upto_region 4 with fail
        rw [← hV]
        clear hV e0 e1 e2 e3 e4 e5
        refine wp_region_past V (by kernel_rfl) (by kernel_rfl) (Below.refl _ _) ?_
        repeat (first | go_big_quiet_step (fail) | quiet_step (fail))
        refine wpQuiet_nil ?_
        intro wz hw'
        obtain ⟨⟨wy, hbz⟩, hw''⟩ := hw'
        dsimp only at hw''
        subst hw''
        have HZ := Lib.hid (HJ.out.1.trans (hbz.mono HJ.out.1.size))
        clear hbz
        go_wp2_with fail
        go_roundw
        case rel =>
          refine ⟨1, by go_num, by omega, HZ.out, HJ.out.2.2.2.1 HD.out, ?_⟩
          have : l.take (0 + 1) = [u] := by rw [List.take_add_one, HJ.out.2.1]; rfl
          rw [this]
          unfold Srt
          simp
        case measure => simp [intOf]; omega
      | succ i =>
        have hx : l[i]? = some (l[i]'(by omega)) := List.getElem?_eq_getElem _
        have hxm := List.mem_of_getElem? hx
        generalize (l[i]'(by omega)) = x at *
        have hxs := fun p : Past V => ((hys i x hx).past_ (hbV.trans (p.h.mono hbV.size)) hB).six
        have hin := fun (z : Up) (hz : z ∈ l) (p : Past V) => ((HL.out.1.each_ z hz).past (hbV.trans (p.h.mono hbV.size)) (Nat.le_refl _)).wide (Nat.le_trans hbV.size p.h.size)
        have u1 : ∀ p : Past V, Calls Try.prog 17 #[.agg #[.slice x.kA x.key.length x.kc, .slice x.rA x.row.length x.rc, .int .u64 (x.t.e : Int), .int .u64 (x.t.a : Int), .int .u64 (x.t.b : Int), .int .i64 x.d], .agg #[.slice u.kA u.key.length u.kc, .slice u.rA u.row.length u.rc, .int .u64 (u.t.e : Int), .int .u64 (u.t.a : Int), .int .u64 (u.t.b : Int), .int .i64 u.d]] p.w fun e w'' => e = .returned (.int .i64 (x.k.cmp u.k)) ∧ ∃ q : Past V, w'' = q.w := fun p =>
          calls_past ((dcompare_gr x u p.w (hin x hxm p) (hin u hym p) (HL.out.2 x hxm) (HL.out.2 u hym)).mono fun e w' h => ⟨h.1, h.2.below⟩)
        obtain ⟨r, hr⟩ : ∃ r, x.k.cmp u.k = r := ⟨_, rfl⟩
        rw [hr] at u1
        have HX := Lib.hid (And.intro hx hr)
        have q3 : (0 : Int) ≤ (i : Int) := by omega
        have q4 : (i : Int) < (l.length : Int) := by omega
        have q5 : decide (((i + 1 : Nat) : Int) > 0) = true := decide_eq_true (by omega)
        have q5' : decide ((0 : Int) < (i : Int) + 1) = true := decide_eq_true (by omega)
        by_cases hr0 : r < 0
        · have t2 : decide (r ≥ 0) = false := decide_eq_false (by omega)
          have t2' : decide (0 ≤ r) = false := decide_eq_false (by omega)
          have HR0 := Lib.hid hr0
          clear hy hym hbj hnz hsrt hvb hvs hbV hnz2 hvo hd hx hxm hr hin hr0
          go_upto_region 4 with fail
          rw [← hV]
          clear hV e0 e1 e2 e3 e4 e5
          refine wp_region_past V (by kernel_rfl) (by kernel_rfl) (Below.refl _ _) ?_
          repeat (first | go_big_quiet_step (fail) | quiet_step (fail))
          quiet_step ((go_at_call 17; exact u1 _))
          repeat (first | go_big_quiet_step (fail) | quiet_step (fail))
          refine wpQuiet_nil ?_
          intro wz hw'
          obtain ⟨⟨wy, hbz⟩, hw''⟩ := hw'
          dsimp only at hw''
          subst hw''
          have HZ := Lib.hid (HJ.out.1.trans (hbz.mono HJ.out.1.size))
          clear hbz
          go_wp2_with fail
          go_roundw
          case rel => exact ⟨i + 1 + 1, by go_num, by omega, HZ.out, HJ.out.2.2.2.1 HD.out, srt_more HJ.out.2.2.2.2 HX.out.1 HJ.out.2.1 (by rw [HX.out.2]; exact HR0.out)⟩
          case measure => simp [intOf]; omega
        · have t2 : decide (r ≥ 0) = true := decide_eq_true (by omega)
          have t2' : decide (0 ≤ r) = true := decide_eq_true (by omega)
          have HR0 := Lib.hid hr0
          clear hy hym hbj hnz hsrt hvb hvs hbV hnz2 hvo hd hx hxm hr hin hr0
          go_upto_region 4 with fail
          rw [← hV]
          clear hV e0 e1 e2 e3 e4 e5
          refine wp_region_past V (by kernel_rfl) (by kernel_rfl) (Below.refl _ _) ?_
          repeat (first | go_big_quiet_step (fail) | quiet_step (fail))
          quiet_step ((go_at_call 17; exact u1 _))
          repeat (first | go_big_quiet_step (fail) | quiet_step (fail))
          refine wpQuiet_nil ?_
          intro wz hw'
          obtain ⟨⟨wy, hbz⟩, hw''⟩ := hw'
          dsimp only at hw''
          subst hw''
          have HZ := Lib.hid (HJ.out.1.trans (hbz.mono HJ.out.1.size))
          clear hbz
          go_wp2_with fail
          go_ret
          exact ⟨false, rfl, by simp only [Bool.false_eq_true, false_iff]; exact fun h => srt_not HX.out.1 HJ.out.2.1 (by rw [HX.out.2]; have := HR0.out; omega) h.2.1, HZ.out⟩
    · have hj2 : j = l.length := by omega
      have q2 : decide ((j : Int) < (l.length : Int)) = false := decide_eq_false (by omega)
      rw [hj2, List.take_length] at hnz hsrt
      have hcall := Lib.hid (dcheck_any A c l wi ((HL.out.1.past hbj (Nat.le_refl _)).wide hbj.size) (by omega) HL.out.2)
      obtain ⟨K, hK⟩ : ∃ K, chkUs l = K := ⟨_, rfl⟩
      rw [hK] at hcall
      have HJ := Lib.hid (And.intro hbj (And.intro hnz (And.intro hsrt hK)))
      clear hbj hnz hsrt hK
      go_wp2_with fail
      refine hcall.out.mono ?_
      rintro _ w9 ⟨rfl, b9⟩
      have H9 := Lib.hid (HJ.out.1.trans (b9.mono HJ.out.1.size))
      clear b9 hcall
      go_wp2_with fail
      go_ret
      exact ⟨K == 0, rfl, ⟨fun h => ⟨HJ.out.2.1, HJ.out.2.2.1, HJ.out.2.2.2.trans (beq_iff_eq.1 h)⟩, fun h => beq_iff_eq.2 (HJ.out.2.2.2.symm.trans h.2.2)⟩, H9.out⟩
end Go.Proofs.Ytpfjeibhklacbaa
