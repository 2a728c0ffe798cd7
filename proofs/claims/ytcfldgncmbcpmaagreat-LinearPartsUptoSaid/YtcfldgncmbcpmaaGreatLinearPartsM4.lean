/- Part 4 of the texts on which LinearParts rests: facts and contracts. -/
import Derived.Test.YtcfldgncmbcpmaaGreatLinearPartsM3
import Derived.BigQuiet
import Derived.Deep.RegionLaw
import Derived.Test.YtcfldgncmbcpmaaGreatSortP
namespace Go.Proofs.YtcfldgncmbcpmaaGreat
open Go Go.RowKit

set_option maxRecDepth 100000 in
set_option maxHeartbeats 16000000 in
theorem sameC_any (A A' : Option Addr) (c c' : Nat) (l m : List Ct) (w : World) (hl : Cts w w.heap.size A l) (hm : Cts w w.heap.size A' m) (hol : ∀ u ∈ l, COk u) (hom : ∀ u ∈ m, COk u) (hn : l.length ≤ 1099511627776) (hn' : m.length ≤ 1099511627776) :
    Calls Tryz.prog 15 #[.slice A l.length c, .slice A' m.length c'] w fun x w' => ∃ b : Bool, x = .returned (.bool b) ∧ (b = true ↔ l.map Ct.p = m.map Ct.p) ∧ Below w.heap.size w w' := by
  have HL := Lib.hid (And.intro hl (And.intro hm (And.intro hol hom)))
  clear hl hm hol hom
  by_cases hlen : l.length = m.length
  case neg =>
    have t1 : ((l.length : Int) != (m.length : Int)) = true := by rw [bne_iff_ne]; omega
    have HN := Lib.hid hlen
    clear hlen
    go_enter Tryz.func15, Tryz.ntmps15
    go_wp2_with fail
    go_ret
    exact ⟨false, rfl, by simp only [Bool.false_eq_true, false_iff]; exact fun h => HN.out (by have := congrArg List.length h; simpa using this), Below.refl _ _⟩
  have t1 : ((l.length : Int) != (m.length : Int)) = false := by simp [hlen]
  have HE := Lib.hid hlen
  clear hlen
  go_enter Tryz.func15, Tryz.ntmps15
  go_wp2_with fail
  go_loopw [13] (fun v13 wr => ∃ j : Nat, v13 = .int .i64 (j : Int) ∧ j ≤ l.length ∧ Below w.heap.size w wr ∧ (l.take j).map Ct.p = (m.take j).map Ct.p) (fun v13 _ => l.length - (intOf v13).toNat)
  case atStart => exact ⟨0, rfl, by omega, Below.refl _ _, rfl⟩
  case round =>
    obtain ⟨j, rfl, hj, hbj, heq⟩ := hrel
    obtain ⟨wi, hwi⟩ : ∃ wi, wi = wr := ⟨_, rfl⟩
    subst hwi
    by_cases hjt : j < l.length
    · have hjm : j < m.length := by have := HE.out; omega
      have hx : l[j]? = some l[j] := List.getElem?_eq_getElem hjt
      have hy : m[j]? = some m[j] := List.getElem?_eq_getElem hjm
      have hxm := List.mem_of_getElem? hx
      have hym := List.mem_of_getElem? hy
      generalize l[j] = x at *
      generalize m[j] = y at *
      obtain ⟨b, o, rfl, hB, hxs⟩ := lies_ct HL.out.1.head (by omega)
      obtain ⟨b', o', rfl, hB', hys⟩ := lies_ct HL.out.2.1.head (by omega)
      have hX := fun p : Past wi => ((hxs j x hx).past_ (hbj.trans (p.h.mono hbj.size)) hB).two
      have hY := fun p : Past wi => ((hys j y hy).past_ (hbj.trans (p.h.mono hbj.size)) hB').two
      have hxin := fun p : Past wi => ((HL.out.1.each_ x hxm).past (hbj.trans (p.h.mono hbj.size)) (Nat.le_refl _)).wide (Nat.le_trans hbj.size p.h.size)
      have hyin := fun p : Past wi => ((HL.out.2.1.each_ y hym).past (hbj.trans (p.h.mono hbj.size)) (Nat.le_refl _)).wide (Nat.le_trans hbj.size p.h.size)
      have hxo := HL.out.2.2.1 x hxm
      have hyo := HL.out.2.2.2 y hym
      have u1 := fun p : Past wi => calls_past (vsame_any x.rA y.rA x.rc y.rc x.row y.row p.w (hxin p).row (hyin p).row (maxn hxo.rn) (maxn hyo.rn))
      have hnext := fun h : x.p = y.p => (show (l.take (j + 1)).map Ct.p = (m.take (j + 1)).map Ct.p by rw [List.take_add_one, List.take_add_one, hx, hy, List.map_append, List.map_append, heq]; simp only [Option.toList_some, List.map_cons, List.map_nil]; rw [h])
      have hne := fun h : x.p ≠ y.p => (show ¬ l.map Ct.p = m.map Ct.p from fun e => h (by
        have h1 : (l.map Ct.p)[j]? = some x.p := by rw [List.getElem?_map, hx]; rfl
        have h2 : (m.map Ct.p)[j]? = some y.p := by rw [List.getElem?_map, hy]; rfl
        rw [e, h2] at h1
        exact (Option.some.inj h1).symm))
      have HJ := Lib.hid (And.intro hbj heq)
      have q0 : (0 : Int) ≤ (j : Int) := by omega
      have q1 : (j : Int) < (l.length : Int) := by omega
      have q1' : (j : Int) < (m.length : Int) := by omega
      have q2 : decide ((j : Int) < (l.length : Int)) = true := decide_eq_true q1
      clear hx hy hxm hym hxs hys hbj heq hxin hyin hxo hyo
      by_cases hr : x.row = y.row
      · simp only [decide_eq_true hr] at u1
        by_cases hd : x.n = y.n
        · have t2 : (x.n != y.n) = false := by simp [hd]
          have HEQ := Lib.hid (hnext (by unfold Ct.p; rw [hr, hd]))
          clear hr hd hnext hne
          go_upto_region 6 with fail
          refine wp_region_past wi (by kernel_rfl) (by kernel_rfl) (Below.refl _ _) ?_
          repeat (first | go_big_quiet_step (fail) | quiet_step (fail))
          quiet_step ((go_at_call 23; exact u1 _))
          repeat (first | go_big_quiet_step (fail) | quiet_step (fail))
          refine wpQuiet_nil ?_
          intro wz hw'
          obtain ⟨⟨wy, hbz⟩, hw''⟩ := hw'
          dsimp only at hw''
          subst hw''
          have HZ := Lib.hid (HJ.out.1.trans (hbz.mono HJ.out.1.size))
          clear hbz
          go_wp2_with fail
          go_roundw
          case rel => exact ⟨j + 1, by go_num, by omega, HZ.out, HEQ.out⟩
          case measure => simp [intOf]; omega
        · have t2 : (x.n != y.n) = true := bne_iff_ne.2 hd
          have HNE := Lib.hid (hne fun e => hd (congrArg Prod.snd e))
          clear hr hd hnext hne
          go_upto_region 6 with fail
          refine wp_region_past wi (by kernel_rfl) (by kernel_rfl) (Below.refl _ _) ?_
          repeat (first | go_big_quiet_step (fail) | quiet_step (fail))
          quiet_step ((go_at_call 23; exact u1 _))
          repeat (first | go_big_quiet_step (fail) | quiet_step (fail))
          refine wpQuiet_nil ?_
          intro wz hw'
          obtain ⟨⟨wy, hbz⟩, hw''⟩ := hw'
          dsimp only at hw''
          subst hw''
          have HZ := Lib.hid (HJ.out.1.trans (hbz.mono HJ.out.1.size))
          clear hbz
          go_wp2_with fail
          go_ret
          exact ⟨false, rfl, by simp only [Bool.false_eq_true, false_iff]; exact HNE.out, HZ.out⟩
      · simp only [decide_eq_false hr] at u1
        have HNE := Lib.hid (hne fun e => hr (congrArg Prod.fst e))
        clear hr hnext hne
        go_upto_region 6 with fail
        refine wp_region_past wi (by kernel_rfl) (by kernel_rfl) (Below.refl _ _) ?_
        repeat (first | go_big_quiet_step (fail) | quiet_step (fail))
        quiet_step ((go_at_call 23; exact u1 _))
        repeat (first | go_big_quiet_step (fail) | quiet_step (fail))
        refine wpQuiet_nil ?_
        intro wz hw'
        obtain ⟨⟨wy, hbz⟩, hw''⟩ := hw'
        dsimp only at hw''
        subst hw''
        have HZ := Lib.hid (HJ.out.1.trans (hbz.mono HJ.out.1.size))
        clear hbz
        go_wp2_with fail
        go_ret
        exact ⟨false, rfl, by simp only [Bool.false_eq_true, false_iff]; exact HNE.out, HZ.out⟩
    · have hj2 : j = l.length := by omega
      have q2 : decide ((j : Int) < (l.length : Int)) = false := decide_eq_false (by omega)
      rw [hj2, List.take_length, HE.out, List.take_length] at heq
      have HJ := Lib.hid (And.intro hbj heq)
      clear hbj heq
      go_wp2_with fail
      go_ret
      exact ⟨true, rfl, ⟨fun _ => HJ.out.2, fun _ => rfl⟩, HJ.out.1⟩
end Go.Proofs.YtcfldgncmbcpmaaGreat
namespace Go.Proofs.YtcfldgncmbcpmaaGreat
open Go Go.RowKit

set_option maxRecDepth 100000 in
set_option maxHeartbeats 16000000 in
theorem sameU_any (A A' : Option Addr) (c c' : Nat) (l m : List Up) (w : World) (hl : Ups w w.heap.size A l) (hm : Ups w w.heap.size A' m) (hol : ∀ u ∈ l, UOk u) (hom : ∀ u ∈ m, UOk u) (hn : l.length ≤ 1099511627776) (hn' : m.length ≤ 1099511627776) :
    Calls Tryz.prog 9 #[.slice A l.length c, .slice A' m.length c'] w fun x w' => ∃ b : Bool, x = .returned (.bool b) ∧ (b = true ↔ l.map Up.p = m.map Up.p) ∧ Below w.heap.size w w' := by
  have HL := Lib.hid (And.intro hl (And.intro hm (And.intro hol hom)))
  clear hl hm hol hom
  by_cases hlen : l.length = m.length
  case neg =>
    have t1 : ((l.length : Int) != (m.length : Int)) = true := by rw [bne_iff_ne]; omega
    have HN := Lib.hid hlen
    clear hlen
    go_enter Tryz.func9, Tryz.ntmps9
    go_wp2_with fail
    go_ret
    exact ⟨false, rfl, by simp only [Bool.false_eq_true, false_iff]; exact fun h => HN.out (by have := congrArg List.length h; simpa using this), Below.refl _ _⟩
  have t1 : ((l.length : Int) != (m.length : Int)) = false := by simp [hlen]
  have HE := Lib.hid hlen
  clear hlen
  go_enter Tryz.func9, Tryz.ntmps9
  go_wp2_with fail
  go_loopw [13] (fun v13 wr => ∃ j : Nat, v13 = .int .i64 (j : Int) ∧ j ≤ l.length ∧ Below w.heap.size w wr ∧ (l.take j).map Up.p = (m.take j).map Up.p) (fun v13 _ => l.length - (intOf v13).toNat)
  case atStart => exact ⟨0, rfl, by omega, Below.refl _ _, rfl⟩
  case round =>
    obtain ⟨j, rfl, hj, hbj, heq⟩ := hrel
    obtain ⟨wi, hwi⟩ : ∃ wi, wi = wr := ⟨_, rfl⟩
    subst hwi
    by_cases hjt : j < l.length
    · have hjm : j < m.length := by have := HE.out; omega
      have hx : l[j]? = some l[j] := List.getElem?_eq_getElem hjt
      have hy : m[j]? = some m[j] := List.getElem?_eq_getElem hjm
      have hxm := List.mem_of_getElem? hx
      have hym := List.mem_of_getElem? hy
      generalize l[j] = x at *
      generalize m[j] = y at *
      obtain ⟨b, o, rfl, hB, hxs⟩ := lies_up HL.out.1.head (by omega)
      obtain ⟨b', o', rfl, hB', hys⟩ := lies_up HL.out.2.1.head (by omega)
      have hX := fun p : Past wi => ((hxs j x hx).past_ (hbj.trans (p.h.mono hbj.size)) hB).six
      have hY := fun p : Past wi => ((hys j y hy).past_ (hbj.trans (p.h.mono hbj.size)) hB').six
      have hxin := fun p : Past wi => ((HL.out.1.each_ x hxm).past (hbj.trans (p.h.mono hbj.size)) (Nat.le_refl _)).wide (Nat.le_trans hbj.size p.h.size)
      have hyin := fun p : Past wi => ((HL.out.2.1.each_ y hym).past (hbj.trans (p.h.mono hbj.size)) (Nat.le_refl _)).wide (Nat.le_trans hbj.size p.h.size)
      have hxo := HL.out.2.2.1 x hxm
      have hyo := HL.out.2.2.2 y hym
      have u1 := fun p : Past wi => calls_past (vsame_any x.kA y.kA x.kc y.kc x.key y.key p.w (hxin p).key (hyin p).key (maxn hxo.kn) (maxn hyo.kn))
      have u2 := fun p : Past wi => calls_past (vsame_any x.rA y.rA x.rc y.rc x.row y.row p.w (hxin p).row (hyin p).row (maxn hxo.rn) (maxn hyo.rn))
      have hnext := fun h : x.p = y.p => (show (l.take (j + 1)).map Up.p = (m.take (j + 1)).map Up.p by rw [List.take_add_one, List.take_add_one, hx, hy, List.map_append, List.map_append, heq]; simp only [Option.toList_some, List.map_cons, List.map_nil]; rw [h])
      have hne := fun h : x.p ≠ y.p => (show ¬ l.map Up.p = m.map Up.p from fun e => h (by
        have h1 : (l.map Up.p)[j]? = some x.p := by rw [List.getElem?_map, hx]; rfl
        have h2 : (m.map Up.p)[j]? = some y.p := by rw [List.getElem?_map, hy]; rfl
        rw [e, h2] at h1
        exact (Option.some.inj h1).symm))
      have HJ := Lib.hid (And.intro hbj heq)
      have q0 : (0 : Int) ≤ (j : Int) := by omega
      have q1 : (j : Int) < (l.length : Int) := by omega
      have q1' : (j : Int) < (m.length : Int) := by omega
      have q2 : decide ((j : Int) < (l.length : Int)) = true := decide_eq_true q1
      clear hx hy hxm hym hxs hys hbj heq hxin hyin hxo hyo
      by_cases hk : x.key = y.key
      · simp only [decide_eq_true hk] at u1
        by_cases hr : x.row = y.row
        · simp only [decide_eq_true hr] at u2
          have hq : ∀ W, (binOp .neq 27 (.agg #[.int .u64 (x.t.e : Int), .int .u64 (x.t.a : Int), .int .u64 (x.t.b : Int)]) (.agg #[.int .u64 (y.t.e : Int), .int .u64 (y.t.a : Int), .int .u64 (y.t.b : Int)])).run Tryz.prog W = .ok (.bool (!eqT x.t y.t)) W := fun W => neq_time x.t y.t W
          have hgd := fun (x1 y1 : Operand) (xs ys : Array Value) (w : World) => grd_time .neq x1 y1 xs ys w
          by_cases ht : x.t = y.t
          · rw [eqT_iff.2 ht] at hq
            by_cases hd : x.d = y.d
            · have t2 : (x.d != y.d) = false := by simp [hd]
              have HEQ := Lib.hid (hnext (by unfold Up.p Up.k; rw [hk, hr, ht, hd]))
              clear hk hr ht hd hnext hne
              go_upto_region 6 with fail
              refine wp_region_past wi (by kernel_rfl) (by kernel_rfl) (Below.refl _ _) ?_
              repeat (first | go_big_quiet_step (fail) | quiet_step (fail))
              quiet_step ((go_at_call 23; exact u1 _))
              repeat (first | go_big_quiet_step (fail) | quiet_step (fail))
              quiet_step ((go_at_call 23; exact u2 _))
              repeat (first | go_big_quiet_step (fail) | quiet_step (fail))
              refine wpQuiet_nil ?_
              intro wz hw'
              obtain ⟨⟨wy, hbz⟩, hw''⟩ := hw'
              dsimp only at hw''
              subst hw''
              have HZ := Lib.hid (HJ.out.1.trans (hbz.mono HJ.out.1.size))
              clear hbz
              go_wp2_with fail
              go_roundw
              case rel => exact ⟨j + 1, by go_num, by omega, HZ.out, HEQ.out⟩
              case measure => simp [intOf]; omega
            · have t2 : (x.d != y.d) = true := bne_iff_ne.2 hd
              have HNE := Lib.hid (hne fun e => hd (congrArg Prod.snd e))
              clear hk hr ht hd hnext hne
              go_upto_region 6 with fail
              refine wp_region_past wi (by kernel_rfl) (by kernel_rfl) (Below.refl _ _) ?_
              repeat (first | go_big_quiet_step (fail) | quiet_step (fail))
              quiet_step ((go_at_call 23; exact u1 _))
              repeat (first | go_big_quiet_step (fail) | quiet_step (fail))
              quiet_step ((go_at_call 23; exact u2 _))
              repeat (first | go_big_quiet_step (fail) | quiet_step (fail))
              refine wpQuiet_nil ?_
              intro wz hw'
              obtain ⟨⟨wy, hbz⟩, hw''⟩ := hw'
              dsimp only at hw''
              subst hw''
              have HZ := Lib.hid (HJ.out.1.trans (hbz.mono HJ.out.1.size))
              clear hbz
              go_wp2_with fail
              go_ret
              exact ⟨false, rfl, by simp only [Bool.false_eq_true, false_iff]; exact HNE.out, HZ.out⟩
          · rw [show eqT x.t y.t = false from Bool.eq_false_iff.2 fun h => ht (eqT_iff.1 h)] at hq
            have HNE := Lib.hid (hne fun e => ht (congrArg (fun z => z.1.t) e))
            clear hk hr ht hnext hne
            go_upto_region 6 with fail
            refine wp_region_past wi (by kernel_rfl) (by kernel_rfl) (Below.refl _ _) ?_
            repeat (first | go_big_quiet_step (fail) | quiet_step (fail))
            quiet_step ((go_at_call 23; exact u1 _))
            repeat (first | go_big_quiet_step (fail) | quiet_step (fail))
            quiet_step ((go_at_call 23; exact u2 _))
            repeat (first | go_big_quiet_step (fail) | quiet_step (fail))
            refine wpQuiet_nil ?_
            intro wz hw'
            obtain ⟨⟨wy, hbz⟩, hw''⟩ := hw'
            dsimp only at hw''
            subst hw''
            have HZ := Lib.hid (HJ.out.1.trans (hbz.mono HJ.out.1.size))
            clear hbz
            go_wp2_with fail
            go_ret
            exact ⟨false, rfl, by simp only [Bool.false_eq_true, false_iff]; exact HNE.out, HZ.out⟩
        · simp only [decide_eq_false hr] at u2
          have HNE := Lib.hid (hne fun e => hr (congrArg (fun z => z.1.row) e))
          clear hk hr hnext hne
          go_upto_region 6 with fail
          refine wp_region_past wi (by kernel_rfl) (by kernel_rfl) (Below.refl _ _) ?_
          repeat (first | go_big_quiet_step (fail) | quiet_step (fail))
          quiet_step ((go_at_call 23; exact u1 _))
          repeat (first | go_big_quiet_step (fail) | quiet_step (fail))
          quiet_step ((go_at_call 23; exact u2 _))
          repeat (first | go_big_quiet_step (fail) | quiet_step (fail))
          refine wpQuiet_nil ?_
          intro wz hw'
          obtain ⟨⟨wy, hbz⟩, hw''⟩ := hw'
          dsimp only at hw''
          subst hw''
          have HZ := Lib.hid (HJ.out.1.trans (hbz.mono HJ.out.1.size))
          clear hbz
          go_wp2_with fail
          go_ret
          exact ⟨false, rfl, by simp only [Bool.false_eq_true, false_iff]; exact HNE.out, HZ.out⟩
      · simp only [decide_eq_false hk] at u1
        have HNE := Lib.hid (hne fun e => hk (congrArg (fun z => z.1.key) e))
        clear hk hnext hne u2
        go_upto_region 6 with fail
        refine wp_region_past wi (by kernel_rfl) (by kernel_rfl) (Below.refl _ _) ?_
        repeat (first | go_big_quiet_step (fail) | quiet_step (fail))
        quiet_step ((go_at_call 23; exact u1 _))
        repeat (first | go_big_quiet_step (fail) | quiet_step (fail))
        refine wpQuiet_nil ?_
        intro wz hw'
        obtain ⟨⟨wy, hbz⟩, hw''⟩ := hw'
        dsimp only at hw''
        subst hw''
        have HZ := Lib.hid (HJ.out.1.trans (hbz.mono HJ.out.1.size))
        clear hbz
        go_wp2_with fail
        go_ret
        exact ⟨false, rfl, by simp only [Bool.false_eq_true, false_iff]; exact HNE.out, HZ.out⟩
    · have hj2 : j = l.length := by omega
      have q2 : decide ((j : Int) < (l.length : Int)) = false := decide_eq_false (by omega)
      rw [hj2, List.take_length, HE.out, List.take_length] at heq
      have HJ := Lib.hid (And.intro hbj heq)
      clear hbj heq
      go_wp2_with fail
      go_ret
      exact ⟨true, rfl, ⟨fun _ => HJ.out.2, fun _ => rfl⟩, HJ.out.1⟩
end Go.Proofs.YtcfldgncmbcpmaaGreat
namespace Go.Proofs.YtcfldgncmbcpmaaGreat
open Go Go.RowKit

/-- evened out: no number is 0, they stand in order, each is right -/
def EvenP (l : List Up) : Prop := (∀ u ∈ l, u.d ≠ 0) ∧ Srt Uk.cmp (l.map Up.p) ∧ chkUs l = 0
/-- a Bool that tells whether p -/
def Tells (p : Prop) (w : World) (x : Ending) (w' : World) : Prop := ∃ b : Bool, x = .returned (.bool b) ∧ (b = true ↔ p) ∧ Below w.heap.size w w'
theorem srt_more {l : List Up} {j : Nat} {x u : Up} (h : Srt Uk.cmp ((l.take (j + 1)).map Up.p)) (hx : l[j]? = some x) (hu : l[j + 1]? = some u) (hlt : x.k.cmp u.k < 0) : Srt Uk.cmp ((l.take (j + 1 + 1)).map Up.p) := by
  have e1 : l.take (j + 1) = l.take j ++ [x] := by rw [List.take_add_one, hx]; rfl
  have e2 : l.take (j + 1 + 1) = l.take (j + 1) ++ [u] := by rw [List.take_add_one, hu]; rfl
  rw [e2, List.map_append]
  rw [e1, List.map_append] at h ⊢
  unfold Srt at *
  rw [List.pairwise_append]
  refine ⟨h, by simp, fun a ha b hb => ?_⟩
  obtain rfl : b = u.p := by simpa using hb
  rcases List.mem_append.1 ha with ha | ha
  · rw [List.pairwise_append] at h
    exact uk_lin.lt_trans (h.2.2 a ha x.p (by simp)) hlt
  · obtain rfl : a = x.p := by simpa using ha
    exact hlt
theorem srt_not {l : List Up} {j : Nat} {x u : Up} (hx : l[j]? = some x) (hu : l[j + 1]? = some u) (hge : ¬ x.k.cmp u.k < 0) : ¬ Srt Uk.cmp (l.map Up.p) := fun h => by
  unfold Srt at h
  obtain ⟨h1, rfl⟩ := List.getElem?_eq_some_iff.1 hx
  obtain ⟨h2, rfl⟩ := List.getElem?_eq_some_iff.1 hu
  have := List.pairwise_iff_getElem.1 h j (j + 1) (by simpa using h1) (by simpa using h2) (by omega)
  simp only [List.getElem_map] at this
  exact hge this
set_option maxRecDepth 100000 in
set_option maxHeartbeats 16000000 in
theorem even_any (A : Option Addr) (c : Nat) (l : List Up) (w : World) (hl : Ups w w.heap.size A l) (hok : ∀ u ∈ l, UOk u) (hn : l.length ≤ 1099511627776) :
    Calls Tryz.prog 11 #[.slice A l.length c] w (Tells (EvenP l) w) := by
  have HL := Lib.hid (And.intro hl hok)
  clear hl hok
  go_enter Tryz.func11, Tryz.ntmps11
  go_wp2_with fail
  go_loopw [7] (fun v7 wr => ∃ j : Nat, v7 = .int .i64 (j : Int) ∧ j ≤ l.length ∧ Below w.heap.size w wr ∧ (∀ u ∈ l.take j, u.d ≠ 0) ∧ Srt Uk.cmp ((l.take j).map Up.p)) (fun v7 _ => l.length - (intOf v7).toNat)
  case atStart => exact ⟨0, rfl, by omega, Below.refl _ _, fun u hu => (by cases hu), List.Pairwise.nil⟩
  case round =>
    obtain ⟨j, rfl, hj, hbj, hnz, hsrt⟩ := hrel
    obtain ⟨wi, hwi⟩ : ∃ wi, wi = wr := ⟨_, rfl⟩
    subst hwi
    by_cases hjt : j < l.length
    · have hy : l[j]? = some l[j] := List.getElem?_eq_getElem hjt
      have hym := List.mem_of_getElem? hy
      generalize l[j] = u at *
      obtain ⟨b, o, rfl, hB, hys⟩ := lies_up HL.out.1.head (by omega)
      obtain ⟨e0, e1, e2, e3, e4, e5⟩ := ((hys j u hy).past_ hbj hB).six
      obtain ⟨V, hV, hvb, hvs, hvo⟩ := upbox wi u
      have hbV := hbj.trans (hvb.mono hbj.size)
      have hX := fun p : Past V => own6 (hvo.past p.h hvo.inside)
      have hnz2 : u.d ≠ 0 → ∀ x ∈ l.take (j + 1), x.d ≠ 0 := fun h x hx => by
        rw [List.take_add_one, hy] at hx
        rcases List.mem_append.1 hx with hx | hx
        · exact hnz x hx
        · obtain rfl : x = u := by simpa using hx
          exact h
      have HJ := Lib.hid (And.intro hbV (And.intro hy (And.intro hym (And.intro hnz2 hsrt))))
      have q0 : (0 : Int) ≤ (j : Int) := by omega
      have q1 : (j : Int) < (l.length : Int) := by omega
      have q2 : decide ((j : Int) < (l.length : Int)) = true := decide_eq_true q1
      by_cases hd : u.d = 0
      · have t1 : (u.d == 0) = true := beq_iff_eq.2 hd
        have HN := Lib.hid (fun h : EvenP l => h.1 u hym hd)
        clear hy hym hbj hnz hsrt hvb hvs hbV hnz2 hvo hd
        go_upto_region 4 with fail
        rw [← hV]
        clear hV e0 e1 e2 e3 e4 e5
        refine wp_region_past V (by kernel_rfl) (by kernel_rfl) (Below.refl _ _) ?_
        repeat (first | go_big_quiet_step (fail) | quiet_step (fail))
        refine wpQuiet_nil ?_
        intro wz hw'
        obtain ⟨⟨wy, hbz⟩, hw''⟩ := hw'
        dsimp only at hw''
        subst hw''
        have HZ := Lib.hid (HJ.out.1.trans (hbz.mono HJ.out.1.size))
        clear hbz
        go_wp2_with fail
        go_ret
        exact ⟨false, rfl, by simp only [Bool.false_eq_true, false_iff]; exact HN.out, HZ.out⟩
      have t1 : (u.d == 0) = false := beq_eq_false_iff_ne.2 hd
      have HD := Lib.hid hd
      cases j with
      | zero =>
        simp only [Nat.zero_mul, Nat.add_zero] at e0 e1 e2 e3 e4 e5
        have q3 : decide ((0 : Int) < ((0 : Nat) : Int)) = false := by decide
        clear hy hym hbj hnz hsrt hvb hvs hbV hnz2 hvo hd
        go_upto_region 4 with fail
        rw [← hV]
        clear hV e0 e1 e2 e3 e4 e5
        refine wp_region_past V (by kernel_rfl) (by kernel_rfl) (Below.refl _ _) ?_
        repeat (first | go_big_quiet_step (fail) | quiet_step (fail))
        refine wpQuiet_nil ?_
        intro wz hw'
        obtain ⟨⟨wy, hbz⟩, hw''⟩ := hw'
        dsimp only at hw''
        subst hw''
        have HZ := Lib.hid (HJ.out.1.trans (hbz.mono HJ.out.1.size))
        clear hbz
        go_wp2_with fail
        go_roundw
        case rel =>
          refine ⟨1, by go_num, by omega, HZ.out, HJ.out.2.2.2.1 HD.out, ?_⟩
          have : l.take (0 + 1) = [u] := by rw [List.take_add_one, HJ.out.2.1]; rfl
          rw [this]
          unfold Srt
          simp
        case measure => simp [intOf]; omega
      | succ i =>
        have hx : l[i]? = some (l[i]'(by omega)) := List.getElem?_eq_getElem _
        have hxm := List.mem_of_getElem? hx
        generalize (l[i]'(by omega)) = x at *
        have hxs := fun p : Past V => ((hys i x hx).past_ (hbV.trans (p.h.mono hbV.size)) hB).six
        have hin := fun (z : Up) (hz : z ∈ l) (p : Past V) => ((HL.out.1.each_ z hz).past (hbV.trans (p.h.mono hbV.size)) (Nat.le_refl _)).wide (Nat.le_trans hbV.size p.h.size)
        have u1 : ∀ p : Past V, Calls Tryz.prog 25 #[.agg #[.slice x.kA x.key.length x.kc, .slice x.rA x.row.length x.rc, .int .u64 (x.t.e : Int), .int .u64 (x.t.a : Int), .int .u64 (x.t.b : Int), .int .i64 x.d], .agg #[.slice u.kA u.key.length u.kc, .slice u.rA u.row.length u.rc, .int .u64 (u.t.e : Int), .int .u64 (u.t.a : Int), .int .u64 (u.t.b : Int), .int .i64 u.d]] p.w fun e w'' => e = .returned (.int .i64 (x.k.cmp u.k)) ∧ ∃ q : Past V, w'' = q.w := fun p =>
          calls_past ((dcompare_gr x u p.w (hin x hxm p) (hin u hym p) (HL.out.2 x hxm) (HL.out.2 u hym)).mono fun e w' h => ⟨h.1, h.2.below⟩)
        obtain ⟨r, hr⟩ : ∃ r, x.k.cmp u.k = r := ⟨_, rfl⟩
        rw [hr] at u1
        have HX := Lib.hid (And.intro hx hr)
        have q3 : (0 : Int) ≤ (i : Int) := by omega
        have q4 : (i : Int) < (l.length : Int) := by omega
        have q5 : decide (((i + 1 : Nat) : Int) > 0) = true := decide_eq_true (by omega)
        have q5' : decide ((0 : Int) < (i : Int) + 1) = true := decide_eq_true (by omega)
        by_cases hr0 : r < 0
        · have t2 : decide (r ≥ 0) = false := decide_eq_false (by omega)
          have t2' : decide (0 ≤ r) = false := decide_eq_false (by omega)
          have HR0 := Lib.hid hr0
          clear hy hym hbj hnz hsrt hvb hvs hbV hnz2 hvo hd hx hxm hr hin hr0
          go_upto_region 4 with fail
          rw [← hV]
          clear hV e0 e1 e2 e3 e4 e5
          refine wp_region_past V (by kernel_rfl) (by kernel_rfl) (Below.refl _ _) ?_
          repeat (first | go_big_quiet_step (fail) | quiet_step (fail))
          quiet_step ((go_at_call 25; exact u1 _))
          repeat (first | go_big_quiet_step (fail) | quiet_step (fail))
          refine wpQuiet_nil ?_
          intro wz hw'
          obtain ⟨⟨wy, hbz⟩, hw''⟩ := hw'
          dsimp only at hw''
          subst hw''
          have HZ := Lib.hid (HJ.out.1.trans (hbz.mono HJ.out.1.size))
          clear hbz
          go_wp2_with fail
          go_roundw
          case rel => exact ⟨i + 1 + 1, by go_num, by omega, HZ.out, HJ.out.2.2.2.1 HD.out, srt_more HJ.out.2.2.2.2 HX.out.1 HJ.out.2.1 (by rw [HX.out.2]; exact HR0.out)⟩
          case measure => simp [intOf]; omega
        · have t2 : decide (r ≥ 0) = true := decide_eq_true (by omega)
          have t2' : decide (0 ≤ r) = true := decide_eq_true (by omega)
          have HR0 := Lib.hid hr0
          clear hy hym hbj hnz hsrt hvb hvs hbV hnz2 hvo hd hx hxm hr hin hr0
          go_upto_region 4 with fail
          rw [← hV]
          clear hV e0 e1 e2 e3 e4 e5
          refine wp_region_past V (by kernel_rfl) (by kernel_rfl) (Below.refl _ _) ?_
          repeat (first | go_big_quiet_step (fail) | quiet_step (fail))
          quiet_step ((go_at_call 25; exact u1 _))
          repeat (first | go_big_quiet_step (fail) | quiet_step (fail))
          refine wpQuiet_nil ?_
          intro wz hw'
          obtain ⟨⟨wy, hbz⟩, hw''⟩ := hw'
          dsimp only at hw''
          subst hw''
          have HZ := Lib.hid (HJ.out.1.trans (hbz.mono HJ.out.1.size))
          clear hbz
          go_wp2_with fail
          go_ret
          exact ⟨false, rfl, by simp only [Bool.false_eq_true, false_iff]; exact fun h => srt_not HX.out.1 HJ.out.2.1 (by rw [HX.out.2]; have := HR0.out; omega) h.2.1, HZ.out⟩
    · have hj2 : j = l.length := by omega
      have q2 : decide ((j : Int) < (l.length : Int)) = false := decide_eq_false (by omega)
      rw [hj2, List.take_length] at hnz hsrt
      have hcall := Lib.hid (dcheck_any A c l wi ((HL.out.1.past hbj (Nat.le_refl _)).wide hbj.size) (by omega) HL.out.2)
      obtain ⟨K, hK⟩ : ∃ K, chkUs l = K := ⟨_, rfl⟩
      rw [hK] at hcall
      have HJ := Lib.hid (And.intro hbj (And.intro hnz (And.intro hsrt hK)))
      clear hbj hnz hsrt hK
      go_wp2_with fail
      refine hcall.out.mono ?_
      rintro _ w9 ⟨rfl, b9⟩
      have H9 := Lib.hid (HJ.out.1.trans (b9.mono HJ.out.1.size))
      clear b9 hcall
      go_wp2_with fail
      go_ret
      exact ⟨K == 0, rfl, ⟨fun h => ⟨HJ.out.2.1, HJ.out.2.2.1, HJ.out.2.2.2.trans (beq_iff_eq.1 h)⟩, fun h => beq_iff_eq.2 (HJ.out.2.2.2.symm.trans h.2.2)⟩, H9.out⟩
end Go.Proofs.YtcfldgncmbcpmaaGreat
namespace Go.Proofs.YtcfldgncmbcpmaaGreat
open Go Go.RowKit

def vnum (n : Int) : Vl := ⟨false, n, ⟨#[]⟩⟩
theorem vals_num (w : World) (n : Int) : Vals (w.alloc (.cells #[.bool false, .int .i64 n, .string ⟨#[]⟩] 46)) (w.alloc (.cells #[.bool false, .int .i64 n, .string ⟨#[]⟩] 46)).heap.size (some ⟨w.heap.size, 0, none⟩) [vnum n] := fun _ => by
  have ho := Own.made w 46 [.bool false, .int .i64 n, .string ⟨#[]⟩]
  refine ⟨w.heap.size, 0, rfl, by simp, fun i x hx => ?_⟩
  match i, hx with
  | 0, hx =>
    obtain rfl : vnum n = x := by simpa using hx
    exact ⟨ho.at_ 0, ho.at_ 1, ho.at_ 2⟩
def lu (G : Nat) (n d : Int) (e : Nat) : Up := ⟨none, 0, [], some ⟨G, 0, none⟩, 1, [vnum n], ⟨e, 0, 0⟩, d⟩
theorem lu_in {w : World} {G : Nat} {n d : Int} {e : Nat} (h : Vals w w.heap.size (some ⟨G, 0, none⟩) [vnum n]) : UIn w w.heap.size (lu G n d e) := ⟨Vals.nil_, h⟩
theorem lu_ok {G : Nat} {n d : Int} {e : Nat} (hn : -9223372036854775808 ≤ n ∧ n ≤ 9223372036854775807) (hd : -9223372036854775808 ≤ d ∧ d ≤ 9223372036854775807) : UOk (lu G n d e) :=
  ⟨Nat.zero_le _, by show 1 ≤ 140737488351232; omega, fun v hv => (by cases hv), fun v hv => by
    obtain rfl : v = vnum n := by simpa [lu] using hv
    exact ⟨Nat.zero_le _, hn⟩, hd⟩
theorem ups_own {w : World} {G : Nat} {t : TypeId} {l : List Up} (h : Own w G t (l.flatMap Up.cells)) (hin : ∀ u ∈ l, UIn w w.heap.size u) : Ups w w.heap.size (some ⟨G, 0, none⟩) l :=
  ⟨fun _ => ⟨G, 0, rfl, h.inside, fun i x hi j u hj => by rw [show 0 + i * 6 + j = i * 6 + j by omega, h.at_]; exact flat_of (size := 6) (cells := Up.cells) (fun _ => rfl) l i j x u hi hj⟩, hin⟩
theorem rw_own {α : Type} {w : World} {G : Nat} {t : TypeId} {l : List (Rw α)} (h : Own w G t (l.flatMap Rw.cells)) : Lies 1 Rw.cells w w.heap.size (some ⟨G, 0, none⟩) l :=
  fun _ => ⟨G, 0, rfl, h.inside, fun i x hi j u hj => by rw [show 0 + i * 1 + j = i * 1 + j by omega, h.at_]; exact flat_of (size := 1) (cells := Rw.cells) (fun _ => rfl) l i j x u hi hj⟩
theorem boxd (w : World) (l : List Value) (t : TypeId) : ∃ W, W = w.alloc (.cells l.toArray t) ∧ W.heap.size = w.heap.size + 1 ∧ Below w.heap.size w W ∧ Own W w.heap.size t l :=
  ⟨_, rfl, by simp, (Below.refl _ _).alloc (Nat.le_refl _) _, Own.made w t l⟩
/-- two updates in a row of their own -/
theorem box_two (w : World) (G1 G2 : Nat) (n1 n2 d1 d2 : Int) (e : Nat) (ei : Int) (he : (e : Int) = ei) (h1 : Vals w w.heap.size (some ⟨G1, 0, none⟩) [vnum n1]) (h2 : Vals w w.heap.size (some ⟨G2, 0, none⟩) [vnum n2]) :
    ∃ V, V = w.alloc (.cells #[.slice none 0 0, .slice (some ⟨G1, 0, none⟩) 1 1, .int .u64 0, .int .u64 0, .int .u64 0, .int .i64 d1, .slice none 0 0, .slice (some ⟨G2, 0, none⟩) 1 1, .int .u64 ei, .int .u64 0, .int .u64 0, .int .i64 d2] 44) ∧ Below w.heap.size w V ∧ Ups V V.heap.size (some ⟨w.heap.size, 0, none⟩) [lu G1 n1 d1 0, lu G2 n2 d2 e] := by
  subst he
  obtain ⟨W, e1, s1, b1, o1⟩ := boxd w [.slice none 0 0, .slice (some ⟨G1, 0, none⟩) 1 1, .int .u64 0, .int .u64 0, .int .u64 0, .int .i64 d1, .slice none 0 0, .slice (some ⟨G2, 0, none⟩) 1 1, .int .u64 (e : Int), .int .u64 0, .int .u64 0, .int .i64 d2] 44
  refine ⟨W, e1, b1, ups_own (t := 44) (l := [lu G1 n1 d1 0, lu G2 n2 d2 e]) o1 fun u hu => ?_⟩
  rcases List.mem_cons.1 hu with rfl | hu
  · exact lu_in (vals_keep h1 b1)
  · obtain rfl : u = lu G2 n2 d2 e := by simpa using hu
    exact lu_in (vals_keep h2 b1)
theorem box_lists (w : World) (A1 G3 : Nat) (l1 : List Up) (hl : l1.length = 2) (n3 d3 : Int) (h1 : Ups w w.heap.size (some ⟨A1, 0, none⟩) l1) (h3 : Vals w w.heap.size (some ⟨G3, 0, none⟩) [vnum n3]) :
    ∃ V, V = (w.alloc (.cells #[.slice none 0 0, .slice (some ⟨G3, 0, none⟩) 1 1, .int .u64 0, .int .u64 0, .int .u64 0, .int .i64 d3] 44)).alloc (.cells #[.slice (some ⟨A1, 0, none⟩) 2 2, .slice (some ⟨w.heap.size, 0, none⟩) 1 1] 22) ∧ Below w.heap.size w V ∧
      ULs V V.heap.size (some ⟨w.heap.size + 1, 0, none⟩) [⟨some ⟨A1, 0, none⟩, 2, l1⟩, ⟨some ⟨w.heap.size, 0, none⟩, 1, [lu G3 n3 d3 0]⟩] := by
  obtain ⟨W1, e1, s1, b1, o1⟩ := boxd w [.slice none 0 0, .slice (some ⟨G3, 0, none⟩) 1 1, .int .u64 0, .int .u64 0, .int .u64 0, .int .i64 d3] 44
  obtain ⟨W2, e2, s2, b2, o2⟩ := boxd W1 [.slice (some ⟨A1, 0, none⟩) 2 2, .slice (some ⟨w.heap.size, 0, none⟩) 1 1] 22
  rw [s1] at o2
  have hu3 : Ups W1 W1.heap.size (some ⟨w.heap.size, 0, none⟩) [lu G3 n3 d3 0] := ups_own (t := 44) (l := [lu G3 n3 d3 0]) o1 fun u hu => by
    obtain rfl : u = lu G3 n3 d3 0 := by simpa using hu
    exact lu_in (vals_keep h3 b1)
  refine ⟨W2, by rw [e2, e1], belows b1 b2, rw_own (t := 22) (by simp only [List.flatMap_cons, List.flatMap_nil, Rw.cells, hl]; exact o2), fun s hs => ?_⟩
  rcases List.mem_cons.1 hs with rfl | hs
  · exact (h1.keep b1).keep b2
  · obtain rfl : s = ⟨some ⟨w.heap.size, 0, none⟩, 1, [lu G3 n3 d3 0]⟩ := by simpa using hs
    exact hu3.keep b2
theorem cons0 (G1 G2 G3 : Nat) : consL [[lu G1 2 2 0, lu G2 1 1 0], [lu G3 2 (-2) 0]] = [((⟨[], [vnum 1], ⟨0, 0, 0⟩⟩ : Uk), (1 : Int))] ∧ consE [[lu G1 2 2 0, lu G2 1 1 0], [lu G3 2 (-2) 0]] = 0 := ⟨by kernel_rfl, by kernel_rfl⟩
theorem at0 (G1 G2 : Nat) : atL [lu G1 1 3 0, lu G2 1 4 2] ⟨1, 0, 0⟩ = [([vnum 1], (3 : Int))] ∧ atE [lu G1 1 3 0, lu G2 1 4 2] ⟨1, 0, 0⟩ = 0 := ⟨by kernel_rfl, by kernel_rfl⟩
theorem even0 {l : List Up} (h : l.map Up.p = [((⟨[], [vnum 1], ⟨0, 0, 0⟩⟩ : Uk), (1 : Int))]) : EvenP l := by
  have hl : l.length = 1 := by have := congrArg List.length h; simpa using this
  obtain ⟨u, rfl⟩ := List.length_eq_one_iff.1 hl
  · have hp : u.p = ((⟨[], [vnum 1], ⟨0, 0, 0⟩⟩ : Uk), (1 : Int)) := by simpa using h
    have hk : u.k = ⟨[], [vnum 1], ⟨0, 0, 0⟩⟩ := congrArg Prod.fst hp
    have hd : u.d = 1 := congrArg Prod.snd hp
    refine ⟨fun x hx => ?_, by unfold Srt; simp, ?_⟩
    · obtain rfl : x = u := by simpa using hx
      rw [hd]; decide
    · simp only [chkUs]
      unfold chkU
      rw [hk]
      exact if_pos (by kernel_rfl)
end Go.Proofs.YtcfldgncmbcpmaaGreat
namespace Go.Proofs.YtcfldgncmbcpmaaGreat
open Go Go.RowKit

def Up.less (u : Up) : Up := { u with d := -u.d }
theorem less_k (u : Up) : u.less.k = u.k := rfl
def bothU (l : List Up) : List Up := l.flatMap fun u => if -9223372036854775807 < u.d then [u, u.less] else []
theorem both_next {l : List Up} {j : Nat} {u : Up} (h : l[j]? = some u) : bothU (l.take (j + 1)) = bothU (l.take j) ++ if -9223372036854775807 < u.d then [u, u.less] else [] := by
  unfold bothU
  rw [List.take_add_one, h, List.flatMap_append]
  simp
theorem both_len (l : List Up) : (bothU l).length ≤ 2 * l.length := by
  induction l with
  | nil => simp [bothU]
  | cons u l ih =>
    have : bothU (u :: l) = (if -9223372036854775807 < u.d then [u, u.less] else []) ++ bothU l := by unfold bothU; rw [List.flatMap_cons]
    rw [this, List.length_append, List.length_cons]
    have : (if -9223372036854775807 < u.d then [u, u.less] else []).length ≤ 2 := by split <;> simp
    omega
theorem both_sum (l : List Up) (k : Uk) : sumOf Uk.cmp ((bothU l).map Up.p) k = 0 := by
  induction l with
  | nil => simp [bothU, sumOf]
  | cons u l ih =>
    have : bothU (u :: l) = (if -9223372036854775807 < u.d then [u, u.less] else []) ++ bothU l := by unfold bothU; rw [List.flatMap_cons]
    rw [this, List.map_append, sumOf_append, ih]
    split
    · simp only [List.map_cons, List.map_nil]
      rw [show u.less.p = (u.k, -u.d) from rfl, show u.p = (u.k, u.d) from rfl]
      simp only [sumOf]
      split <;> omega
    · simp [sumOf]
theorem nz_none {K : Type} {cmp : K → K → Int} {R : K → Prop} (L : Lin cmp R) {l : List (K × Int)} (hR : ∀ x ∈ l, R x.1) (h : ∀ k, sumOf cmp l k = 0) : nz cmp l = [] :=
  List.eq_nil_iff_forall_not_mem.2 fun y hy => by
    obtain ⟨_, h2, h3⟩ := (nz_mem L hR y).1 hy
    exact h3 (h2.trans (h _))
theorem both_none (l : List Up) : consL [bothU l] = [] := by
  unfold consL
  split
  · rename_i hc
    have hc := chkLs_all.1 hc (bothU l) (by simp)
    unfold resL
    split
    · rw [List.flatten_cons, List.flatten_nil, List.append_nil]
      exact nz_none uk_lin (fun x hx => by
        obtain ⟨u, hu, rfl⟩ := List.mem_map.1 hx
        exact chkUs_all.1 hc u hu) (both_sum l)
    · rfl
  · rfl
theorem less_ok {u : Up} (h : UOk u) (hd : -9223372036854775807 < u.d) : UOk u.less := ⟨h.kn, h.rn, h.ks, h.rs, by show -9223372036854775808 ≤ -u.d ∧ -u.d ≤ 9223372036854775807; have := h.dn; omega⟩
theorem both_ok {l : List Up} (h : ∀ u ∈ l, UOk u) : ∀ u ∈ bothU l, UOk u := fun u hu => by
  obtain ⟨x, hx, hux⟩ := List.mem_flatMap.1 hu
  split at hux
  · rename_i hd
    rcases List.mem_cons.1 hux with rfl | hux
    · exact h _ hx
    · obtain rfl : u = x.less := by simpa using hux
      exact less_ok (h x hx) hd
  · cases hux
theorem both_in {w : World} {B : Nat} {l : List Up} (h : ∀ u ∈ l, UIn w B u) : ∀ u ∈ bothU l, UIn w B u := fun u hu => by
  obtain ⟨x, hx, hux⟩ := List.mem_flatMap.1 hu
  split at hux
  · rcases List.mem_cons.1 hux with rfl | hux
    · exact h _ hx
    · obtain rfl : u = x.less := by simpa using hux
      exact ⟨(h x hx).key, (h x hx).row⟩
  · cases hux
/-- two updates in a block of their own -/
theorem pair_up (w : World) (u v : Up) : Lies 6 Up.cells (w.alloc (.cells #[.slice u.kA u.key.length u.kc, .slice u.rA u.row.length u.rc, .int .u64 (u.t.e : Int), .int .u64 (u.t.a : Int), .int .u64 (u.t.b : Int), .int .i64 u.d, .slice v.kA v.key.length v.kc, .slice v.rA v.row.length v.rc, .int .u64 (v.t.e : Int), .int .u64 (v.t.a : Int), .int .u64 (v.t.b : Int), .int .i64 v.d] 44)) (w.heap.size + 1) (some ⟨w.heap.size, 0, none⟩) [u, v] := fun _ =>
  ⟨w.heap.size, 0, rfl, Nat.lt_succ_self _, fun i x hi j y hj => by
    rw [show 0 + i * 6 + j = i * 6 + j by omega]
    exact ((Own.made w 44 ([u, v].flatMap Up.cells)).at_ _).trans (flat_of (size := 6) (cells := Up.cells) (fun _ => rfl) [u, v] i j x y hi hj)⟩
theorem one_list (w : World) (A : Option Addr) (c : Nat) (l : List Up) (h : Ups w w.heap.size A l) : ∃ V, V = w.alloc (.cells #[.slice A l.length c] 22) ∧ Below w.heap.size w V ∧ ULs V V.heap.size (some ⟨w.heap.size, 0, none⟩) [⟨A, c, l⟩] := by
  obtain ⟨W, e1, s1, b1, o1⟩ := boxd w [.slice A l.length c] 22
  refine ⟨W, e1, b1, rw_own (t := 22) o1, fun s hs => ?_⟩
  obtain rfl : s = ⟨A, c, l⟩ := by simpa using hs
  exact h.keep b1
theorem two_lists (w : World) (A A' : Option Addr) (c c' : Nat) (l m : List Up) (h : Ups w w.heap.size A l) (h' : Ups w w.heap.size A' m) : ∃ V, V = w.alloc (.cells #[.slice A l.length c, .slice A' m.length c'] 22) ∧ Below w.heap.size w V ∧ ULs V V.heap.size (some ⟨w.heap.size, 0, none⟩) [⟨A, c, l⟩, ⟨A', c', m⟩] := by
  obtain ⟨W, e1, s1, b1, o1⟩ := boxd w [.slice A l.length c, .slice A' m.length c'] 22
  refine ⟨W, e1, b1, rw_own (t := 22) o1, fun s hs => ?_⟩
  rcases List.mem_cons.1 hs with rfl | hs
  · exact h.keep b1
  · obtain rfl : s = ⟨A', c', m⟩ := by simpa using hs
    exact h'.keep b1
end Go.Proofs.YtcfldgncmbcpmaaGreat
namespace Go.Proofs.YtcfldgncmbcpmaaGreat
open Go Go.RowKit

section
variable {K : Type} {cmp : K → K → Int}
theorem ins_len (x : K × Int) : ∀ l : List (K × Int), (ins cmp x l).length ≤ l.length + 1
  | [] => by simp [ins]
  | y :: t => by
    unfold ins
    have := ins_len x t
    repeat' split
    all_goals simp only [List.length_cons] at *
    all_goals omega
theorem asmF_len : ∀ (l a : List (K × Int)), (asmF cmp a l).length ≤ a.length + l.length
  | [], a => by simp [asmF]
  | x :: l, a => by
    have h1 := asmF_len l (ins cmp x a)
    have h2 := ins_len (cmp := cmp) x a
    show (asmF cmp (ins cmp x a) l).length ≤ _
    rw [List.length_cons]
    omega
theorem nz_len (l : List (K × Int)) : (nz cmp l).length ≤ l.length := by
  unfold nz asm
  have h1 := List.length_filter_le (fun x : K × Int => x.2 != 0) (asmF cmp [] l)
  have h2 := asmF_len (cmp := cmp) l []
  simp only [List.length_nil] at h2
  omega
theorem resL_len (l : List (K × Int)) : (resL cmp l).length ≤ l.length := by
  unfold resL
  split
  · exact nz_len l
  · simp
theorem resE_ne {l : List (K × Int)} (h : resE cmp l ≠ 0) : resL cmp l = [] := by
  unfold resE at h
  unfold resL
  split at h
  · exact absurd rfl h
  · rename_i h1; rw [if_neg h1]
theorem resE_zero {l : List (K × Int)} (h : resE cmp l = 0) : resL cmp l = nz cmp l ∧ (asm cmp l).all (fun x => fits x.2) = true := by
  unfold resE at h
  unfold resL
  split at h
  · rename_i h1; exact ⟨if_pos h1, h1⟩
  · omega
theorem res_again {R : K → Prop} (L : Lin cmp R) {l : List (K × Int)} (hl : ∀ x ∈ l, R x.1) (h : resE cmp l = 0) : resL cmp (resL cmp l) = resL cmp l ∧ resE cmp (resL cmp l) = 0 := by
  obtain ⟨h1, h2⟩ := resE_zero h
  have h3 : (asm cmp (nz cmp l)).all (fun x => fits x.2) = true := by rw [fit_all, nz_nz L hl, ← fit_all]; exact h2
  rw [h1]
  unfold resL resE
  rw [if_pos h3, if_pos h3, nz_nz L hl]
  exact ⟨rfl, rfl⟩
end
theorem consE_ne {L : List (List Up)} (h : consE L ≠ 0) : consL L = [] := by
  unfold consE at h
  unfold consL
  split at h
  · rename_i h1; rw [if_pos h1]; exact resE_ne h
  · rename_i h1; rw [if_neg h1]
theorem consL_len (L : List (List Up)) : (consL L).length ≤ L.flatten.length := by
  unfold consL
  split
  · have := resL_len (cmp := Uk.cmp) (L.flatten.map Up.p); rwa [List.length_map] at this
  · simp
theorem chk_all {L : List (List Up)} : chkLs L = 0 ↔ ∀ u ∈ L.flatten, chkU u = 0 := by
  rw [chkLs_all]
  constructor
  · intro h u hu
    obtain ⟨l, hl, hul⟩ := List.mem_flatten.1 hu
    exact chkUs_all.1 (h l hl) u hul
  · intro h l hl
    exact chkUs_all.2 fun u hu => h u (List.mem_flatten.2 ⟨l, hl, hu⟩)
theorem keys_right {l : List Up} (h : ∀ u ∈ l, chkU u = 0) : ∀ x ∈ l.map Up.p, UkR x.1 := fun x hx => by
  obtain ⟨u, hu, rfl⟩ := List.mem_map.1 hx
  exact h u hu
/-- the same updates, in whatever order and lists -/
theorem cons_perm {L M : List (List Up)} (h : L.flatten.Perm M.flatten) : (consE L = 0 ↔ consE M = 0) ∧ consL L = consL M := by
  by_cases h1 : chkLs L = 0
  · have h2 : chkLs M = 0 := chk_all.2 fun u hu => chk_all.1 h1 u (h.mem_iff.2 hu)
    have := resL_ext uk_lin (keys_right (chk_all.1 h1)) (keys_right (chk_all.1 h2)) fun k => sumOf_perm (h.map Up.p) k
    unfold consE consL
    rw [if_pos h1, if_pos h2, if_pos h1, if_pos h2, this.1, this.2]
    exact ⟨Iff.rfl, rfl⟩
  · have h2 : chkLs M ≠ 0 := fun h2 => h1 (chk_all.2 fun u hu => chk_all.1 h2 u (h.mem_iff.1 hu))
    unfold consE consL
    rw [if_neg h1, if_neg h2, if_neg h1, if_neg h2]
    exact ⟨⟨fun h => absurd h h1, fun h => absurd h h2⟩, rfl⟩
theorem cons_chk {L : List (List Up)} (h : consE L = 0) : chkLs L = 0 ∧ resE Uk.cmp (L.flatten.map Up.p) = 0 ∧ consL L = resL Uk.cmp (L.flatten.map Up.p) := by
  unfold consE at h
  split at h
  · rename_i h1; exact ⟨h1, h, by unfold consL; rw [if_pos h1]⟩
  · rename_i h1; exact absurd h h1
theorem cons_even {L : List (List Up)} {x : List Up} (h : consE L = 0) (hx : x.map Up.p = consL L) : EvenP x := by
  obtain ⟨h1, h2, h3⟩ := cons_chk h
  obtain ⟨h4, _⟩ := resE_zero h2
  rw [h3, h4] at hx
  refine ⟨fun u hu h0 => ?_, by rw [hx]; exact nz_srt uk_lin _, chkUs_all.2 fun u hu => ?_⟩
  · have : u.p ∈ nz Uk.cmp (L.flatten.map Up.p) := by rw [← hx]; exact List.mem_map.2 ⟨u, hu, rfl⟩
    exact ((nz_mem uk_lin (keys_right (chk_all.1 h1)) _).1 this).2.2 h0
  · have : u.p ∈ nz Uk.cmp (L.flatten.map Up.p) := by rw [← hx]; exact List.mem_map.2 ⟨u, hu, rfl⟩
    exact nz_right (R := UkR) (keys_right (chk_all.1 h1)) _ this
theorem cons_again {L : List (List Up)} {x : List Up} (h : consE L = 0) (hx : x.map Up.p = consL L) : consL [x] = consL L ∧ consE [x] = 0 := by
  obtain ⟨h1, h2, h3⟩ := cons_chk h
  have hc : chkLs [x] = 0 := chkLs_all.2 fun l hl => by
    obtain rfl : l = x := by simpa using hl
    exact (cons_even h hx).2.2
  have := res_again uk_lin (keys_right (chk_all.1 h1)) h2
  unfold consL consE at *
  rw [if_pos hc, if_pos hc]
  simp only [List.flatten_cons, List.flatten_nil, List.append_nil]
  rw [hx, if_pos h1]
  exact this
/-- a list from its end down to k -/
def upsT (l : List Up) (k : Nat) : List Up := (l.drop k).reverse
theorem upsT_end (l : List Up) : upsT l l.length = [] := by unfold upsT; simp
theorem upsT_next {l : List Up} {k : Nat} {u : Up} (h : l[k]? = some u) : upsT l k = upsT l (k + 1) ++ [u] := by
  unfold upsT
  obtain ⟨hk, rfl⟩ := List.getElem?_eq_some_iff.1 h
  rw [List.drop_eq_getElem_cons hk, List.reverse_cons]
theorem upsT_zero (l : List Up) : upsT l 0 = l.reverse := by unfold upsT; rw [List.drop_zero]
theorem upsT_len (l : List Up) (k : Nat) : (upsT l k).length ≤ l.length := by unfold upsT; simp
theorem upsT_perm (a b : List Up) : ([a, b] : List (List Up)).flatten.Perm ([upsT b 0 ++ a] : List (List Up)).flatten := by
  simp only [List.flatten_cons, List.flatten_nil, List.append_nil]
  rw [upsT_zero]
  exact List.perm_append_comm.trans (List.Perm.append_right a (List.reverse_perm b).symm)
theorem up_made (w : World) (u : Up) : Lies 6 Up.cells (w.alloc (.cells #[.slice u.kA u.key.length u.kc, .slice u.rA u.row.length u.rc, .int .u64 (u.t.e : Int), .int .u64 (u.t.a : Int), .int .u64 (u.t.b : Int), .int .i64 u.d] 44)) (w.heap.size + 1) (some ⟨w.heap.size, 0, none⟩) [u] := fun _ =>
  ⟨w.heap.size, 0, rfl, Nat.lt_succ_self _, fun i x hi j y hj => by
    rw [show 0 + i * 6 + j = i * 6 + j by omega]
    exact ((Own.made w 44 ([u].flatMap Up.cells)).at_ _).trans (flat_of (size := 6) (cells := Up.cells) (fun _ => rfl) [u] i j x y hi hj)⟩
end Go.Proofs.YtcfldgncmbcpmaaGreat
namespace Go.Proofs.YtcfldgncmbcpmaaGreat
open Go Go.RowKit

section
variable {K : Type} {cmp : K → K → Int} {R : K → Prop}
def psum (p : K → Bool) : List (K × Int) → Int
  | [] => 0
  | x :: l => (if p x.1 = true then x.2 else 0) + psum p l
theorem ins_right {x : K × Int} {l : List (K × Int)} (hx : R x.1) (hl : ∀ y ∈ l, R y.1) : ∀ y ∈ ins cmp x l, R y.1 := fun y hy => by
  rcases ins_keys x l y hy with e | ⟨z, hz, e⟩
  · rw [e]; exact hx
  · rw [← e]; exact hl z hz
theorem psum_ins (L : Lin cmp R) (p : K → Bool) (x : K × Int) (hx : R x.1) : ∀ l : List (K × Int), (∀ y ∈ l, R y.1) → psum p (ins cmp x l) = psum p l + if p x.1 = true then x.2 else 0
  | [], _ => by simp [ins, psum]
  | y :: t, h => by
    have ih := psum_ins L p x hx t fun z hz => h z (by simp [hz])
    unfold ins
    by_cases h0 : cmp y.1 x.1 = 0
    · have e : y.1 = x.1 := (L.eq y.1 x.1 (h y (by simp)) hx).1 h0
      rw [if_pos h0]
      simp only [psum, e]
      split <;> omega
    · rw [if_neg h0]
      split
      · simp only [psum, ih]; omega
      · simp only [psum]; omega
theorem psum_asmF (L : Lin cmp R) (p : K → Bool) : ∀ l a : List (K × Int), (∀ y ∈ l, R y.1) → (∀ y ∈ a, R y.1) → psum p (asmF cmp a l) = psum p a + psum p l
  | [], a, _, _ => by simp [asmF, psum]
  | x :: l, a, h, ha => by
    have hx := h x (by simp)
    have ih := psum_asmF L p l (ins cmp x a) (fun y hy => h y (by simp [hy])) (ins_right hx ha)
    show psum p (asmF cmp (ins cmp x a) l) = _
    rw [ih, psum_ins L p x hx a ha]
    simp only [psum]
    omega
theorem psum_nz0 (p : K → Bool) : ∀ l : List (K × Int), psum p (l.filter fun x => x.2 != 0) = psum p l
  | [] => rfl
  | x :: l => by
    have ih := psum_nz0 p l
    rw [List.filter_cons]
    split
    · simp only [psum, ih]
    · rename_i h
      have h0 : x.2 = 0 := by simpa using h
      simp only [psum, ih, h0]
      split <;> omega
theorem psum_nz (L : Lin cmp R) (p : K → Bool) {l : List (K × Int)} (h : ∀ y ∈ l, R y.1) : psum p (nz cmp l) = psum p l := by
  unfold nz asm
  rw [psum_nz0, psum_asmF L p l [] h fun y hy => (by cases hy)]
  simp [psum]
end
theorem at_sum (t : Tm) (r : List Vl) : ∀ l : List Up, sumOf cmpRows (atP l t) r = psum (fun k : Uk => k.t.le t && decide (cmpRows k.row r = 0)) (l.map Up.p)
  | [] => rfl
  | u :: l => by
    have ih := at_sum t r l
    have e : atP (u :: l) t = if u.t.le t = true then (u.row, u.d) :: atP l t else atP l t := by
      unfold atP
      rw [List.filter_cons]
      split <;> simp
    rw [e, List.map_cons]
    simp only [psum]
    rw [show u.p = (u.k, u.d) from rfl, ← ih]
    simp only [show u.k.t = u.t from rfl, show u.k.row = u.row from rfl]
    cases hle : u.t.le t
    · simp
    · by_cases h0 : cmpRows u.row r = 0
      · simp [sumOf, h0]
      · simp [sumOf, h0]
theorem at_append (a b : List Up) (t : Tm) : atP (a ++ b) t = atP a t ++ atP b t := by unfold atP; rw [List.filter_append, List.map_append]
theorem at_right {l : List Up} {t : Tm} (h : chkUs l = 0) : ∀ x ∈ atP l t, RowR x.1 := fun x hx => by
  obtain ⟨u, hu, rfl⟩ := List.mem_map.1 hx
  exact (chkK_zero (chkUs_all.1 h u (List.mem_filter.1 hu).1)).2.1
theorem at_ne {l : List Up} {t : Tm} (h : atE l t ≠ 0) : atL l t = [] := by
  unfold atE at h
  unfold atL
  split at h
  · rename_i h1; rw [if_pos h1]; exact resE_ne h
  · rename_i h1; rw [if_neg h1]
theorem at_zero {l : List Up} {t : Tm} (h : atE l t = 0) : chkUs l = 0 ∧ chk [t] = 0 ∧ resE cmpRows (atP l t) = 0 ∧ atL l t = nz cmpRows (atP l t) := by
  unfold atE at h
  split at h
  · rename_i h1
    have h2 : chkUs l = 0 ∧ chk [t] = 0 := by unfold chkAt orI at h1; split at h1 <;> simp_all
    exact ⟨h2.1, h2.2, h, by unfold atL; rw [if_pos h1]; exact (resE_zero h).1⟩
  · rename_i h1; exact absurd h h1
theorem at_of {l : List Up} {t : Tm} (h1 : chkUs l = 0) (h2 : chk [t] = 0) : atL l t = resL cmpRows (atP l t) ∧ atE l t = resE cmpRows (atP l t) := by
  have h : chkAt l t = 0 := by unfold chkAt orI; rw [if_pos h1]; exact h2
  unfold atL atE
  rw [if_pos h, if_pos h]
  exact ⟨rfl, rfl⟩
/-- of updates, and of them evened out -/
theorem at_same {l e : List Up} (t : Tm) (h : consE [l] = 0) (he : e.map Up.p = consL [l]) : atL l t = atL e t ∧ atE l t = atE e t := by
  have hev := (cons_even h he).2.2
  obtain ⟨h1, h2, h3⟩ := cons_chk h
  have hl : chkUs l = 0 := chkLs_all.1 h1 l (by simp)
  simp only [List.flatten_cons, List.flatten_nil, List.append_nil] at h2 h3
  by_cases ht : chk [t] = 0
  · rw [(at_of hl ht).1, (at_of hl ht).2, (at_of hev ht).1, (at_of hev ht).2]
    refine resL_ext row_lin (at_right hl) (at_right hev) fun r => ?_
    rw [at_sum, at_sum, he, h3, (resE_zero h2).1, psum_nz uk_lin _ (keys_right (chkUs_all.1 hl))]
  · have c1 : chkAt l t = chk [t] := by unfold chkAt orI; rw [if_pos hl]
    have c2 : chkAt e t = chk [t] := by unfold chkAt orI; rw [if_pos hev]
    unfold atL atE
    rw [c1, c2, if_neg ht, if_neg ht, if_neg ht, if_neg ht]
    exact ⟨rfl, rfl⟩
theorem merge_two {A B C : List (List Vl × Int)} {p q : List Ct} (hA : ∀ x ∈ A, RowR x.1) (hB : ∀ x ∈ B, RowR x.1) (hC : ∀ x ∈ C, RowR x.1) (hp : p.map Ct.p = nz cmpRows A) (hq : q.map Ct.p = nz cmpRows B)
    (hs : ∀ r, sumOf cmpRows A r + sumOf cmpRows B r = sumOf cmpRows C r) : mergeL [p, q] = resL cmpRows C ∧ mergeE [p, q] = resE cmpRows C := by
  have hall : ∀ x ∈ (p ++ q).map Ct.p, RowR x.1 := fun x hx => by
    rw [List.map_append, hp, hq] at hx
    rcases List.mem_append.1 hx with hx | hx
    · exact nz_right (R := RowR) hA x hx
    · exact nz_right (R := RowR) hB x hx
  have hc : chkCs ([p, q] : List (List Ct)).flatten = 0 := chkCs_all.2 fun c hc => by
    simp only [List.flatten_cons, List.flatten_nil, List.append_nil] at hc
    exact hall c.p (List.mem_map.2 ⟨c, hc, rfl⟩)
  unfold mergeL mergeE
  rw [if_pos hc, if_pos hc]
  simp only [List.flatten_cons, List.flatten_nil, List.append_nil]
  refine resL_ext row_lin hall hC fun r => ?_
  rw [List.map_append, sumOf_append, hp, hq, nz_sum row_lin, nz_sum row_lin]
  exact hs r
/-- of two lists -/
theorem at_merge {a b : List Up} {t : Tm} {p q : List Ct} (ha : atE a t = 0) (hb : atE b t = 0) (hp : p.map Ct.p = atL a t) (hq : q.map Ct.p = atL b t) : mergeL [p, q] = atL (a ++ b) t ∧ mergeE [p, q] = atE (a ++ b) t := by
  obtain ⟨a1, a2, a3, a4⟩ := at_zero ha
  obtain ⟨b1, b2, b3, b4⟩ := at_zero hb
  have hc : chkUs (a ++ b) = 0 := chkUs_all.2 fun u hu => by
    rcases List.mem_append.1 hu with hu | hu
    · exact chkUs_all.1 a1 u hu
    · exact chkUs_all.1 b1 u hu
  rw [(at_of hc a2).1, (at_of hc a2).2]
  exact merge_two (at_right a1) (at_right b1) (at_right hc) (hp.trans a4) (hq.trans b4) fun r => by rw [at_append, sumOf_append]
def betw (l : List Up) (a : Tm) : List Up := l.filter fun u => !u.t.le a
theorem betw_next {l : List Up} {a : Tm} {j : Nat} {u : Up} (h : l[j]? = some u) : betw (l.take (j + 1)) a = betw (l.take j) a ++ if u.t.le a = true then [] else [u] := by
  unfold betw
  rw [List.take_add_one, h, List.filter_append]
  cases hh : u.t.le a <;> simp [hh]
theorem betw_sub {l : List Up} {a : Tm} {u : Up} (h : u ∈ betw l a) : u ∈ l := (List.mem_filter.1 h).1
theorem betw_len (l : List Up) (a : Tm) : (betw l a).length ≤ l.length := List.length_filter_le ..
theorem betw_sum {a b : Tm} (hab : a.le b = true) (r : List Vl) : ∀ l : List Up, sumOf cmpRows (atP l a) r + sumOf cmpRows (atP (betw l a) b) r = sumOf cmpRows (atP l b) r
  | [] => rfl
  | u :: l => by
    have ih := betw_sum hab r l
    have e : ∀ t, atP (u :: l) t = if u.t.le t = true then (u.row, u.d) :: atP l t else atP l t := fun t => by
      unfold atP
      rw [List.filter_cons]
      split <;> simp
    have e2 : betw (u :: l) a = if u.t.le a = true then betw l a else u :: betw l a := by
      unfold betw
      rw [List.filter_cons]
      cases u.t.le a <;> simp
    have hle : u.t.le a = true → u.t.le b = true := fun h => by
      unfold Tm.le at *
      simp only [Bool.and_eq_true, decide_eq_true_eq] at *
      omega
    rw [e, e, e2]
    cases h1 : u.t.le a
    · have e3 : atP (u :: betw l a) b = if u.t.le b = true then (u.row, u.d) :: atP (betw l a) b else atP (betw l a) b := by
        unfold atP
        rw [List.filter_cons]
        split <;> simp
      simp only [Bool.false_eq_true, if_false]
      rw [e3]
      cases u.t.le b
      · simpa using ih
      · simp only [if_true, sumOf]; omega
    · rw [hle h1]
      simp only [if_true, sumOf]
      omega
/-- between two times -/
theorem at_later {l : List Up} {a b : Tm} {p q : List Ct} (hab : a.le b = true) (ha : atE l a = 0) (hb : atE l b = 0) (hz : atE (betw l a) b = 0) (hp : p.map Ct.p = atL l a) (hq : q.map Ct.p = atL (betw l a) b) : mergeL [p, q] = atL l b ∧ mergeE [p, q] = 0 := by
  obtain ⟨a1, a2, a3, a4⟩ := at_zero ha
  obtain ⟨b1, b2, b3, b4⟩ := at_zero hb
  obtain ⟨z1, z2, z3, z4⟩ := at_zero hz
  have := merge_two (at_right a1) (at_right z1) (at_right a1) (hp.trans a4) (hq.trans z4) fun r => betw_sum hab r l
  rw [b3] at this
  rw [(at_of a1 b2).1]
  exact this
theorem atL_len (l : List Up) (t : Tm) : (atL l t).length ≤ l.length := by
  unfold atL
  split
  · have h1 := resL_len (cmp := cmpRows) (atP l t)
    have h2 : (atP l t).length ≤ l.length := by unfold atP; rw [List.length_map]; exact List.length_filter_le ..
    omega
  · simp
theorem merge_len (L : List (List Ct)) : (mergeL L).length ≤ L.flatten.length := by
  unfold mergeL
  split
  · have := resL_len (cmp := cmpRows) (L.flatten.map Ct.p); rwa [List.length_map] at this
  · simp
end Go.Proofs.YtcfldgncmbcpmaaGreat
namespace Go.Proofs.YtcfldgncmbcpmaaGreat
open Go Go.RowKit

theorem empty_ups (w : World) : (w.alloc (.cells #[] 44)).ownsRow w.heap.size 44 6 (.slice (some ⟨w.heap.size, 0, none⟩) 0 0) 0 [] :=
  World.ownsRow_made w #[] 0 (Nat.le_refl _) (Nat.zero_le _) rfl
theorem two_clists (w : World) (A A' : Option Addr) (c c' : Nat) (l m : List Ct) (h : Cts w w.heap.size A l) (h' : Cts w w.heap.size A' m) : ∃ V, V = w.alloc (.cells #[.slice A l.length c, .slice A' m.length c'] 49) ∧ Below w.heap.size w V ∧ CLs V V.heap.size (some ⟨w.heap.size, 0, none⟩) [⟨A, c, l⟩, ⟨A', c', m⟩] := by
  obtain ⟨W, e1, s1, b1, o1⟩ := boxd w [.slice A l.length c, .slice A' m.length c'] 49
  refine ⟨W, e1, b1, rw_own (t := 49) o1, fun s hs => ?_⟩
  rcases List.mem_cons.1 hs with rfl | hs
  · exact h.keep b1
  · obtain rfl : s = ⟨A', c', m⟩ := by simpa using hs
    exact h'.keep b1
/-- the same, said of what is there at t -/
def There (l : List (List Vl × Int)) (e : Int) (w : World) (x : Ending) (w' : World) : Prop :=
  ∃ A c, ∃ outL : List Ct, x = .returned (.tuple #[.slice A outL.length c, .int .i64 e]) ∧ outL.map Ct.p = l ∧ Cts w' w'.heap.size A outL ∧ (∀ u ∈ outL, COk u) ∧ outL.length ≤ 1099511627776 ∧ Below w.heap.size w w'
theorem there_at (A : Option Addr) (c : Nat) (l : List Up) (t : Tm) (w : World) (hl : Ups w w.heap.size A l) (hok : ∀ u ∈ l, UOk u) (hn : l.length ≤ 1099511627776) :
    Calls Tryz.prog 13 #[.slice A l.length c, .agg #[.int .u64 (t.e : Int), .int .u64 (t.a : Int), .int .u64 (t.b : Int)]] w (There (atL l t) (atE l t) w) :=
  (at_any A c l t w hl hok hn).mono fun x w' ⟨A', c', outL, h1, h2, h3, h4, h5, _⟩ => ⟨A', c', outL, h1, h2, h3, h4, by
    have := atL_len l t
    rw [← h2, List.length_map] at this
    omega, h5⟩
/-- the same, and where it lies: in no block that was there -/
def ThereNew (l : List (List Vl × Int)) (e : Int) (w : World) (x : Ending) (w' : World) : Prop :=
  ∃ A c, ∃ outL : List Ct, x = .returned (.tuple #[.slice A outL.length c, .int .i64 e]) ∧ outL.map Ct.p = l ∧ Cts w' w'.heap.size A outL ∧ (∀ u ∈ outL, COk u) ∧ outL.length ≤ 1099511627776 ∧ Below w.heap.size w w' ∧ LoC w.heap.size A outL
theorem there_new (A : Option Addr) (c : Nat) (l : List Up) (t : Tm) (w : World) (hl : Ups w w.heap.size A l) (hok : ∀ u ∈ l, UOk u) (hn : l.length ≤ 1099511627776) :
    Calls Tryz.prog 13 #[.slice A l.length c, .agg #[.int .u64 (t.e : Int), .int .u64 (t.a : Int), .int .u64 (t.b : Int)]] w (ThereNew (atL l t) (atE l t) w) :=
  (at_any A c l t w hl hok hn).mono fun x w' ⟨A', c', outL, h1, h2, h3, h4, h5⟩ => ⟨A', c', outL, h1, h2, h3, h4, by
    have := atL_len l t
    rw [← h2, List.length_map] at this
    omega, h5⟩
/-- the counts of two answers are the same -/
theorem same_yes (A A' : Option Addr) (c c' : Nat) (l m : List Ct) (w : World) (hl : Cts w w.heap.size A l) (hm : Cts w w.heap.size A' m) (hol : ∀ u ∈ l, COk u) (hom : ∀ u ∈ m, COk u) (hn : l.length ≤ 1099511627776) (hn' : m.length ≤ 1099511627776) (h : l.map Ct.p = m.map Ct.p) :
    Calls Tryz.prog 15 #[.slice A l.length c, .slice A' m.length c'] w fun x w' => x = .returned (.bool true) ∧ Below w.heap.size w w' :=
  (sameC_any A A' c c' l m w hl hm hol hom hn hn').mono fun x w' ⟨b, h1, h2, h3⟩ => ⟨by rw [h1, h2.2 h], h3⟩
/-- one list evened out -/
def Evened (l : List (Uk × Int)) (e : Int) (w : World) (x : Ending) (w' : World) : Prop :=
  ∃ A c, ∃ outL : List Up, x = .returned (.tuple #[.slice A outL.length c, .int .i64 e]) ∧ outL.map Up.p = l ∧ Ups w' w'.heap.size A outL ∧ (∀ u ∈ outL, UOk u) ∧ outL.length ≤ 1099511627776 ∧ Below w.heap.size w w'
theorem evened_one (A A1 : Option Addr) (c1 : Nat) (l : List Up) (w : World) (hl : ULs w w.heap.size A [⟨A1, c1, l⟩]) (hok : ∀ u ∈ l, UOk u) (hn : l.length ≤ 1099511627776) :
    Calls Tryz.prog 16 #[.slice A 1 1] w (Evened (consL [l]) (consE [l]) w) := by
  have h0 := consolidate_any A 1 [⟨A1, c1, l⟩] w hl (fun s hs u hu => by
    obtain rfl : s = ⟨A1, c1, l⟩ := by simpa using hs
    exact hok u hu) (by simpa [flatR] using hn) (by simp)
  refine h0.mono fun x w' ⟨A', c', outL, e1, e2, e3, e4, e5⟩ => ?_
  simp only [List.map_cons, List.map_nil] at e1 e2
  refine ⟨A', c', outL, e1, e2, e3, e4, ?_, e5⟩
  have := consL_len [l]
  rw [← e2, List.length_map] at this
  simp only [List.flatten_cons, List.flatten_nil, List.append_nil] at this
  omega
end Go.Proofs.YtcfldgncmbcpmaaGreat
namespace Go.Proofs.YtcfldgncmbcpmaaGreat
open Go Go.RowKit

/-- the blocks in which the rows of an update lie -/
def Awn (Q : Nat → Prop) (u : Up) : Prop := (0 < u.key.length → ∀ b o, u.kA = some ⟨b, o, none⟩ → Q b) ∧ (0 < u.row.length → ∀ b o, u.rA = some ⟨b, o, none⟩ → Q b)
theorem Awn.imp {Q R : Nat → Prop} {u : Up} (h : Awn Q u) (k : ∀ b, Q b → R b) : Awn R u := ⟨fun hp b o e => k b (h.1 hp b o e), fun hp b o e => k b (h.2 hp b o e)⟩
theorem Awn.and {Q R : Nat → Prop} {u : Up} (h : Awn Q u) (k : Awn R u) : Awn (fun b => Q b ∧ R b) u := ⟨fun hp b o e => ⟨h.1 hp b o e, k.1 hp b o e⟩, fun hp b o e => ⟨h.2 hp b o e, k.2 hp b o e⟩⟩
theorem Awn.all {Q : Nat → Prop} (u : Up) (h : ∀ b, Q b) : Awn Q u := ⟨fun _ b _ _ => h b, fun _ b _ _ => h b⟩
theorem awn_lt {w : World} {B : Nat} {u : Up} (h : UIn w B u) : Awn (fun b => b < B) u := by
  refine ⟨fun hp b o e => ?_, fun hp b o e => ?_⟩
  · obtain ⟨b', o', e', hb, _⟩ := h.key hp
    rw [e] at e'
    simp only [Option.some.injEq, Addr.mk.injEq, and_true] at e'
    omega
  · obtain ⟨b', o', e', hb, _⟩ := h.row hp
    rw [e] at e'
    simp only [Option.some.injEq, Addr.mk.injEq, and_true] at e'
    omega
theorem awn_lo {B : Nat} {A : Option Addr} {l : List Up} (h : Lo B A l) {u : Up} (hu : u ∈ l) : Awn (fun b => B ≤ b) u := ⟨fun _ b o e => h.2 u hu b o (.inl e), fun _ b o e => h.2 u hu b o (.inr e)⟩
/-- the rows of an update lie neither in block PB nor in the one that v owns -/
def Aw (PB : Nat) (v : Value) (u : Up) : Prop := Awn (fun b => b ≠ PB ∧ v.ownBlock ≠ some b) u
/-- all that was there is as it was, but block PB and the one that v owns -/
structure PKeep (w w' : World) (PB : Nat) (v : Value) : Prop where
  os : w'.os = w.os
  tape : w'.tape = w.tape
  output : w'.output = w.output
  size : w.heap.size ≤ w'.heap.size
  block : ∀ k, k < w.heap.size → k ≠ PB → v.ownBlock ≠ some k → w'.heap[k]? = w.heap[k]?
/-- v' owns the block that v owns, or a newer one than all of w -/
def Grew (w : World) (v v' : Value) : Prop := v'.ownBlock = v.ownBlock ∨ ∃ k, v'.ownBlock = some k ∧ w.heap.size ≤ k
section
variable {w w' w'' : World} {PB : Nat} {v v' v'' : Value}
theorem PKeep.refl : PKeep w w PB v := ⟨rfl, rfl, rfl, Nat.le_refl _, fun _ _ _ _ => rfl⟩
theorem PKeep.trans (h : PKeep w w' PB v) (hg : Grew w v v') (k : PKeep w' w'' PB v') : PKeep w w'' PB v :=
  ⟨k.os.trans h.os, k.tape.trans h.tape, k.output.trans h.output, Nat.le_trans h.size k.size, fun i hi h1 h2 => (k.block i (Nat.lt_of_lt_of_le hi h.size) h1 fun e => by
    rcases hg with hg | ⟨j, hj, hl⟩
    · rw [hg] at e; exact h2 e
    · rw [hj] at e; injection e with e; omega).trans (h.block i hi h1 h2)⟩
theorem PKeep.quiet (h : PKeep w w' PB v) (hb : Below w'.heap.size w' w'') : PKeep w w'' PB v :=
  ⟨hb.os.trans h.os, hb.tape.trans h.tape, hb.output.trans h.output, Nat.le_trans h.size hb.size, fun i hi h1 h2 => (hb.block i (Nat.lt_of_lt_of_le hi h.size)).trans (h.block i hi h1 h2)⟩
theorem PKeep.after (hb : Below w.heap.size w w') (k : PKeep w' w'' PB v) : PKeep w w'' PB v :=
  ⟨k.os.trans hb.os, k.tape.trans hb.tape, k.output.trans hb.output, Nat.le_trans hb.size k.size, fun i hi h1 h2 => (k.block i (Nat.lt_of_lt_of_le hi hb.size) h1 h2).trans (hb.block i hi)⟩
theorem PKeep.of_quiet (hb : Below w.heap.size w w') : PKeep w w' PB v := PKeep.refl.quiet hb
theorem PKeep.below (h : PKeep w w' PB v) {B : Nat} (hw : B ≤ w.heap.size) (hB : B ≤ PB) (hv : ∀ k, v.ownBlock = some k → B ≤ k) : Below B w w' :=
  ⟨h.os, h.tape, h.output, h.size, fun k hk => h.block k (by omega) (by omega) fun e => by have := hv k e; omega⟩
theorem Grew.same : Grew w v v := .inl rfl
theorem Grew.trans (h : Grew w v v') (hs : w.heap.size ≤ w'.heap.size) (k : Grew w' v' v'') : Grew w v v'' := by
  rcases k with k | ⟨j, hj, hl⟩
  · rcases h with h | ⟨i, hi, hl⟩
    · exact .inl (k.trans h)
    · exact .inr ⟨i, k.trans hi, hl⟩
  · exact .inr ⟨j, hj, Nat.le_trans hs hl⟩
theorem Grew.later (h : Grew w' v v') (hs : w.heap.size ≤ w'.heap.size) : Grew w v v' := by
  rcases h with h | ⟨i, hi, hl⟩
  · exact .inl h
  · exact .inr ⟨i, hi, Nat.le_trans hs hl⟩
theorem vals_pk {A : Option Addr} {l : List Vl} (h : Vals w w.heap.size A l) (hg : PKeep w w' PB v) (hA : 0 < l.length → ∀ b o, A = some ⟨b, o, none⟩ → b ≠ PB ∧ v.ownBlock ≠ some b) : Vals w' w'.heap.size A l := fun hp => by
  obtain ⟨b, o, e, hb, hc⟩ := h hp
  obtain ⟨h1, h2⟩ := hA hp b o e
  have hk : ∀ j, w'.cell? ⟨b, j, none⟩ = w.cell? ⟨b, j, none⟩ := fun j => by unfold World.cell?; rw [hg.block b hb h1 h2]
  refine ⟨b, o, e, Nat.lt_of_lt_of_le hb hg.size, fun i v hi => ?_⟩
  obtain ⟨a0, a1, a2⟩ := hc i v hi
  exact ⟨(hk _).trans a0, (hk _).trans a1, (hk _).trans a2⟩
theorem uin_pk {u : Up} (h : UIn w w.heap.size u) (ha : Aw PB v u) (hg : PKeep w w' PB v) : UIn w' w'.heap.size u :=
  ⟨vals_pk h.key hg ha.1, vals_pk h.row hg ha.2⟩
theorem lies_pk {α : Type} {size : Nat} {cells : α → List Value} {A : Option Addr} {l : List α} (h : Lies size cells w w.heap.size A l) (hg : PKeep w w' PB v) (hA : 0 < l.length → ∀ b o, A = some ⟨b, o, none⟩ → b ≠ PB ∧ v.ownBlock ≠ some b) : Lies size cells w' w'.heap.size A l := fun hp => by
  obtain ⟨b, o, e, hb, hc⟩ := h hp
  obtain ⟨h1, h2⟩ := hA hp b o e
  have hk : ∀ j, w'.cell? ⟨b, j, none⟩ = w.cell? ⟨b, j, none⟩ := fun j => by unfold World.cell?; rw [hg.block b hb h1 h2]
  exact ⟨b, o, e, Nat.lt_of_lt_of_le hb hg.size, fun i x hi j u hj => (hk _).trans (hc i x hi j u hj)⟩
/-- what lies in blocks that are there, and apart, is apart from what v has grown into -/
theorem Aw.grew {u : Up} (ha : Aw PB v u) (hl : UIn w w.heap.size u) (hg : Grew w v v') : Aw PB v' u := (Awn.and ha (awn_lt hl)).imp fun b h => by
  refine ⟨h.1.1, fun e => ?_⟩
  rcases hg with hg | ⟨j, hj, hlj⟩
  · rw [hg] at e; exact h.1.2 e
  · rw [hj] at e; injection e with e; have := h.2; omega
end
/-- a producer: a block of the call's own, and a row -/
structure Prod (w : World) (PB : Nat) (t : Tm) (why : Int) (v : Value) (M : List Up) : Prop where
  own : Own w PB 68 [.int .u64 (t.e : Int), .int .u64 (t.a : Int), .int .u64 (t.b : Int), .int .i64 why, v]
  row : w.ownsRow (PB + 1) 44 6 v M.length (M.flatMap Up.cells)
  each_ : ∀ u ∈ M, UIn w w.heap.size u ∧ UOk u ∧ Aw PB v u
  zero : why = 0 → t = ⟨0, 0, 0⟩
section
variable {w w' : World} {PB : Nat} {t : Tm} {why : Int} {v : Value} {M : List Up}
theorem Prod.quiet (h : Prod w PB t why v M) (hb : Below w.heap.size w w') : Prod w' PB t why v M :=
  ⟨h.own.past hb h.own.inside, own_below h.row hb, fun u hu => ⟨(h.each_ u hu).1.keep hb, (h.each_ u hu).2.1, (h.each_ u hu).2.2⟩, h.zero⟩
theorem Prod.later (h : Prod w PB t why v M) : ∀ k, v.ownBlock = some k → PB + 1 ≤ k ∧ k < w.heap.size := fun k hk => h.row.lt k hk
theorem Prod.five (h : Prod w PB t why v M) : w.cell? ⟨PB, 0, none⟩ = some (.int .u64 (t.e : Int)) ∧ w.cell? ⟨PB, 1, none⟩ = some (.int .u64 (t.a : Int)) ∧ w.cell? ⟨PB, 2, none⟩ = some (.int .u64 (t.b : Int)) ∧ w.cell? ⟨PB, 3, none⟩ = some (.int .i64 why) ∧ w.cell? ⟨PB, 4, none⟩ = some v :=
  ⟨h.own.at_ 0, h.own.at_ 1, h.own.at_ 2, h.own.at_ 3, h.own.at_ 4⟩
theorem Prod.unfrozen (h : Prod w PB t why v M) : w.frozen? ⟨PB, 0, none⟩ = false ∧ w.frozen? ⟨PB, 1, none⟩ = false ∧ w.frozen? ⟨PB, 2, none⟩ = false ∧ w.frozen? ⟨PB, 3, none⟩ = false ∧ w.frozen? ⟨PB, 4, none⟩ = false :=
  ⟨h.own.open_ 0, h.own.open_ 1, h.own.open_ 2, h.own.open_ 3, h.own.open_ 4⟩
end
end Go.Proofs.YtcfldgncmbcpmaaGreat
namespace Go.Proofs.YtcfldgncmbcpmaaGreat
open Go Go.RowKit

theorem tm_cells3 (t : Tm) : t.cells = [.int .u64 (t.e : Int), .int .u64 (t.a : Int), .int .u64 (t.b : Int)] := rfl
theorem tbox (w : World) (t : Tm) : ∃ W, W = w.alloc (.cells #[.int .u64 (t.e : Int), .int .u64 (t.a : Int), .int .u64 (t.b : Int)] 27) ∧ Below w.heap.size w W ∧ W.heap.size = w.heap.size + 1 ∧ Own W w.heap.size 27 [.int .u64 (t.e : Int), .int .u64 (t.a : Int), .int .u64 (t.b : Int)] :=
  ⟨_, rfl, (Below.refl _ _).alloc (Nat.le_refl _) _, by simp, Own.made w 27 [.int .u64 (t.e : Int), .int .u64 (t.a : Int), .int .u64 (t.b : Int)]⟩
/-- four cells of the block written -/
theorem own_four {w : World} {P : Nat} {t : TypeId} {z0 z1 z2 z3 z4 : Value} (h : Own w P t [z0, z1, z2, z3, z4]) (a b c d : Value) :
    ∃ X, X = (((w.setCell ⟨P, 0, none⟩ a).setCell ⟨P, 1, none⟩ b).setCell ⟨P, 2, none⟩ c).setCell ⟨P, 3, none⟩ d ∧ Own X P t [a, b, c, d, z4] ∧ PKeep w X P (.slice none 0 0) ∧ X.heap.size = w.heap.size := by
  refine ⟨_, rfl, (((h.set_ 0 a).set_ 1 b).set_ 2 c).set_ 3 d, ⟨rfl, rfl, rfl, by simp [World.setCell], fun k _ hk _ => ?_⟩, by simp [World.setCell]⟩
  have q := fun (W : World) (i : Nat) (v : Value) => Below.heap_setCell W ⟨P, i, none⟩ v k hk
  rw [q, q, q, q]
/-- what Fail leaves: a failure, at some time -/
def FailSays (PB : Nat) (v : Value) (w : World) (x : Ending) (w' : World) : Prop :=
  x = .returned (.tuple #[]) ∧ ∃ t : Tm, Own w' PB 68 [.int .u64 (t.e : Int), .int .u64 (t.a : Int), .int .u64 (t.b : Int), .int .i64 10, v] ∧ PKeep w w' PB (.slice none 0 0)
set_option maxRecDepth 100000 in
set_option maxHeartbeats 3200000 in
theorem failL_any (PB : Nat) (t : Tm) (why : Int) (v : Value) (tf : Tm) (w : World) (h : Own w PB 68 [.int .u64 (t.e : Int), .int .u64 (t.a : Int), .int .u64 (t.b : Int), .int .i64 why, v]) (hw : why = 0 ∨ why = 10) :
    Calls Tryz.prog 31 #[.pointer (some ⟨PB, 0, none⟩), .agg #[.int .u64 (tf.e : Int), .int .u64 (tf.a : Int), .int .u64 (tf.b : Int)]] w (FailSays PB v w) := by
  obtain ⟨V, hV, hvb, hvs, hvo⟩ := tbox w tf
  have hbig := h.past hvb h.inside
  have hlt := h.inside
  obtain ⟨X, hX, hxo, hxk, hxs⟩ := own_four hbig (.int .u64 (tf.e : Int)) (.int .u64 (tf.a : Int)) (.int .u64 (tf.b : Int)) (.int .i64 10)
  have HX := Lib.hid (And.intro hxo (PKeep.after hvb hxk))
  have HB := Lib.hid (And.intro hbig hvb)
  have HVo := Lib.hid hvo
  have c0 := hbig.at_ 0
  have c1 := hbig.at_ 1
  have c2 := hbig.at_ 2
  have c3 := hbig.at_ 3
  have f0 := hbig.open_ 0
  have f1 := hbig.open_ 1
  have f2 := hbig.open_ 2
  have f3 := hbig.open_ 3
  have d0 := hvo.at_ 0
  have d1 := hvo.at_ 1
  have d2 := hvo.at_ 2
  simp only [List.getElem?_cons_zero, List.getElem?_cons_succ] at c0 c1 c2 c3 d0 d1 d2
  have hcmp := fun W => Lib.hid (compare_grows tf t W)
  unfold Tm.val at hcmp
  clear h hvb hvs hvo hxo hxk hxs hbig hlt
  have u1 : ∀ p : Past V, Calls Tryz.prog 45 #[.agg #[.int .u64 (tf.e : Int), .int .u64 (tf.a : Int), .int .u64 (tf.b : Int)], .agg #[.int .u64 (t.e : Int), .int .u64 (t.a : Int), .int .u64 (t.b : Int)]] p.w fun e w'' => e = .returned (.int .i64 (tf.cmp t)) ∧ ∃ q : Past V, w'' = q.w := fun p => calls_past (compare_any tf t p.w)
  have u2 := fun p : Past V => (HB.out.1.past p.h HB.out.1.inside).at_ 0
  have u3 := fun p : Past V => (HB.out.1.past p.h HB.out.1.inside).at_ 1
  have u4 := fun p : Past V => (HB.out.1.past p.h HB.out.1.inside).at_ 2
  have u5 := fun p : Past V => (HB.out.1.past p.h HB.out.1.inside).at_ 3
  have u6 := fun p : Past V => (HVo.out.past p.h HVo.out.inside).at_ 0
  have u7 := fun p : Past V => (HVo.out.past p.h HVo.out.inside).at_ 1
  have u8 := fun p : Past V => (HVo.out.past p.h HVo.out.inside).at_ 2
  simp only [List.getElem?_cons_zero, List.getElem?_cons_succ] at u2 u3 u4 u5 u6 u7 u8
  obtain ⟨r, hr⟩ : ∃ r, tf.cmp t = r := ⟨_, rfl⟩
  rw [hr] at u1
  clear hr
  rcases hw with rfl | rfl
  · skip
    go_enter Tryz.func31, Tryz.ntmps31
    go_upto_region 1 with fail
    rw [← hV]
    clear hV
    refine wp_region_past V (by kernel_rfl) (by kernel_rfl) (Below.refl _ _) ?_
    repeat (first | go_big_quiet_step ((go_at_call 45; exact u1 _)) | quiet_step ((go_at_call 45; exact u1 _)))
    refine wpQuiet_nil ?_
    intro wz hw'
    obtain ⟨⟨wy, hbz⟩, hw''⟩ := hw'
    dsimp only at hw''
    subst hw''
    clear u1 u2 u3 u4 u5 u6 u7 u8 c0 c1 c2 c3 f0 f1 f2 f3 d0 d1 d2 hX
    have hbig := HB.out.1.past hbz HB.out.1.inside
    have hvo := HVo.out.past hbz HVo.out.inside
    obtain ⟨X, hX, hxo, hxk, hxs⟩ := own_four hbig (.int .u64 (tf.e : Int)) (.int .u64 (tf.a : Int)) (.int .u64 (tf.b : Int)) (.int .i64 10)
    have HX := Lib.hid (And.intro hxo (PKeep.after HB.out.2 (PKeep.after hbz hxk)))
    have f0 := hbig.open_ 0
    have f1 := hbig.open_ 1
    have f2 := hbig.open_ 2
    have f3 := hbig.open_ 3
    have c0 := hbig.at_ 0
    have c1 := hbig.at_ 1
    have c2 := hbig.at_ 2
    have c3 := hbig.at_ 3
    have d0 := hvo.at_ 0
    have d1 := hvo.at_ 1
    have d2 := hvo.at_ 2
    simp only [List.getElem?_cons_zero, List.getElem?_cons_succ] at c0 c1 c2 c3 d0 d1 d2
    clear hbig hvo hxo hxk hxs hbz
    go_wp2_with fail
    rw [← hX]
    exact bodyPost_end (results_none rfl _ _ _) rfl ⟨rfl, tf, HX.out.1, HX.out.2⟩
  · by_cases hr0 : r < 0
    · have t1 : decide (r < 0) = true := decide_eq_true hr0
      clear hr0
      go_enter Tryz.func31, Tryz.ntmps31
      go_upto_region 1 with fail
      rw [← hV]
      clear hV
      refine wp_region_past V (by kernel_rfl) (by kernel_rfl) (Below.refl _ _) ?_
      repeat (first | go_big_quiet_step ((go_at_call 45; exact u1 _)) | quiet_step ((go_at_call 45; exact u1 _)))
      refine wpQuiet_nil ?_
      intro wz hw'
      obtain ⟨⟨wy, hbz⟩, hw''⟩ := hw'
      dsimp only at hw''
      subst hw''
      clear u1 u2 u3 u4 u5 u6 u7 u8 c0 c1 c2 c3 f0 f1 f2 f3 d0 d1 d2 hX
      have hbig := HB.out.1.past hbz HB.out.1.inside
      have hvo := HVo.out.past hbz HVo.out.inside
      obtain ⟨X, hX, hxo, hxk, hxs⟩ := own_four hbig (.int .u64 (tf.e : Int)) (.int .u64 (tf.a : Int)) (.int .u64 (tf.b : Int)) (.int .i64 10)
      have HX := Lib.hid (And.intro hxo (PKeep.after HB.out.2 (PKeep.after hbz hxk)))
      have f0 := hbig.open_ 0
      have f1 := hbig.open_ 1
      have f2 := hbig.open_ 2
      have f3 := hbig.open_ 3
      have c0 := hbig.at_ 0
      have c1 := hbig.at_ 1
      have c2 := hbig.at_ 2
      have c3 := hbig.at_ 3
      have d0 := hvo.at_ 0
      have d1 := hvo.at_ 1
      have d2 := hvo.at_ 2
      simp only [List.getElem?_cons_zero, List.getElem?_cons_succ] at c0 c1 c2 c3 d0 d1 d2
      clear hbig hvo hxo hxk hxs hbz
      go_wp2_with fail
      rw [← hX]
      exact bodyPost_end (results_none rfl _ _ _) rfl ⟨rfl, tf, HX.out.1, HX.out.2⟩
    · have t1 : decide (r < 0) = false := decide_eq_false hr0
      clear hr0
      go_enter Tryz.func31, Tryz.ntmps31
      go_upto_region 1 with fail
      rw [← hV]
      clear hV
      refine wp_region_past V (by kernel_rfl) (by kernel_rfl) (Below.refl _ _) ?_
      repeat (first | go_big_quiet_step ((go_at_call 45; exact u1 _)) | quiet_step ((go_at_call 45; exact u1 _)))
      refine wpQuiet_nil ?_
      intro wz hw'
      obtain ⟨⟨wy, hbz⟩, hw''⟩ := hw'
      dsimp only at hw''
      subst hw''
      clear u1 u2 u3 u4 u5 u6 u7 u8 c0 c1 c2 c3 f0 f1 f2 f3 d0 d1 d2 hX
      have HX := Lib.hid (And.intro (HB.out.1.past hbz HB.out.1.inside) (PKeep.of_quiet (PB := PB) (v := .slice none 0 0) (HB.out.2.trans (hbz.mono HB.out.2.size))))
      clear hbz
      go_wp2_with fail
      exact bodyPost_end (results_none rfl _ _ _) rfl ⟨rfl, t, HX.out.1, HX.out.2⟩
end Go.Proofs.YtcfldgncmbcpmaaGreat
namespace Go.Proofs.YtcfldgncmbcpmaaGreat
open Go Go.RowKit

theorem pk_grown {w w' : World} {v : Value} {PB : Nat} (h : w.grownBy w' v.ownBlock) : PKeep w w' PB v := ⟨h.os, h.tape, h.output, h.size, fun k hk _ hne => h.block k hk fun e => hne e.symm⟩
theorem pk_set (w : World) (PB i : Nat) (x v : Value) : PKeep w (w.setCell ⟨PB, i, none⟩ x) PB v := ⟨rfl, rfl, rfl, by simp [World.setCell], fun k _ hk _ => Below.heap_setCell w ⟨PB, i, none⟩ x k hk⟩
theorem grown_set (w : World) (PB i : Nat) (x : Value) : w.grownBy (w.setCell ⟨PB, i, none⟩ x) (some PB) := ⟨rfl, rfl, rfl, by simp [World.setCell], fun k _ hk => Below.heap_setCell w ⟨PB, i, none⟩ x k fun e => hk (by rw [e])⟩
theorem PKeep.wide {w w' : World} {PB : Nat} (v : Value) (h : PKeep w w' PB (.slice none 0 0)) : PKeep w w' PB v := ⟨h.os, h.tape, h.output, h.size, fun k hk h1 _ => h.block k hk h1 (by simp [Value.ownBlock])⟩
theorem PKeep.grown {w w' : World} {PB : Nat} (h : PKeep w w' PB (.slice none 0 0)) : w.grownBy w' (some PB) := ⟨h.os, h.tape, h.output, h.size, fun k hk h1 => h.block k hk (fun e => h1 (by rw [e])) (by simp [Value.ownBlock])⟩
/-- one more update, or a failure -/
def ProdSays (PB : Nat) (why : Int) (v : Value) (M : List Up) (u : Up) (x : Int) (w : World) (e : Ending) (w' : World) : Prop :=
  e = .returned (.tuple #[]) ∧ ∃ t' v', Prod w' PB t' (if x = 0 then why else 10) v' (if x = 0 then M ++ [u] else M) ∧ PKeep w w' PB v ∧ Grew w v v'
set_option maxRecDepth 100000 in
set_option maxHeartbeats 6400000 in
theorem produce_any (PB : Nat) (t : Tm) (why : Int) (v : Value) (M : List Up) (u : Up) (x : Int) (w : World) (h : Prod w PB t why v M) (hw : why = 0 ∨ why = 10) (hu : UIn w w.heap.size u) (ok : UOk u) (ha : Aw PB v u) (hn : M.length ≤ 1099511627776) :
    Calls Tryz.prog 21 #[.pointer (some ⟨PB, 0, none⟩), u.val, .int .i64 x] w (ProdSays PB why v M u x w) := by
  obtain ⟨i0, hi, hz0, hz1, hz2⟩ := info_parts infoUp
  have hU := Tryz.underlying22
  obtain ⟨V, hV, hvb, hvs, hvo⟩ := upbox w u
  have hP := h.quiet hvb
  rw [show u.val = .agg #[.slice u.kA u.key.length u.kc, .slice u.rA u.row.length u.rc, .int .u64 (u.t.e : Int), .int .u64 (u.t.a : Int), .int .u64 (u.t.b : Int), .int .i64 u.d] from rfl]
  have HP := Lib.hid (And.intro hP (And.intro hvb (And.intro hvo hvs)))
  have HU := Lib.hid (And.intro hu (And.intro ok (And.intro ha h)))
  obtain ⟨e0, e1, e2, e3, e4, e5⟩ := own6 hvo
  clear h hu ok ha hvb hvs hvo hP
  by_cases hx : x = 0
  · have t1 : (x != 0) = false := by simp [hx]
    have HX := Lib.hid hx
    clear hx
    have c4 := HP.out.1.own.at_ 4
    have hlt := HP.out.1.own.inside
    simp only [List.getElem?_cons_zero, List.getElem?_cons_succ] at c4
    have hne : v.ownBlock ≠ some PB := fun e => by have := (HP.out.1.later _ e).1; omega
    have hsz : PB + 1 ≤ V.heap.size := hlt
    go_enter Tryz.func21, Tryz.ntmps21
    go_upto_region 1 with fail
    rw [← hV]
    clear hV
    go_upto_region 3 with fail
    go_region_law (refine step_append_lies (size := 6) (cells := Up.cells) (l := [u]) (B := V.heap.size + 1) _ rfl (.tmp 18) (.tmp 20) 22 44 rfl i0 _ 80 hU hi hz0 hz1 hz2 rfl (by decide) (fun _ => rfl) ucells_one (PB + 1) v M.length _ rfl (HP.out.1.row.alloc _).drew 1 V.heap.size 0 (by simp [Act.eval, Act.put]) (up_made _ u) (by unfold maxLen; simp; omega) (by simp; omega) (by simp; omega) ?_; intro v2 w2 ho2 hb2 hv2 hg2; obtain ⟨A2, c2, rfl, hA2, hm2, hL2⟩ := lies_of_own (size := 6) (cells := Up.cells) (l := M ++ [u]) (n := M.length + [u].length) (by decide) ucells_len (by rw [List.length_append]) (by rw [List.flatMap_append]; exact ho2); have hp2 := hg2.block PB (by simp; omega) (fun e => hne e.symm) |>.trans (HP.out.1.own.more (.cells #[.slice u.kA u.key.length u.kc, .slice u.rA u.row.length u.rc, .int .u64 (u.t.e : Int), .int .u64 (u.t.a : Int), .int .u64 (u.t.b : Int), .int .i64 u.d] 44)); have f4 := Own.open_ hp2 4; have c4' := Own.at_ hp2 4; simp only [List.getElem?_cons_zero, List.getElem?_cons_succ] at c4')
    all_goals
      have hpk : PKeep w w2 PB v := PKeep.after HP.out.2.1 (PKeep.after ((Below.refl _ _).alloc (Nat.le_refl _) _) (PKeep.after ((Below.refl _ _).drew) (pk_grown hg2)))
      have hgr : Grew w v (.slice A2 (M ++ [u]).length c2) := by
        rcases hv2 with e | e
        · exact .inl e
        · exact .inr ⟨_, e, by have := HP.out.2.2.2; simp; omega⟩
      have hne2 : (Value.slice A2 (M ++ [u]).length c2).ownBlock ≠ some PB := fun e => by have := (ho2.lt _ e).1; omega
      have HF := Lib.hid (And.intro ho2 (And.intro hp2 (And.intro hpk (And.intro hgr hne2))))
      clear ho2 hb2 hv2 hg2 hp2 hpk hgr hne2 hL2
      go_wp2_with fail
      obtain ⟨g1, g2, g3, g4, g5⟩ := HF.out
      have hl1 : (M ++ [u]).length = M.length + 1 := by simp
      rw [hl1] at g1 g4 g5
      have hpk' := g3.trans g4 (pk_set w2 PB 4 (.slice A2 (M.length + 1) c2) (.slice A2 (M.length + 1) c2))
      refine bodyPost_end (results_none rfl _ _ _) rfl ⟨rfl, t, .slice A2 (M.length + 1) c2, ?_, hpk', g4⟩
      rw [if_pos HX.out, if_pos HX.out]
      refine ⟨Own.set_ g2 4 _, ?_, fun y hy => ?_, HU.out.2.2.2.zero⟩
      · rw [List.flatMap_append, List.length_append]
        exact g1.kept (grown_set w2 PB 4 _) (.inr g5)
      · rcases List.mem_append.1 hy with hy | hy
        · obtain ⟨h1, h2, h3⟩ := HU.out.2.2.2.each_ y hy
          exact ⟨uin_pk h1 h3 hpk', h2, h3.grew h1 g4⟩
        · obtain rfl : y = u := by simpa using hy
          exact ⟨uin_pk HU.out.1 HU.out.2.2.1 hpk', HU.out.2.1, HU.out.2.2.1.grew HU.out.1 g4⟩
  · have t1 : (x != 0) = true := bne_iff_ne.2 hx
    have HX := Lib.hid hx
    clear hx
    have u1 := fun (W : World) (hW : Below V.heap.size V W) => Lib.hid (failL_any PB t why v u.t W (HP.out.1.own.past hW HP.out.1.own.inside) hw)
    unfold FailSays at u1
    have hself : Below V.heap.size V V.drew := (Below.refl _ _).drew
    clear hw
    go_enter Tryz.func21, Tryz.ntmps21
    go_upto_region 1 with fail
    rw [← hV]
    clear hV
    go_upto_region 2 with fail
    go_region_with (go_at_call 31; refine (u1 _ hself).out.mono ?_; rintro _ w2 ⟨rfl, t2, ho2, hk2⟩)
    all_goals
      have HF := Lib.hid (And.intro ho2 (PKeep.after HP.out.2.1 (PKeep.after (Below.refl _ _).drew (hk2.wide v))))
      have HG := Lib.hid (PKeep.after (Below.refl _ _).drew hk2 : PKeep V w2 PB (.slice none 0 0))
      clear ho2 hk2
      go_wp2_with fail
      refine bodyPost_end (results_none rfl _ _ _) rfl ⟨rfl, t2, v, ?_, HF.out.2, Grew.same⟩
      rw [if_neg HX.out, if_neg HX.out]
      have hne : v.ownBlock ≠ some PB := fun e => by have := (HP.out.1.later _ e).1; omega
      refine ⟨HF.out.1, HP.out.1.row.kept HG.out.grown (.inr hne), fun y hy => ?_, fun e => by omega⟩
      obtain ⟨h1, h2, h3⟩ := HU.out.2.2.2.each_ y hy
      exact ⟨uin_pk h1 h3 HF.out.2, h2, h3⟩
end Go.Proofs.YtcfldgncmbcpmaaGreat
namespace Go.Proofs.YtcfldgncmbcpmaaGreat
open Go Go.RowKit

/-- the first n are alike, no more -/
def AlikeSays (l : List Up) (x0 : Up) (w : World) (e : Ending) (w' : World) : Prop :=
  ∃ n : Nat, e = .returned (.int .i64 (n : Int)) ∧ 1 ≤ n ∧ n ≤ l.length ∧ (∀ m y, m < n → l[m]? = some y → x0.k.cmp y.k = 0) ∧ (∀ y, l[n]? = some y → x0.k.cmp y.k ≠ 0) ∧ Below w.heap.size w w'
set_option maxRecDepth 100000 in
set_option maxHeartbeats 6400000 in
theorem alike_any (A : Option Addr) (c : Nat) (l : List Up) (x0 : Up) (w : World) (hl : Ups w w.heap.size A l) (hok : ∀ u ∈ l, UOk u) (hn : l.length ≤ 1099511627776) (h0 : l[0]? = some x0) :
    Calls Tryz.prog 43 #[.slice A l.length c] w (AlikeSays l x0 w) := by
  have hpos : 0 < l.length := (List.getElem?_eq_some_iff.1 h0).1
  obtain ⟨b, o, rfl, hB, hys⟩ := lies_up hl.head hpos
  have HL := Lib.hid (And.intro hl (And.intro hok h0))
  have HY := Lib.hid (fun (W : World) (hW : Below w.heap.size w W) (i : Nat) (x : Up) (hx : l[i]? = some x) => ((hys i x hx).past_ hW hB).six)
  have H0 := Lib.hid (fun (W : World) (hW : Below w.heap.size w W) => ((hys 0 x0 h0).past_ hW hB).six)
  have hm0 := List.mem_of_getElem? h0
  have HM := Lib.hid hm0
  have HB := Lib.hid hB
  clear hl hok h0 hys hm0 hB
  go_enter Tryz.func43, Tryz.ntmps43
  go_wp2_with fail
  go_loopw [3] (fun v3 wr => ∃ j : Nat, v3 = .int .i64 (j : Int) ∧ 1 ≤ j ∧ j ≤ l.length ∧ (∀ m y, m < j → l[m]? = some y → x0.k.cmp y.k = 0) ∧ Below w.heap.size w wr) (fun v3 _ => l.length - (intOf v3).toNat)
  case atStart =>
    refine ⟨1, rfl, Nat.le_refl _, hpos, fun m y h1 h2 => ?_, Below.refl _ _⟩
    obtain rfl : m = 0 := by omega
    rw [HL.out.2.2] at h2
    obtain rfl := Option.some.inj h2
    exact uk_lin.self _
  case round =>
    obtain ⟨j, rfl, hj1, hj2, heq, hb⟩ := hrel
    obtain ⟨wi, hwi⟩ : ∃ wi, wi = wr := ⟨_, rfl⟩
    subst hwi
    have HJ := Lib.hid (And.intro heq hb)
    clear heq hb
    by_cases hjn : j < l.length
    · have hy : l[j]? = some l[j] := List.getElem?_eq_getElem hjn
      have hym := List.mem_of_getElem? hy
      generalize l[j] = y at *
      have q2 : (0 : Int) ≤ (j : Int) := by omega
      have q3 : (j : Int) < (l.length : Int) := by omega
      have q4 : decide ((j : Int) < (l.length : Int)) = true := decide_eq_true q3
      have q5 : (0 : Int) < (l.length : Int) := by omega
      have HYJ := Lib.hid (And.intro hy hym)
      have u1 : ∀ p : Past wi, Calls Tryz.prog 25 #[.agg #[.slice x0.kA x0.key.length x0.kc, .slice x0.rA x0.row.length x0.rc, .int .u64 (x0.t.e : Int), .int .u64 (x0.t.a : Int), .int .u64 (x0.t.b : Int), .int .i64 x0.d], .agg #[.slice y.kA y.key.length y.kc, .slice y.rA y.row.length y.rc, .int .u64 (y.t.e : Int), .int .u64 (y.t.a : Int), .int .u64 (y.t.b : Int), .int .i64 y.d]] p.w fun e w'' => e = .returned (.int .i64 (x0.k.cmp y.k)) ∧ ∃ q : Past wi, w'' = q.w := fun p => by
        have hp := HJ.out.2.trans (p.h.mono HJ.out.2.size)
        exact calls_past ((dcompare_gr x0 y p.w (((HL.out.1.each_ x0 HM.out).past hp (Nat.le_refl _)).wide hp.size) (((HL.out.1.each_ y HYJ.out.2).past hp (Nat.le_refl _)).wide hp.size) (HL.out.2.1 x0 HM.out) (HL.out.2.1 y HYJ.out.2)).mono fun e w' h => ⟨h.1, h.2.below⟩)
      have u2 := fun p : Past wi => H0.out p.w (HJ.out.2.trans (p.h.mono HJ.out.2.size))
      have u3 := fun p : Past wi => HY.out p.w (HJ.out.2.trans (p.h.mono HJ.out.2.size)) j y HYJ.out.1
      simp only [Nat.zero_mul, Nat.add_zero] at u2
      obtain ⟨r, hr⟩ : ∃ r, x0.k.cmp y.k = r := ⟨_, rfl⟩
      rw [hr] at u1
      have HR := Lib.hid hr
      clear hr hy hym
      by_cases hr0 : r = 0
      · have t1 : (r == 0) = true := beq_iff_eq.2 hr0
        have HR0 := Lib.hid hr0
        clear hr0
        go_upto_region 2 with fail
        refine wp_region_past wi (by kernel_rfl) (by kernel_rfl) (Below.refl _ _) ?_
        repeat (first | go_big_quiet_step ((go_at_call 25; exact u1 _)) | quiet_step ((go_at_call 25; exact u1 _)))
        refine wpQuiet_nil ?_
        intro wz hw'
        obtain ⟨⟨wy, hbz⟩, hw''⟩ := hw'
        dsimp only at hw''
        subst hw''
        have HZ := Lib.hid (HJ.out.2.trans (hbz.mono HJ.out.2.size))
        clear u1 u2 u3 hbz t1
        go_wp2_with fail
        go_roundw
        case rel =>
          refine ⟨j + 1, by go_num, by omega, by omega, fun m z h1 h2 => ?_, HZ.out⟩
          by_cases hmj : m = j
          · subst hmj
            rw [HYJ.out.1] at h2
            obtain rfl := Option.some.inj h2
            rw [HR.out, HR0.out]
          · exact HJ.out.1 m z (by omega) h2
        case measure => simp [intOf]; omega
      · have t1 : (r == 0) = false := beq_eq_false_iff_ne.2 hr0
        have HR0 := Lib.hid hr0
        clear hr0
        go_upto_region 2 with fail
        refine wp_region_past wi (by kernel_rfl) (by kernel_rfl) (Below.refl _ _) ?_
        repeat (first | go_big_quiet_step ((go_at_call 25; exact u1 _)) | quiet_step ((go_at_call 25; exact u1 _)))
        refine wpQuiet_nil ?_
        intro wz hw'
        obtain ⟨⟨wy, hbz⟩, hw''⟩ := hw'
        dsimp only at hw''
        subst hw''
        have HZ := Lib.hid (HJ.out.2.trans (hbz.mono HJ.out.2.size))
        clear u1 u2 u3 hbz t1
        go_wp2_with fail
        go_ret
        exact ⟨j, rfl, by omega, by omega, HJ.out.1, fun z hz => by
          rw [HYJ.out.1] at hz
          obtain rfl := Option.some.inj hz
          rw [HR.out]
          exact HR0.out, HZ.out⟩
    · have q4 : decide ((j : Int) < (l.length : Int)) = false := decide_eq_false (by omega)
      go_upto_region 2 with fail
      go_quiet (fail)
      go_wp2_with fail
      go_ret
      exact ⟨j, rfl, by omega, by omega, HJ.out.1, fun z hz => by
        have := (List.getElem?_eq_some_iff.1 hz).1
        omega, below_draws HJ.out.2 _⟩
end Go.Proofs.YtcfldgncmbcpmaaGreat
namespace Go.Proofs.YtcfldgncmbcpmaaGreat
open Go Go.RowKit Go.Sort Go.Lib Go.Shelf

/-- the rows of an update lie in another block than g -/
def Off (g : Nat) (u : Up) : Prop := Awn (fun b => b ≠ g) u
theorem Off.aw {g : Nat} {u : Up} (h : Off g u) : Aw g (.slice none 0 0) u := h.imp fun b hb => ⟨hb, by simp [Value.ownBlock]⟩
set_option maxRecDepth 100000 in
set_option maxHeartbeats 3200000 in
theorem sortP_any (g cap : Nat) (l : List Up) (w : World) (hrow : RowOf Up.cells 6 w g l) (hg : g < w.heap.size) (hin : ∀ u ∈ l, UIn w w.heap.size u ∧ UOk u ∧ Off g u) (hpos : 0 < l.length) (hn : l.length < 4611686018427387904) :
    Calls Tryz.prog 42 #[.slice (some ⟨g, 0, none⟩) l.length cap, .func (.func 25) #[] #[]] w fun e w' => e = .returned (.tuple #[]) ∧ ∃ l' : List Up, l'.Perm l ∧ l'.Pairwise (fun x y => x.k.cmp y.k ≤ 0) ∧ RowOf Up.cells 6 w' g l' ∧ RowKit.Below g w w' ∧ ∀ b, b ≠ g → b < w.heap.size → w'.heap[b]? = w.heap[b]? := by
  obtain ⟨m, rfl⟩ := map_pick (p := fun x : Up => UIn w w.heap.size x ∧ UOk x ∧ Off g x) l fun x hx => hin x hx
  have eg : ∀ args w, (callFunc 25 args).run Tryz.prog w = .ok (.enter 25 args) w := enters_of Tryz.func25 (by kernel_rfl) rfl
  have hlen : (m.map (·.1)).length = m.length := List.length_map ..
  letI : Inhabited {x : Up // UIn w w.heap.size x ∧ UOk x ∧ Off g x} := ⟨m[0]'(by rw [hlen] at hpos; exact hpos)⟩
  have hcon := sort_gen (α := {x : Up // UIn w w.heap.size x ∧ UOk x ∧ Off g x}) Tryz.sortP 6 Tryz.isAgg44 Tryz.sizeOf44 (fun x => Up.cells x.1) (fun _ => rfl) (by decide) (fun x => ucells_one x.1)
    (fun x y => x.1.k.cmp y.1.k) (swo_lin uk_lin fun x : {x : Up // UIn w w.heap.size x ∧ UOk x ∧ Off g x} => x.1.k) 25 #[] g cap m w eg
    (fun mm os dk _ x y => by
      have hb := sortWorld_below (enc := fun x : {x : Up // UIn w w.heap.size x ∧ UOk x ∧ Off g x} => Up.cells x.1) (k := 6) (off := 0) (m := mm) (dk := dk) (os := os) (Nat.le_refl g) hg
      have hpk : PKeep w (sortWorldK (fun x : {x : Up // UIn w w.heap.size x ∧ UOk x ∧ Off g x} => Up.cells x.1) 6 w g 0 mm dk os) g (.slice none 0 0) := ⟨hb.os, hb.tape, hb.output, hb.size, fun k hk h1 _ => sortWorld_other h1 hk⟩
      exact dcompare_gr x.1 y.1 _ (uin_pk x.2.1 x.2.2.2.aw hpk) (uin_pk y.2.1 y.2.2.2.aw hpk) x.2.2.1 y.2.2.1)
    (fun i x hx j v hv => hrow i x.1 (by rw [List.getElem?_map, hx]; rfl) j v hv) hg (by rw [hlen] at hn; exact hn)
  change Calls Tryz.prog 42 _ _ _ at hcon
  rw [hlen]
  refine hcon.mono ?_
  rintro e w' ⟨rfl, l', hp, hs, hr, hb, ho⟩
  refine ⟨rfl, l'.map (·.1), hp.map _, ?_, fun i x hx j v hv => ?_, hb, ho⟩
  · rw [List.pairwise_map]
    exact hs.imp fun {a b} h => by
      have := uk_lin.swap a.1.k b.1.k
      omega
  · rw [List.getElem?_map] at hx
    obtain ⟨y, hy, rfl⟩ := Option.map_eq_some_iff.1 hx
    exact hr i y hy j v hv
theorem sortP_all (v : Value) (n base : Nat) (l : List Up) (w : World) (hnl : n = l.length) (h : w.ownsRow base 44 6 v n (l.flatMap Up.cells)) (hin : ∀ u ∈ l, UIn w w.heap.size u ∧ UOk u ∧ Awn (fun b => v.ownBlock ≠ some b) u) (hn : l.length < 4611686018427387904) :
    ∃ A c, v = .slice A n c ∧ n ≤ c ∧ c ≤ maxLen ∧ Calls Tryz.prog 42 #[.slice A n c, .func (.func 25) #[] #[]] w fun e w' => e = .returned (.tuple #[]) ∧ ∃ l' : List Up, l'.Perm l ∧ l'.Pairwise (fun x y => x.k.cmp y.k ≤ 0) ∧ Lies 6 Up.cells w' w'.heap.size A l' ∧ (∀ b o, A = some ⟨b, o, none⟩ → v.ownBlock = some b) ∧ ∀ PB, PKeep w w' PB v := by
  subst hnl
  by_cases h0 : l.length = 0
  · obtain rfl : l = [] := List.eq_nil_of_length_eq_zero h0
    have key : ∀ A c, (∀ b o, A = some ⟨b, o, none⟩ → v.ownBlock = some b) → Calls Tryz.prog 42 #[.slice A 0 c, .func (.func 25) #[] #[]] w fun e w' => e = .returned (.tuple #[]) ∧ ∃ l' : List Up, l'.Perm [] ∧ l'.Pairwise (fun x y => x.k.cmp y.k ≤ 0) ∧ Lies 6 Up.cells w' w'.heap.size A l' ∧ (∀ b o, A = some ⟨b, o, none⟩ → v.ownBlock = some b) ∧ ∀ PB, PKeep w w' PB v := fun A c hA =>
      (AnyF.slices_SortFunc_none Tryz.sortP A c _ w).mono fun e w' ⟨he, hw⟩ => ⟨he, [], List.Perm.refl _, List.Pairwise.nil, Lies.nil_, hA, fun PB => hw ▸ PKeep.refl⟩
    rcases h.2 with ⟨rfl, _⟩ | ⟨g, cap, cur, rfl, _, _, h1, h2, _⟩
    · exact ⟨_, _, rfl, Nat.le_refl _, Nat.zero_le _, key _ _ fun b o e => by cases e⟩
    · refine ⟨_, _, rfl, h1, h2, key _ _ fun b o e => ?_⟩
      simp only [Option.some.injEq, Addr.mk.injEq, and_true] at e
      obtain ⟨rfl, _⟩ := e
      rfl
  · rcases h.2 with ⟨_, hz⟩ | ⟨g, cap, cur, rfl, hb, hheap, h1, h2, _⟩
    · exact absurd hz h0
    · have hg : g < w.heap.size := (Array.getElem?_eq_some_iff.1 hheap).1
      have hrow : RowOf Up.cells 6 w g l := fun i x hx j u hj => by
        have hf := flat_of (cells := Up.cells) (size := 6) (fun _ => rfl) l i j x u hx hj
        have hlt : i * 6 + j < l.length * 6 := by have := (List.getElem?_eq_some_iff.1 hf).1; rwa [flat_size (cells := Up.cells) (size := 6) (fun _ => rfl)] at this
        exact ⟨by rw [h.cellAt _ hlt]; exact hf, h.frozenAt _⟩
      refine ⟨_, _, rfl, h1, h2, (sortP_any g cap l w hrow hg (fun u hu => ⟨(hin u hu).1, (hin u hu).2.1, (hin u hu).2.2.imp fun b hbo e => hbo (by rw [e]; rfl)⟩) (by omega) hn).mono ?_⟩
      rintro e w' ⟨he, l', hp, hs, hr, hbe, ho⟩
      refine ⟨he, l', hp, hs, fun _ => ⟨g, 0, rfl, Nat.lt_of_lt_of_le hg hbe.size, fun i x hx j u hj => ?_⟩, fun b o e => ?_, fun PB => ⟨hbe.os, hbe.tape, hbe.output, hbe.size, fun k hk _ hne => ho k (fun e => hne (by rw [e]; rfl)) hk⟩⟩
      · rw [Nat.zero_add]
        exact (hr i x hx j u hj).1
      · simp only [Option.some.injEq, Addr.mk.injEq, and_true] at e
        obtain ⟨rfl, _⟩ := e
        rfl
end Go.Proofs.YtcfldgncmbcpmaaGreat
namespace Go.Proofs.YtcfldgncmbcpmaaGreat
open Go Go.RowKit

/-- every sum fits -/
def fitU (l : List Up) : Bool := (asm Uk.cmp (l.map Up.p)).all fun x => fits x.2
/-- all ahead of place k stand before all behind it -/
def BdU (S : List Up) (k : Nat) : Prop := ∀ a ∈ S.take k, ∀ b ∈ S.drop k, a.k.cmp b.k < 0
theorem cons_group {l : List Up} (h : ∀ u ∈ l, chkU u = 0) : consE [l] = (if fitU l = true then 0 else 10) ∧ consL [l] = (if fitU l = true then nz Uk.cmp (l.map Up.p) else []) := by
  have hc : chkLs [l] = 0 := chkLs_all.2 fun m hm => by
    obtain rfl : m = l := by simpa using hm
    exact chkUs_all.2 h
  unfold consE consL
  rw [if_pos hc, if_pos hc]
  simp only [List.flatten_cons, List.flatten_nil, List.append_nil]
  exact ⟨rfl, rfl⟩
theorem end_step {S : List Up} (hs : S.Pairwise fun x y => x.k.cmp y.k ≤ 0) (hc : ∀ u ∈ S, chkU u = 0) {k n : Nat} {x : Up} (hx : S[k]? = some x) (hn1 : 1 ≤ n)
    (heq : ∀ m y, m < n → (S.drop k)[m]? = some y → x.k.cmp y.k = 0) (hmax : ∀ y, (S.drop k)[n]? = some y → x.k.cmp y.k ≠ 0) (hb : BdU S k) :
    BdU S (k + n) ∧ (fitU (S.take (k + n)) = (fitU (S.take k) && fitU ((S.drop k).take n))) ∧ nz Uk.cmp ((S.take (k + n)).map Up.p) = nz Uk.cmp ((S.take k).map Up.p) ++ nz Uk.cmp (((S.drop k).take n).map Up.p) := by
  have htk : S.take (k + n) = S.take k ++ (S.drop k).take n := by rw [List.take_add]
  have hlt : ∀ a ∈ (S.take k).map Up.p, ∀ b ∈ ((S.drop k).take n).map Up.p, Uk.cmp a.1 b.1 < 0 := fun a ha b hb' => by
    obtain ⟨a', ha', rfl⟩ := List.mem_map.1 ha
    obtain ⟨b', hb'', rfl⟩ := List.mem_map.1 hb'
    exact hb a' ha' b' (List.mem_of_mem_take hb'')
  have hasm := asm_append (cmp := Uk.cmp) hlt
  refine ⟨fun a ha b hb' => ?_, ?_, ?_⟩
  · have hbd : b ∈ S.drop k := by
      rw [← List.drop_drop] at hb'
      exact List.mem_of_mem_drop hb'
    rw [htk] at ha
    rcases List.mem_append.1 ha with ha | ha
    · exact hb a ha b hbd
    · obtain ⟨m, hm⟩ := List.getElem?_of_mem ha
      have hmn : m < n := by have := (List.getElem?_eq_some_iff.1 hm).1; rw [List.length_take] at this; omega
      rw [List.getElem?_take_of_lt hmn] at hm
      have h0 := heq m a hmn hm
      obtain ⟨i, hi⟩ := List.getElem?_of_mem hb'
      rw [List.getElem?_drop] at hi
      have hlen := (List.getElem?_eq_some_iff.1 hi).1
      have hkn : k + n < S.length := by omega
      have hy : S[k + n]? = some S[k + n] := List.getElem?_eq_getElem hkn
      have hne := hmax S[k + n] (by rw [List.getElem?_drop]; exact hy)
      have hpw := fun i j (hi : i < S.length) (hj : j < S.length) (h : i < j) => List.pairwise_iff_getElem.1 hs i j hi hj h
      obtain ⟨hkl, hxe⟩ := List.getElem?_eq_some_iff.1 hx
      have h1 := hpw k (k + n) hkl hkn (by omega)
      rw [hxe] at h1
      have hxb : x.k.cmp b.k < 0 := by
        obtain ⟨hbl, hbe⟩ := List.getElem?_eq_some_iff.1 hi
        rcases Nat.eq_zero_or_pos i with h | h
        · subst h
          rw [← hbe]
          have : S[k + n + 0] = S[k + n] := rfl
          rw [this]
          omega
        · have h3 := hpw (k + n) (k + n + i) hkn hbl (by omega)
          rw [hbe] at h3
          exact uk_lin.lt_le (by omega) h3
      have := uk_lin.swap x.k a.k
      exact uk_lin.le_lt (by omega) hxb
  · unfold fitU
    rw [htk, List.map_append, hasm, List.all_append]
  · unfold nz
    rw [htk, List.map_append, hasm, List.filter_append]
theorem fitU_perm {S M : List Up} (hp : S.Perm M) (hc : ∀ u ∈ M, chkU u = 0) : fitU S = fitU M ∧ nz Uk.cmp (S.map Up.p) = nz Uk.cmp (M.map Up.p) := by
  have h1 : nz Uk.cmp (S.map Up.p) = nz Uk.cmp (M.map Up.p) := nz_ext uk_lin (R := UkR) (keys_right fun u hu => hc u (hp.mem_iff.1 hu)) (keys_right hc) fun k => sumOf_perm (hp.map Up.p) k
  refine ⟨?_, h1⟩
  unfold fitU
  rw [fit_all, fit_all, h1]
theorem resE_fit (l : List Up) : resE Uk.cmp (l.map Up.p) = 0 ↔ fitU l = true := by
  unfold resE fitU
  split
  · rename_i h; exact ⟨fun _ => h, fun _ => rfl⟩
  · rename_i h; exact ⟨fun e => by omega, fun e => absurd e h⟩
/-- 'append(v, s...)': which block grew, and where -/
theorem wpList_append_grown {α : Type} {size : Nat} {cells : α → List Value} {B : Nat} {A : Option Addr} {l : List α} {P : Program} (w : World) {ops : Array Oper} {rest : List Oper} {o : Oper} {a : Act} {Q : Exit → Act → World → Prop} (hgd : o.guard = none) (s x : Operand) (t e : TypeId)
    (ho : o.op = .call { callee := .builtin .append, args := #[s, x], argTypes := #[t, t] })
    (i0 : TypeInfo) (z : Value) (bytes : Nat) (ht : P.underlying t = some (.slice e)) (hi : P.info? e = some i0) (hz0 : i0.zero = some z) (hz1 : i0.size = size) (hz2 : i0.bytes = bytes) (hzs : z.cells.size = size) (hpos : 0 < size) (hcl : ∀ x, (cells x).length = size) (hone : ∀ x, ∀ u ∈ cells x, u.oneCell' = true)
    (base : Nat) (v : Value) (n : Nat) (xs : List Value) (hs : a.eval s = v) (hown : w.ownsRow base e size v n xs)
    (c : Nat) (hx : a.eval x = .slice A l.length c) (hl : Lies size cells w B A l) (h63 : n + l.length ≤ maxLen) (hn : (n + l.length) * bytes ≤ 140737488355328) (hbase : base ≤ w.heap.size)
    (h : ∀ v' w', w'.ownsRow base e size v' (n + l.length) (xs ++ l.flatMap cells) → Below base w w' → (v'.ownBlock = v.ownBlock ∨ v'.ownBlock = some w.heap.size) → w.grownBy w' v.ownBlock → wpList P ops Q rest (a.put o.dst v') w') :
    wpList P ops Q (o :: rest) a w := by
  refine wpList_plain hgd fun K hK => ?_
  obtain ⟨v', w', hrun, ho', hb, hk, hz⟩ : ∃ v' w', (Builtin.append_ #[t, t] o.type #[v, .slice A l.length c]).run P w = .ok v' w' ∧ w'.ownsRow base e size v' (n + l.length) (xs ++ l.flatMap cells) ∧ Below base w w' ∧ (v'.ownBlock = v.ownBlock ∨ v'.ownBlock = some w.heap.size) ∧ w.grownBy w' v.ownBlock := by
    cases A with
    | none =>
      have h0 : l = [] := by
        cases l with
        | nil => rfl
        | cons x l => obtain ⟨_, _, e, _⟩ := hl (by simp); cases e
      subst h0
      exact ⟨v, w, run_append_none w base _ _ _ i0 size ht hi v n xs hown c, by simpa using hown, Below.refl _ _, .inl rfl, ⟨rfl, rfl, rfl, Nat.le_refl _, fun _ _ _ => rfl⟩⟩
    | some ad =>
      have hnews : ∀ j u, (l.flatMap cells)[j]? = some u → w.cell? (ad.add j) = some u := by
        intro j u hu
        obtain ⟨i, r, y, rfl, hi, hr⟩ := flat_back hpos hcl l j u hu
        have hp : 0 < l.length := by have := (List.getElem?_eq_some_iff.1 hi).1; omega
        obtain ⟨b, o, e, _, hc⟩ := hl hp
        obtain rfl : ad = ⟨b, o, none⟩ := by injection e
        have ea : (⟨b, o, none⟩ : Addr).add (i * size + r) = ⟨b, o + i * size + r, none⟩ := by unfold Addr.add; split <;> simp_all <;> omega
        rw [ea]
        exact hc i y hi r u hr
      obtain ⟨v', w', hr, h2, h3, _, h5⟩ := run_append_own_at (P := P) w base t o.type e i0 _ size bytes ht hi hz0 hz1 hz2 hzs hpos v n xs hown ad l.length c (l.flatMap cells) (flat_size hcl l) hnews
        (fun u hu => by obtain ⟨y, _, hy⟩ := List.mem_flatMap.1 hu; exact hone y u hy) h63 hn hbase
      exact ⟨v', w', hr, h2, (Below.refl base w).grown h3 hbase (fun k hk => (hown.lt k hk).1), h5, h3⟩
  unfold Oper.wp execOp
  simp only [ho, resolve, invoke, builtin, Sem.run_bind, Sem.run_pure, Result.andThen_ok, List.map_toArray, List.map_cons, List.map_nil, hs, hx, hrun]
  exact hK _ _ (h v' w' ho' hb hk hz)
end Go.Proofs.YtcfldgncmbcpmaaGreat
