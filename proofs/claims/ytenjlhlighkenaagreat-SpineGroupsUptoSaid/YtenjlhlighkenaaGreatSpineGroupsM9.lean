/- Facts and contracts on which SpineGroups rests besides. -/
import Derived.Test.YtenjlhlighkenaaGreatSpineEndsM15
import Derived.BigQuiet
import Derived.Deep.RegionHeld3
namespace Go.Proofs.YtenjlhlighkenaaGreat
open Go Go.RowKit

theorem cmpRows_self (a : List Vl) : cmpRows a a = 0 := by have := cmpRows_swap a a; omega
theorem row_lin : Lin cmpRows RowR where
  swap a b := cmpRows_swap a b
  le a b c h k := cmpRows_le a b c h k
  eq a b ha hb := cmpRows_right (chkRow_zero ha).1 (chkRow_zero hb).1
theorem same_take {a b : List Vl} {k : Nat} {x y : Vl} (h : a.take k = b.take k) (hx : a[k]? = some x) (hy : b[k]? = some y) (e : x = y) : a.take (k + 1) = b.take (k + 1) := by
  rw [List.take_add_one, List.take_add_one, h, hx, hy, e]
theorem same_ne {a b : List Vl} {k : Nat} {x y : Vl} (hx : a[k]? = some x) (hy : b[k]? = some y) (e : x ≠ y) : a ≠ b := by
  rintro rfl
  rw [hx] at hy
  exact e (Option.some.inj hy)
theorem grd_val (op : BinOp) (x y : Operand) (xs ys : Array Value) (w : World) : (eqGuard op 104 x y (.agg xs) (.agg ys)).run Tryz.prog w = .ok () w := run_eqGuard_agg w op _ x y xs ys (by kernel_rfl)
theorem eqV_iff {x y : Vl} : eqV x y = true ↔ x = y := by
  obtain ⟨a, b, c⟩ := x
  obtain ⟨a', b', c'⟩ := y
  simp only [eqV, Bool.and_eq_true, beq_iff_eq, Vl.mk.injEq]
  refine ⟨fun ⟨h1, h2, h3⟩ => ⟨h1, h2, ?_⟩, fun ⟨h1, h2, h3⟩ => ⟨h1, h2, by rw [h3]⟩⟩
  rw [ByteArray.toList_eq, ByteArray.toList_eq] at h3
  cases c; cases c'; simp only at h3; congr 1; exact Array.toList_inj.1 h3
theorem eqIn_val (x y : Vl) (w : World) : (Op.equalIn 10000 104 x.val y.val).run Tryz.prog w = .ok (eqV x y) w := by
  have u0 := Tryz.underlying4
  have u1 := Tryz.underlying2
  have u2 := Tryz.underlying9
  have z0 := Tryz.sizeOf4
  have a0 := Tryz.isAgg4
  have z1 := Tryz.sizeOf2
  have a1 := Tryz.isAgg2
  have z2 := Tryz.sizeOf9
  have a2 := Tryz.isAgg9
  have hS : Tryz.prog.underlying 104 = some (.struct (Tryz.prog.fieldsOf 104)) := by kernel_rfl
  have hp : Tryz.prog.stoodInHeld 104 = false := by kernel_rfl
  unfold Vl.val
  rw [show (10000 : Nat) = 9998 + 1 + 1 from rfl, run_equalIn_agg w _ _ _ _ hS hp]
  simp only [Program.fieldsOf, Tryz.underlying104, eqV]
  cases h0 : (x.t == y.t) <;> cases h1 : (x.n == y.n) <;>
    simp [Op.eqFields, part, a0, a1, a2, z0, z1, z2, h0, h1, run_equalIn_bool' w _ _ _ _ u0, run_equalIn_int w _ _ _ _ _ _ u1, run_equalIn_string w _ _ _ _ u2, go_sem]
  all_goals (split <;> simp_all)
theorem neq_val (x y : Vl) (w : World) : (binOp .neq 104 x.val y.val).run Tryz.prog w = .ok (.bool (!eqV x y)) w := by
  have h := eqIn_val x y w
  unfold Vl.val at h ⊢
  rw [run_neq_struct, h]; rfl
set_option maxRecDepth 100000 in
set_option maxHeartbeats 1600000 in
theorem vsame_any (A A' : Option Addr) (c c' : Nat) (l m : List Vl) (w : World) (hl : Vals w w.heap.size A l) (hm : Vals w w.heap.size A' m) (hn : l.length ≤ maxLen) (hn' : m.length ≤ maxLen) :
    Calls Tryz.prog 39 #[.slice A l.length c, .slice A' m.length c'] w fun e w' => e = .returned (.bool (decide (l = m))) ∧ Below w.heap.size w w' := by
  unfold maxLen at hn hn'
  by_cases hlen : l.length = m.length
  · have Hl := Lib.hid (And.intro hl hm)
    have HLen := Lib.hid hlen
    have qq : ((l.length : Int) != (m.length : Int)) = false := by simp [hlen]
    clear hl hm
    have hle := Nat.le_of_eq hlen
    have hge := Nat.le_of_eq hlen.symm
    clear hlen
    go_enter Tryz.func39, Tryz.ntmps39
    go_wp2_with fail
    go_loopw [13] (fun i wr => ∃ k : Nat, i = .int .i64 (k : Int) ∧ k ≤ l.length ∧ Below w.heap.size w wr ∧ l.take k = m.take k)
      (fun i _ => l.length - (intOf i).toNat)
    case atStart => exact ⟨0, rfl, by omega, Below.refl _ _, rfl⟩
    case round =>
      obtain ⟨k, rfl, hk, hb, hs⟩ := hrel
      by_cases hlt : k < l.length
      · have hltm : k < m.length := by omega
        have hx : l[k]? = some l[k] := List.getElem?_eq_getElem hlt
        have hy : m[k]? = some m[k] := List.getElem?_eq_getElem hltm
        obtain ⟨b, o, rfl, hB, hl⟩ := Hl.out.1 (by omega)
        obtain ⟨b', o', rfl, hB', hm⟩ := Hl.out.2 (by omega)
        obtain ⟨c0, c1, c2⟩ := (hl k _ hx).past hb hB
        obtain ⟨d0, d1, d2⟩ := (hm k _ hy).past hb hB'
        have hst := fun e => same_take hs hx hy e
        have hsn := fun e => same_ne hx hy e
        generalize l[k] = x at *
        generalize m[k] = y at *
        have hne := neq_val x y
        have hgd := fun (x1 y1 : Operand) (xs ys : Array Value) (w : World) => grd_val .neq x1 y1 xs ys w
        unfold Vl.val at hne
        have q0 : (0 : Int) ≤ (k : Int) := by omega
        have q1 : (k : Int) < (l.length : Int) := by omega
        have q2 : (k : Int) < (m.length : Int) := by omega
        have HH := Lib.hid (And.intro hb (And.intro hst hsn))
        clear hb hs hx hy hl hm hst hsn
        by_cases he : x = y
        · have hv : (!eqV x y) = false := by rw [eqV_iff.2 he]; rfl
          simp only [hv] at hne
          have HE := Lib.hid he
          clear he hv
          go_wp2_with fail
          go_quiet (fail)
          go_wp2_with fail
          obtain ⟨hb, hst, hsn⟩ := HH.out
          go_roundw
          case rel => exact ⟨k + 1, by go_num, by omega, below_draws hb _, hst HE.out⟩
          case measure => simp [intOf]; omega
        · have hv : (!eqV x y) = true := by rw [Bool.not_eq_true', ← Bool.not_eq_true, eqV_iff]; exact he
          simp only [hv] at hne
          have HE := Lib.hid he
          clear he hv
          go_wp2_with fail
          go_quiet (fail)
          go_wp2_with fail
          go_ret
          obtain ⟨hb, hst, hsn⟩ := HH.out
          exact ⟨ret_bool (decide_eq_false (hsn HE.out)).symm, below_draws hb _⟩
      · have hk2 : k = l.length := by omega
        subst hk2
        rw [List.take_length, List.take_of_length_le (by omega)] at hs
        have HH := Lib.hid (And.intro hb hs)
        clear hb hs
        go_wp2_with fail
        go_ret
        exact ⟨ret_bool (decide_eq_true HH.out.2).symm, HH.out.1⟩
  · have q1 : ((l.length : Int) != (m.length : Int)) = true := by simp; omega
    have hne : decide (l = m) = false := decide_eq_false (fun e => hlen (by rw [e]))
    have HN := Lib.hid hne
    clear hlen hl hm hne
    go_enter Tryz.func39, Tryz.ntmps39
    go_wp2_with fail
    go_ret
    exact ⟨ret_bool HN.out.symm, Below.refl _ _⟩
set_option maxRecDepth 100000 in
set_option maxHeartbeats 16000000 in
theorem sameU_any (A A' : Option Addr) (c c' : Nat) (l m : List Up) (w : World) (hl : Ups w w.heap.size A l) (hm : Ups w w.heap.size A' m) (hol : ∀ u ∈ l, UOk u) (hom : ∀ u ∈ m, UOk u) (hn : l.length ≤ 1099511627776) (hn' : m.length ≤ 1099511627776) :
    Calls Tryz.prog 18 #[.slice A l.length c, .slice A' m.length c'] w fun x w' => ∃ b : Bool, x = .returned (.bool b) ∧ (b = true ↔ l.map Up.p = m.map Up.p) ∧ Below w.heap.size w w' := by
  have HL := Lib.hid (And.intro hl (And.intro hm (And.intro hol hom)))
  clear hl hm hol hom
  by_cases hlen : l.length = m.length
  case neg =>
    have t1 : ((l.length : Int) != (m.length : Int)) = true := by rw [bne_iff_ne]; omega
    have HN := Lib.hid hlen
    clear hlen
    go_enter Tryz.func18, Tryz.ntmps18
    go_wp2_with fail
    go_ret
    exact ⟨false, rfl, by simp only [Bool.false_eq_true, false_iff]; exact fun h => HN.out (by have := congrArg List.length h; simpa using this), Below.refl _ _⟩
  have t1 : ((l.length : Int) != (m.length : Int)) = false := by simp [hlen]
  have HE := Lib.hid hlen
  clear hlen
  go_enter Tryz.func18, Tryz.ntmps18
  go_wp2_with fail
  go_loopw [13] (fun v13 wr => ∃ j : Nat, v13 = .int .i64 (j : Int) ∧ j ≤ l.length ∧ Below w.heap.size w wr ∧ (l.take j).map Up.p = (m.take j).map Up.p) (fun v13 _ => l.length - (intOf v13).toNat)
  case atStart => exact ⟨0, rfl, by omega, Below.refl _ _, rfl⟩
  case round =>
    obtain ⟨j, rfl, hj, hbj, heq⟩ := hrel
    obtain ⟨wi, hwi⟩ : ∃ wi, wi = wr := ⟨_, rfl⟩
    subst hwi
    by_cases hjt : j < l.length
    · have hjm : j < m.length := by have := HE.out; omega
      have hx : l[j]? = some l[j] := List.getElem?_eq_getElem hjt
      have hy : m[j]? = some m[j] := List.getElem?_eq_getElem hjm
      have hxm := List.mem_of_getElem? hx
      have hym := List.mem_of_getElem? hy
      generalize l[j] = x at *
      generalize m[j] = y at *
      obtain ⟨b, o, rfl, hB, hxs⟩ := lies_up HL.out.1.head (by omega)
      obtain ⟨b', o', rfl, hB', hys⟩ := lies_up HL.out.2.1.head (by omega)
      have hX := fun p : Past wi => ((hxs j x hx).past_ (hbj.trans (p.h.mono hbj.size)) hB).six
      have hY := fun p : Past wi => ((hys j y hy).past_ (hbj.trans (p.h.mono hbj.size)) hB').six
      have hxin := fun p : Past wi => ((HL.out.1.each_ x hxm).past (hbj.trans (p.h.mono hbj.size)) (Nat.le_refl _)).wide (Nat.le_trans hbj.size p.h.size)
      have hyin := fun p : Past wi => ((HL.out.2.1.each_ y hym).past (hbj.trans (p.h.mono hbj.size)) (Nat.le_refl _)).wide (Nat.le_trans hbj.size p.h.size)
      have hxo := HL.out.2.2.1 x hxm
      have hyo := HL.out.2.2.2 y hym
      have u1 := fun p : Past wi => calls_past (vsame_any x.kA y.kA x.kc y.kc x.key y.key p.w (hxin p).key (hyin p).key (maxn hxo.kn) (maxn hyo.kn))
      have u2 := fun p : Past wi => calls_past (vsame_any x.rA y.rA x.rc y.rc x.row y.row p.w (hxin p).row (hyin p).row (maxn hxo.rn) (maxn hyo.rn))
      have hnext := fun h : x.p = y.p => (show (l.take (j + 1)).map Up.p = (m.take (j + 1)).map Up.p by rw [List.take_add_one, List.take_add_one, hx, hy, List.map_append, List.map_append, heq]; simp only [Option.toList_some, List.map_cons, List.map_nil]; rw [h])
      have hne := fun h : x.p ≠ y.p => (show ¬ l.map Up.p = m.map Up.p from fun e => h (by
        have h1 : (l.map Up.p)[j]? = some x.p := by rw [List.getElem?_map, hx]; rfl
        have h2 : (m.map Up.p)[j]? = some y.p := by rw [List.getElem?_map, hy]; rfl
        rw [e, h2] at h1
        exact (Option.some.inj h1).symm))
      have HJ := Lib.hid (And.intro hbj heq)
      have q0 : (0 : Int) ≤ (j : Int) := by omega
      have q1 : (j : Int) < (l.length : Int) := by omega
      have q1' : (j : Int) < (m.length : Int) := by omega
      have q2 : decide ((j : Int) < (l.length : Int)) = true := decide_eq_true q1
      clear hx hy hxm hym hxs hys hbj heq hxin hyin hxo hyo
      by_cases hk : x.key = y.key
      · simp only [decide_eq_true hk] at u1
        by_cases hr : x.row = y.row
        · simp only [decide_eq_true hr] at u2
          have hq : ∀ W, (binOp .neq 26 (.agg #[.int .u64 (x.t.e : Int), .int .u64 (x.t.a : Int), .int .u64 (x.t.b : Int)]) (.agg #[.int .u64 (y.t.e : Int), .int .u64 (y.t.a : Int), .int .u64 (y.t.b : Int)])).run Tryz.prog W = .ok (.bool (!eqT x.t y.t)) W := fun W => neq_time x.t y.t W
          have hgd := fun (x1 y1 : Operand) (xs ys : Array Value) (w : World) => grd_time .neq x1 y1 xs ys w
          by_cases ht : x.t = y.t
          · rw [eqT_iff.2 ht] at hq
            by_cases hd : x.d = y.d
            · have t2 : (x.d != y.d) = false := by simp [hd]
              have HEQ := Lib.hid (hnext (by unfold Up.p Up.k; rw [hk, hr, ht, hd]))
              clear hk hr ht hd hnext hne
              go_upto_region 6 with fail
              refine wp_region_past wi (by kernel_rfl) (by kernel_rfl) (Below.refl _ _) ?_
              repeat (first | go_big_quiet_step (fail) | quiet_step (fail))
              quiet_step ((go_at_call 39; exact u1 _))
              repeat (first | go_big_quiet_step (fail) | quiet_step (fail))
              quiet_step ((go_at_call 39; exact u2 _))
              repeat (first | go_big_quiet_step (fail) | quiet_step (fail))
              refine wpQuiet_nil ?_
              intro wz hw'
              obtain ⟨⟨wy, hbz⟩, hw''⟩ := hw'
              dsimp only at hw''
              subst hw''
              have HZ := Lib.hid (HJ.out.1.trans (hbz.mono HJ.out.1.size))
              clear hbz
              go_wp2_with fail
              go_roundw
              case rel => exact ⟨j + 1, by go_num, by omega, HZ.out, HEQ.out⟩
              case measure => simp [intOf]; omega
            · have t2 : (x.d != y.d) = true := bne_iff_ne.2 hd
              have HNE := Lib.hid (hne fun e => hd (congrArg Prod.snd e))
              clear hk hr ht hd hnext hne
              go_upto_region 6 with fail
              refine wp_region_past wi (by kernel_rfl) (by kernel_rfl) (Below.refl _ _) ?_
              repeat (first | go_big_quiet_step (fail) | quiet_step (fail))
              quiet_step ((go_at_call 39; exact u1 _))
              repeat (first | go_big_quiet_step (fail) | quiet_step (fail))
              quiet_step ((go_at_call 39; exact u2 _))
              repeat (first | go_big_quiet_step (fail) | quiet_step (fail))
              refine wpQuiet_nil ?_
              intro wz hw'
              obtain ⟨⟨wy, hbz⟩, hw''⟩ := hw'
              dsimp only at hw''
              subst hw''
              have HZ := Lib.hid (HJ.out.1.trans (hbz.mono HJ.out.1.size))
              clear hbz
              go_wp2_with fail
              go_ret
              exact ⟨false, rfl, by simp only [Bool.false_eq_true, false_iff]; exact HNE.out, HZ.out⟩
          · rw [show eqT x.t y.t = false from Bool.eq_false_iff.2 fun h => ht (eqT_iff.1 h)] at hq
            have HNE := Lib.hid (hne fun e => ht (congrArg (fun z => z.1.t) e))
            clear hk hr ht hnext hne
            go_upto_region 6 with fail
            refine wp_region_past wi (by kernel_rfl) (by kernel_rfl) (Below.refl _ _) ?_
            repeat (first | go_big_quiet_step (fail) | quiet_step (fail))
            quiet_step ((go_at_call 39; exact u1 _))
            repeat (first | go_big_quiet_step (fail) | quiet_step (fail))
            quiet_step ((go_at_call 39; exact u2 _))
            repeat (first | go_big_quiet_step (fail) | quiet_step (fail))
            refine wpQuiet_nil ?_
            intro wz hw'
            obtain ⟨⟨wy, hbz⟩, hw''⟩ := hw'
            dsimp only at hw''
            subst hw''
            have HZ := Lib.hid (HJ.out.1.trans (hbz.mono HJ.out.1.size))
            clear hbz
            go_wp2_with fail
            go_ret
            exact ⟨false, rfl, by simp only [Bool.false_eq_true, false_iff]; exact HNE.out, HZ.out⟩
        · simp only [decide_eq_false hr] at u2
          have HNE := Lib.hid (hne fun e => hr (congrArg (fun z => z.1.row) e))
          clear hk hr hnext hne
          go_upto_region 6 with fail
          refine wp_region_past wi (by kernel_rfl) (by kernel_rfl) (Below.refl _ _) ?_
          repeat (first | go_big_quiet_step (fail) | quiet_step (fail))
          quiet_step ((go_at_call 39; exact u1 _))
          repeat (first | go_big_quiet_step (fail) | quiet_step (fail))
          quiet_step ((go_at_call 39; exact u2 _))
          repeat (first | go_big_quiet_step (fail) | quiet_step (fail))
          refine wpQuiet_nil ?_
          intro wz hw'
          obtain ⟨⟨wy, hbz⟩, hw''⟩ := hw'
          dsimp only at hw''
          subst hw''
          have HZ := Lib.hid (HJ.out.1.trans (hbz.mono HJ.out.1.size))
          clear hbz
          go_wp2_with fail
          go_ret
          exact ⟨false, rfl, by simp only [Bool.false_eq_true, false_iff]; exact HNE.out, HZ.out⟩
      · simp only [decide_eq_false hk] at u1
        have HNE := Lib.hid (hne fun e => hk (congrArg (fun z => z.1.key) e))
        clear hk hnext hne u2
        go_upto_region 6 with fail
        refine wp_region_past wi (by kernel_rfl) (by kernel_rfl) (Below.refl _ _) ?_
        repeat (first | go_big_quiet_step (fail) | quiet_step (fail))
        quiet_step ((go_at_call 39; exact u1 _))
        repeat (first | go_big_quiet_step (fail) | quiet_step (fail))
        refine wpQuiet_nil ?_
        intro wz hw'
        obtain ⟨⟨wy, hbz⟩, hw''⟩ := hw'
        dsimp only at hw''
        subst hw''
        have HZ := Lib.hid (HJ.out.1.trans (hbz.mono HJ.out.1.size))
        clear hbz
        go_wp2_with fail
        go_ret
        exact ⟨false, rfl, by simp only [Bool.false_eq_true, false_iff]; exact HNE.out, HZ.out⟩
    · have hj2 : j = l.length := by omega
      have q2 : decide ((j : Int) < (l.length : Int)) = false := decide_eq_false (by omega)
      rw [hj2, List.take_length, HE.out, List.take_length] at heq
      have HJ := Lib.hid (And.intro hbj heq)
      clear hbj heq
      go_wp2_with fail
      go_ret
      exact ⟨true, rfl, ⟨fun _ => HJ.out.2, fun _ => rfl⟩, HJ.out.1⟩
theorem even_keys {l : List Up} (h : EvenP l) : KeysUp l := by
  have h1 := h.2.1
  unfold Srt at h1
  rw [List.pairwise_map] at h1
  refine h1.imp fun {x y} hxy => ?_
  have hxy : Uk.cmp x.k y.k < 0 := hxy
  unfold Uk.cmp at hxy
  split at hxy
  · rename_i h0; exact Int.le_of_eq h0
  · exact Int.le_of_lt hxy
theorem keys_le {l : List Up} (h : KeysUp l) {i j : Nat} {x y : Up} (hi : l[i]? = some x) (hj : l[j]? = some y) (hij : i ≤ j) : cmpRows x.key y.key ≤ 0 := by
  obtain ⟨hil, rfl⟩ := List.getElem?_eq_some_iff.1 hi
  obtain ⟨hjl, rfl⟩ := List.getElem?_eq_some_iff.1 hj
  by_cases e : i = j
  · subst e; rw [row_lin.self]; exact Int.le_refl _
  · exact List.pairwise_iff_getElem.1 h i j hil hjl (by omega)
theorem seek_len (l : List Up) (k : List Vl) : seekB l k ≤ l.length := (List.takeWhile_sublist _).length_le
theorem group_len (l : List Up) (k : List Vl) : seekB l k + (groupB l k).length ≤ l.length := by
  have h1 := (List.takeWhile_sublist (fun u : Up => decide (cmpRows u.key k = 0)) (l := l.drop (seekB l k))).length_le
  have h2 := seek_len l k
  rw [List.length_drop] at h1
  unfold groupB
  omega
theorem seek_cons_lt {l : List Up} {u : Up} {k : List Vl} (h : cmpRows u.key k < 0) : seekB (u :: l) k = seekB l k + 1 := by
  unfold seekB
  rw [List.takeWhile_cons_of_pos (by simpa using h)]
  rfl
theorem seek_cons_ge {l : List Up} {u : Up} {k : List Vl} (h : ¬ cmpRows u.key k < 0) : seekB (u :: l) k = 0 := by
  unfold seekB
  rw [List.takeWhile_cons_of_neg (by simpa using h)]
  rfl
/-- all ahead of it have lesser keys -/
theorem seek_lt : ∀ (l : List Up) (k : List Vl) (i : Nat) (u : Up), i < seekB l k → l[i]? = some u → cmpRows u.key k < 0
  | [], _, _, _, h, _ => by simp [seekB] at h
  | x :: l, k, i, u, h, hu => by
    by_cases hx : cmpRows x.key k < 0
    · rw [seek_cons_lt hx] at h
      cases i with
      | zero => rw [List.getElem?_cons_zero] at hu; cases hu; exact hx
      | succ i => rw [List.getElem?_cons_succ] at hu; exact seek_lt l k i u (by omega) hu
    · rw [seek_cons_ge hx] at h; omega
/-- the one there has not -/
theorem seek_at : ∀ (l : List Up) (k : List Vl) (u : Up), l[seekB l k]? = some u → ¬ cmpRows u.key k < 0
  | [], _, _, h => by simp at h
  | x :: l, k, u, h => by
    by_cases hx : cmpRows x.key k < 0
    · rw [seek_cons_lt hx, List.getElem?_cons_succ] at h; exact seek_at l k u h
    · rw [seek_cons_ge hx, List.getElem?_cons_zero] at h; cases h; exact hx
/-- it is the one place with both -/
theorem seek_only {l : List Up} {k : List Vl} {n : Nat} (hn : n ≤ l.length) (h1 : ∀ i u, i < n → l[i]? = some u → cmpRows u.key k < 0) (h2 : ∀ u, l[n]? = some u → ¬ cmpRows u.key k < 0) : seekB l k = n := by
  rcases Nat.lt_trichotomy (seekB l k) n with h | h | h
  · have hs : seekB l k < l.length := by omega
    exact absurd (h1 _ _ h (List.getElem?_eq_getElem hs)) (seek_at l k _ (List.getElem?_eq_getElem hs))
  · exact h
  · have hs : n < l.length := Nat.lt_of_lt_of_le h (seek_len l k)
    exact absurd (seek_lt l k n _ h (List.getElem?_eq_getElem hs)) (h2 _ (List.getElem?_eq_getElem hs))
theorem take_filter {k : List Vl} : ∀ {l : List Up}, KeysUp l → (∀ v ∈ l, ¬ cmpRows v.key k < 0) → l.takeWhile (fun u => decide (cmpRows u.key k = 0)) = l.filter fun u => decide (cmpRows u.key k = 0)
  | [], _, _ => rfl
  | v :: l, h, hv => by
    have hl := (List.pairwise_cons.1 h)
    by_cases h0 : cmpRows v.key k = 0
    · rw [List.takeWhile_cons_of_pos (by simpa using h0), List.filter_cons_of_pos (by simpa using h0), take_filter hl.2 fun x hx => hv x (List.mem_cons_of_mem _ hx)]
    · rw [List.takeWhile_cons_of_neg (by simpa using h0), List.filter_cons_of_neg (by simpa using h0), eq_comm, List.filter_eq_nil_iff]
      intro x hx
      have h1 := hl.1 x hx
      have h2 := hv v List.mem_cons_self
      have h3 : cmpRows k v.key < 0 := by have := row_lin.swap v.key k; omega
      have h4 := row_lin.lt_le h3 h1
      have h5 := row_lin.swap k x.key
      simp only [decide_eq_true_eq]
      omega
/-- a group is all updates of its key -/
theorem group_filter {k : List Vl} : ∀ {l : List Up}, KeysUp l → groupB l k = l.filter fun u => decide (cmpRows u.key k = 0)
  | [], _ => by simp [groupB]
  | v :: l, h => by
    have hl := (List.pairwise_cons.1 h)
    by_cases h0 : cmpRows v.key k < 0
    · have ih := group_filter (k := k) hl.2
      rw [List.filter_cons_of_neg (by simp only [decide_eq_true_eq]; omega), ← ih]
      unfold groupB
      rw [seek_cons_lt h0, List.drop_succ_cons]
    · unfold groupB
      rw [seek_cons_ge h0, List.drop_zero]
      refine take_filter h fun x hx => ?_
      rcases List.mem_cons.1 hx with rfl | hx
      · exact h0
      · intro h3
        exact h0 (row_lin.le_lt (hl.1 x hx) h3)

/-- how many are ahead -/
def seekQ (l : List Up) (q : Up → Bool) : Nat := (l.takeWhile q).length
theorem seekQ_len (l : List Up) (q : Up → Bool) : seekQ l q ≤ l.length := (List.takeWhile_sublist _).length_le
theorem seekQ_lt : ∀ (l : List Up) (q : Up → Bool) (i : Nat) (u : Up), i < seekQ l q → l[i]? = some u → q u = true
  | [], _, _, _, h, _ => by simp [seekQ] at h
  | x :: l, q, i, u, h, hu => by
    by_cases hx : q x = true
    · cases i with
      | zero => simp only [List.getElem?_cons_zero, Option.some.injEq] at hu; rw [← hu]; exact hx
      | succ i =>
        simp only [List.getElem?_cons_succ] at hu
        refine seekQ_lt l q i u ?_ hu
        unfold seekQ at h ⊢
        rw [List.takeWhile_cons_of_pos hx, List.length_cons] at h
        omega
    · unfold seekQ at h
      rw [List.takeWhile_cons_of_neg hx] at h
      simp at h
theorem seekQ_at : ∀ (l : List Up) (q : Up → Bool) (u : Up), l[seekQ l q]? = some u → q u = false
  | [], _, _, h => by simp at h
  | x :: l, q, u, h => by
    by_cases hx : q x = true
    · refine seekQ_at l q u ?_
      unfold seekQ at h ⊢
      rw [List.takeWhile_cons_of_pos hx, List.length_cons, List.getElem?_cons_succ] at h
      exact h
    · unfold seekQ at h
      rw [List.takeWhile_cons_of_neg hx] at h
      simp only [List.length_nil, List.getElem?_cons_zero, Option.some.injEq] at h
      rw [← h]
      simpa using hx
theorem seekQ_ge {l : List Up} {q : Up → Bool} (hl : l.Pairwise fun x y => q y = true → q x = true) {i : Nat} {u : Up} (h : seekQ l q ≤ i) (hu : l[i]? = some u) : q u = false := by
  have hi := (List.getElem?_eq_some_iff.1 hu).1
  rcases Nat.eq_or_lt_of_le h with e | hlt
  · exact seekQ_at l q u (by rw [e]; exact hu)
  · have hs : seekQ l q < l.length := by omega
    have h1 := seekQ_at l q _ (List.getElem?_eq_getElem hs)
    have h2 := List.pairwise_iff_getElem.1 hl _ _ hs hi hlt
    have h3 : l[i] = u := (List.getElem?_eq_some_iff.1 hu).2
    cases hq : q u
    · rfl
    · rw [h3] at h2
      rw [h2 hq] at h1
      cases h1
set_option maxRecDepth 100000 in
set_option maxHeartbeats 3200000 in
theorem skey1_any (P Q : Nat) (lA : Option Addr) (lc : Nat) (l : List Up) (A : Option Addr) (c : Nat) (key : List Vl) (k : Nat) (u : Up) (w : World) (hb : Own w P 32 [.slice lA l.length lc]) (hk : Own w Q 55 [.slice A key.length c]) (hin : Ups w w.heap.size lA l) (hv : Vals w w.heap.size A key) (hn : key.length ≤ maxLen) (hok : UOk u) (hu : l[k]? = some u) :
    Calls Tryz.prog 101 #[.int .i64 (k : Int), .pointer (some ⟨P, 0, none⟩), .pointer (some ⟨Q, 0, none⟩)] w fun e w' => e = .returned (.bool (!decide (cmpRows u.key key < 0))) ∧ Below w.heap.size w w' := by
  have hlt : k < l.length := (List.getElem?_eq_some_iff.1 hu).1
  have hui := hin.each_ u (List.mem_of_getElem? hu)
  obtain ⟨b', o, hA, hB, hxs⟩ := lies_up hin.head (by omega)
  have hX := fun p : Past w => (hb.past p.h hb.inside).at_ 0
  simp only [List.getElem?_cons_zero] at hX
  have hQ := fun p : Past w => (hk.past p.h hk.inside).at_ 0
  simp only [List.getElem?_cons_zero] at hQ
  have hE := fun p : Past w => ((hxs k u hu).past_ p.h hB).six
  have e0 := fun p : Past w => (hE p).1
  have x1 := fun p : Past w => hX p
  rw [hA] at x1
  have u1 := fun p : Past w => calls_past ((rows_gr u.kA A u.kc c u.key key p.w ((hui.key.past p.h (Nat.le_refl _)).wide p.h.size) ((hv.past p.h (Nat.le_refl _)).wide p.h.size) (Nat.le_trans hok.kn (by unfold maxLen; omega)) hn).mono fun x w' h => ⟨h.1, h.2.below⟩)
  have q0 : (0 : Int) ≤ (k : Int) := by omega
  have q1 : (k : Int) < (l.length : Int) := by omega
  obtain ⟨z, hz⟩ : ∃ z, cmpRows u.key key = z := ⟨_, rfl⟩
  rw [hz] at u1
  rw [show (!decide (cmpRows u.key key < 0)) = decide (0 ≤ z) from by rw [hz]; by_cases h : 0 ≤ z <;> simp [h] <;> omega]
  obtain ⟨B, hB'⟩ : ∃ B, decide (0 ≤ z) = B := ⟨_, rfl⟩
  rw [hB']
  clear hb hk hin hv hn hok hu hui hxs hX hE hz hA hB hlt
  go_enter Tryz.func101, Tryz.ntmps101
  go_upto_region 1 with fail
  refine wp_region_past w (by kernel_rfl) (by kernel_rfl) (Below.refl _ _) ?_
  repeat (first | go_big_quiet_step (fail) | quiet_step (fail))
  quiet_step ((go_at_call 66; exact u1 _))
  repeat (first | go_big_quiet_step (fail) | quiet_step (fail))
  clear u1
  refine wpQuiet_nil ?_
  intro wz hw'
  obtain ⟨⟨wy, hbz⟩, hw''⟩ := hw'
  dsimp only at hw''
  subst hw''
  go_wp2_with fail
  go_ret
  exact ⟨rfl, hbz⟩
def SeeksK1 (P Q : Nat) (l : List Up) (q : Up → Bool) (w : World) : Prop :=
  ∀ (k : Nat) (u : Up) (W : World), l[k]? = some u → Below w.heap.size w W → Calls Tryz.prog 101 #[.int .i64 (k : Int), .pointer (some ⟨P, 0, none⟩), .pointer (some ⟨Q, 0, none⟩)] W fun e w' => e = .returned (.bool (!q u)) ∧ Below W.heap.size W w'
set_option maxRecDepth 100000 in
set_option maxHeartbeats 3200000 in
theorem searchK1_any (P Q : Nat) (l : List Up) (q : Up → Bool) (w : World) (hl : l.Pairwise fun x y => q y = true → q x = true) (hn : l.length ≤ 1099511627776) (hs : SeeksK1 P Q l q w) :
    Calls Tryz.prog 100 #[.int .i64 (l.length : Int), .func (.func 101) #[] #[.pointer (some ⟨P, 0, none⟩), .pointer (some ⟨Q, 0, none⟩)]] w fun x w' => x = .returned (.int .i64 (seekQ l q : Int)) ∧ Below w.heap.size w w' := by
  have HS := Lib.hid hs
  have HK := Lib.hid hl
  clear hs hl
  go_enter Tryz.func100, Tryz.ntmps100
  go_wp2_with fail
  go_loopw [5, 6] (fun v5 v6 wr => ∃ i j : Nat, v5 = .int .i64 (i : Int) ∧ v6 = .int .i64 (j : Int) ∧ i ≤ seekQ l q ∧ seekQ l q ≤ j ∧ j ≤ l.length ∧ Below w.heap.size w wr) (fun v5 v6 _ => (intOf v6).toNat - (intOf v5).toNat)
  case atStart => exact ⟨0, l.length, rfl, rfl, Nat.zero_le _, seekQ_len l q, Nat.le_refl _, Below.refl _ _⟩
  case round =>
    obtain ⟨i, j, rfl, rfl, h1, h2, h3, hb⟩ := hrel
    by_cases hlt : i < j
    · have t0 : decide ((i : Int) < (j : Int)) = true := decide_eq_true (by omega)
      have t0' : decide (i < j) = true := decide_eq_true hlt
      obtain ⟨m, hm⟩ : ∃ m, m = (i + j) / 2 := ⟨_, rfl⟩
      have hmI : ((i : Int) + (j : Int)) / 2 = (m : Int) := by omega
      have him : i ≤ m := by omega
      have hmj : m < j := by omega
      have hml : m < l.length := by omega
      have hx : l[m]? = some l[m] := List.getElem?_eq_getElem hml
      have hlo := fun h => seekQ_lt l q m l[m] h hx
      have hhi := fun h => seekQ_ge HK.out h hx
      have y1 := Lib.hid (HS.out m _ wr hx hb)
      generalize l[m] = u at *
      obtain ⟨B, hB⟩ : ∃ B, (!q u) = B := ⟨_, rfl⟩
      rw [hB] at y1
      cases B with
      | true =>
        have h4 : seekQ l q ≤ m := by
          apply Decidable.byContradiction
          intro h
          have h5 := hlo (by omega)
          rw [h5] at hB
          cases hB
        have HH := Lib.hid (And.intro hb (And.intro h1 (And.intro h4 hml)))
        clear hb h1 h2 hx hlo hhi hB h4 hm
        go_wp2_with fail
        refine y1.out.mono ?_
        rintro _ w2 ⟨rfl, b2⟩
        have H2 := Lib.hid (HH.out.1.trans (b2.mono HH.out.1.size))
        clear b2
        go_wp2_with fail
        go_roundw
        case rel => exact ⟨i, m, rfl, by first | rfl | go_num, HH.out.2.1, HH.out.2.2.1, by omega, H2.out⟩
        case measure => simp [intOf]; omega
      | false =>
        have h4 : m + 1 ≤ seekQ l q := by
          apply Decidable.byContradiction
          intro h
          have h5 := hhi (by omega)
          rw [h5] at hB
          cases hB
        have HH := Lib.hid (And.intro hb (And.intro h2 (And.intro h4 hml)))
        clear hb h1 h2 hx hlo hhi hB h4 hm
        go_wp2_with fail
        refine y1.out.mono ?_
        rintro _ w2 ⟨rfl, b2⟩
        have H2 := Lib.hid (HH.out.1.trans (b2.mono HH.out.1.size))
        clear b2
        go_wp2_with fail
        go_roundw
        case rel => exact ⟨m + 1, j, by go_num, rfl, HH.out.2.2.1, HH.out.2.1, h3, H2.out⟩
        case measure => simp [intOf]; omega
    · have t0 : decide ((i : Int) < (j : Int)) = false := decide_eq_false (by omega)
      have t0' : decide (i < j) = false := decide_eq_false hlt
      have HH := Lib.hid (And.intro hb (show i = seekQ l q by omega))
      clear hb h1 h2
      go_wp2_with fail
      go_ret
      exact ⟨by rw [HH.out.2]; rfl, HH.out.1⟩
theorem seeksK1_of {P Q : Nat} {lA : Option Addr} {lc : Nat} {l : List Up} {A : Option Addr} {c : Nat} {key : List Vl} {w : World} (hb : Own w P 32 [.slice lA l.length lc]) (hk : Own w Q 55 [.slice A key.length c]) (hin : Ups w w.heap.size lA l) (hv : Vals w w.heap.size A key) (hn : key.length ≤ maxLen) (hok : ∀ u ∈ l, UOk u) : SeeksK1 P Q l (fun u => decide (cmpRows u.key key < 0)) w := fun k u W hu hW =>
  skey1_any P Q lA lc l A c key k u W (hb.past hW hb.inside) (hk.past hW hk.inside) (hin.keep hW) ((hv.past hW (Nat.le_refl _)).wide hW.size) hn (hok u (List.mem_of_getElem? hu)) hu
set_option maxRecDepth 100000 in
set_option maxHeartbeats 3200000 in
theorem skey2_any (P Q : Nat) (lA : Option Addr) (lc : Nat) (l : List Up) (A : Option Addr) (c : Nat) (key : List Vl) (k : Nat) (u : Up) (w : World) (hb : Own w P 32 [.slice lA l.length lc]) (hk : Own w Q 55 [.slice A key.length c]) (hin : Ups w w.heap.size lA l) (hv : Vals w w.heap.size A key) (hn : key.length ≤ maxLen) (hok : UOk u) (hu : l[k]? = some u) :
    Calls Tryz.prog 102 #[.int .i64 (k : Int), .pointer (some ⟨P, 0, none⟩), .pointer (some ⟨Q, 0, none⟩)] w fun e w' => e = .returned (.bool (!decide (cmpRows u.key key ≤ 0))) ∧ Below w.heap.size w w' := by
  have hlt : k < l.length := (List.getElem?_eq_some_iff.1 hu).1
  have hui := hin.each_ u (List.mem_of_getElem? hu)
  obtain ⟨b', o, hA, hB, hxs⟩ := lies_up hin.head (by omega)
  have hX := fun p : Past w => (hb.past p.h hb.inside).at_ 0
  simp only [List.getElem?_cons_zero] at hX
  have hQ := fun p : Past w => (hk.past p.h hk.inside).at_ 0
  simp only [List.getElem?_cons_zero] at hQ
  have hE := fun p : Past w => ((hxs k u hu).past_ p.h hB).six
  have e0 := fun p : Past w => (hE p).1
  have x1 := fun p : Past w => hX p
  rw [hA] at x1
  have u1 := fun p : Past w => calls_past ((rows_gr u.kA A u.kc c u.key key p.w ((hui.key.past p.h (Nat.le_refl _)).wide p.h.size) ((hv.past p.h (Nat.le_refl _)).wide p.h.size) (Nat.le_trans hok.kn (by unfold maxLen; omega)) hn).mono fun x w' h => ⟨h.1, h.2.below⟩)
  have q0 : (0 : Int) ≤ (k : Int) := by omega
  have q1 : (k : Int) < (l.length : Int) := by omega
  obtain ⟨z, hz⟩ : ∃ z, cmpRows u.key key = z := ⟨_, rfl⟩
  rw [hz] at u1
  rw [show (!decide (cmpRows u.key key ≤ 0)) = decide (0 < z) from by rw [hz]; by_cases h : 0 < z <;> simp [h] <;> omega]
  obtain ⟨B, hB'⟩ : ∃ B, decide (0 < z) = B := ⟨_, rfl⟩
  rw [hB']
  clear hb hk hin hv hn hok hu hui hxs hX hE hz hA hB hlt
  go_enter Tryz.func102, Tryz.ntmps102
  go_upto_region 1 with fail
  refine wp_region_past w (by kernel_rfl) (by kernel_rfl) (Below.refl _ _) ?_
  repeat (first | go_big_quiet_step (fail) | quiet_step (fail))
  quiet_step ((go_at_call 66; exact u1 _))
  repeat (first | go_big_quiet_step (fail) | quiet_step (fail))
  clear u1
  refine wpQuiet_nil ?_
  intro wz hw'
  obtain ⟨⟨wy, hbz⟩, hw''⟩ := hw'
  dsimp only at hw''
  subst hw''
  go_wp2_with fail
  go_ret
  exact ⟨rfl, hbz⟩
def SeeksK2 (P Q : Nat) (l : List Up) (q : Up → Bool) (w : World) : Prop :=
  ∀ (k : Nat) (u : Up) (W : World), l[k]? = some u → Below w.heap.size w W → Calls Tryz.prog 102 #[.int .i64 (k : Int), .pointer (some ⟨P, 0, none⟩), .pointer (some ⟨Q, 0, none⟩)] W fun e w' => e = .returned (.bool (!q u)) ∧ Below W.heap.size W w'
set_option maxRecDepth 100000 in
set_option maxHeartbeats 3200000 in
theorem searchK2_any (P Q : Nat) (l : List Up) (q : Up → Bool) (w : World) (hl : l.Pairwise fun x y => q y = true → q x = true) (hn : l.length ≤ 1099511627776) (hs : SeeksK2 P Q l q w) :
    Calls Tryz.prog 100 #[.int .i64 (l.length : Int), .func (.func 102) #[] #[.pointer (some ⟨P, 0, none⟩), .pointer (some ⟨Q, 0, none⟩)]] w fun x w' => x = .returned (.int .i64 (seekQ l q : Int)) ∧ Below w.heap.size w w' := by
  have HS := Lib.hid hs
  have HK := Lib.hid hl
  clear hs hl
  go_enter Tryz.func100, Tryz.ntmps100
  go_wp2_with fail
  go_loopw [5, 6] (fun v5 v6 wr => ∃ i j : Nat, v5 = .int .i64 (i : Int) ∧ v6 = .int .i64 (j : Int) ∧ i ≤ seekQ l q ∧ seekQ l q ≤ j ∧ j ≤ l.length ∧ Below w.heap.size w wr) (fun v5 v6 _ => (intOf v6).toNat - (intOf v5).toNat)
  case atStart => exact ⟨0, l.length, rfl, rfl, Nat.zero_le _, seekQ_len l q, Nat.le_refl _, Below.refl _ _⟩
  case round =>
    obtain ⟨i, j, rfl, rfl, h1, h2, h3, hb⟩ := hrel
    by_cases hlt : i < j
    · have t0 : decide ((i : Int) < (j : Int)) = true := decide_eq_true (by omega)
      have t0' : decide (i < j) = true := decide_eq_true hlt
      obtain ⟨m, hm⟩ : ∃ m, m = (i + j) / 2 := ⟨_, rfl⟩
      have hmI : ((i : Int) + (j : Int)) / 2 = (m : Int) := by omega
      have him : i ≤ m := by omega
      have hmj : m < j := by omega
      have hml : m < l.length := by omega
      have hx : l[m]? = some l[m] := List.getElem?_eq_getElem hml
      have hlo := fun h => seekQ_lt l q m l[m] h hx
      have hhi := fun h => seekQ_ge HK.out h hx
      have y1 := Lib.hid (HS.out m _ wr hx hb)
      generalize l[m] = u at *
      obtain ⟨B, hB⟩ : ∃ B, (!q u) = B := ⟨_, rfl⟩
      rw [hB] at y1
      cases B with
      | true =>
        have h4 : seekQ l q ≤ m := by
          apply Decidable.byContradiction
          intro h
          have h5 := hlo (by omega)
          rw [h5] at hB
          cases hB
        have HH := Lib.hid (And.intro hb (And.intro h1 (And.intro h4 hml)))
        clear hb h1 h2 hx hlo hhi hB h4 hm
        go_wp2_with fail
        refine y1.out.mono ?_
        rintro _ w2 ⟨rfl, b2⟩
        have H2 := Lib.hid (HH.out.1.trans (b2.mono HH.out.1.size))
        clear b2
        go_wp2_with fail
        go_roundw
        case rel => exact ⟨i, m, rfl, by first | rfl | go_num, HH.out.2.1, HH.out.2.2.1, by omega, H2.out⟩
        case measure => simp [intOf]; omega
      | false =>
        have h4 : m + 1 ≤ seekQ l q := by
          apply Decidable.byContradiction
          intro h
          have h5 := hhi (by omega)
          rw [h5] at hB
          cases hB
        have HH := Lib.hid (And.intro hb (And.intro h2 (And.intro h4 hml)))
        clear hb h1 h2 hx hlo hhi hB h4 hm
        go_wp2_with fail
        refine y1.out.mono ?_
        rintro _ w2 ⟨rfl, b2⟩
        have H2 := Lib.hid (HH.out.1.trans (b2.mono HH.out.1.size))
        clear b2
        go_wp2_with fail
        go_roundw
        case rel => exact ⟨m + 1, j, by go_num, rfl, HH.out.2.2.1, HH.out.2.1, h3, H2.out⟩
        case measure => simp [intOf]; omega
    · have t0 : decide ((i : Int) < (j : Int)) = false := decide_eq_false (by omega)
      have t0' : decide (i < j) = false := decide_eq_false hlt
      have HH := Lib.hid (And.intro hb (show i = seekQ l q by omega))
      clear hb h1 h2
      go_wp2_with fail
      go_ret
      exact ⟨by rw [HH.out.2]; rfl, HH.out.1⟩
theorem seeksK2_of {P Q : Nat} {lA : Option Addr} {lc : Nat} {l : List Up} {A : Option Addr} {c : Nat} {key : List Vl} {w : World} (hb : Own w P 32 [.slice lA l.length lc]) (hk : Own w Q 55 [.slice A key.length c]) (hin : Ups w w.heap.size lA l) (hv : Vals w w.heap.size A key) (hn : key.length ≤ maxLen) (hok : ∀ u ∈ l, UOk u) : SeeksK2 P Q l (fun u => decide (cmpRows u.key key ≤ 0)) w := fun k u W hu hW =>
  skey2_any P Q lA lc l A c key k u W (hb.past hW hb.inside) (hk.past hW hk.inside) (hin.keep hW) ((hv.past hW (Nat.le_refl _)).wide hW.size) hn (hok u (List.mem_of_getElem? hu)) hu
/-- a key's part of a list -/
def keyN (l : List Up) (key : List Vl) : Nat := seekQ l (fun u => decide (cmpRows u.key key < 0))
def keyM (l : List Up) (key : List Vl) : Nat := seekQ (l.drop (keyN l key)) (fun u => decide (cmpRows u.key key ≤ 0))
def keyR (r : Rw Up) (key : List Vl) : Rw Up := ⟨dropA r.A r.c (keyN r.l key), r.c - keyN r.l key, (r.l.drop (keyN r.l key)).take (keyM r.l key)⟩
end Go.Proofs.YtenjlhlighkenaaGreat
namespace Go.Proofs.YtenjlhlighkenaaGreat
open Go Go.RowKit

theorem key_mono1 {l : List Up} {key : List Vl} (h : KeysUp l) : l.Pairwise fun x y => decide (cmpRows y.key key < 0) = true → decide (cmpRows x.key key < 0) = true := h.imp fun {x y} h1 h2 => by
  have h3 := of_decide_eq_true h2
  exact decide_eq_true (row_lin.le_lt h1 h3)
theorem key_mono2 {l : List Up} {key : List Vl} (h : KeysUp l) : l.Pairwise fun x y => decide (cmpRows y.key key ≤ 0) = true → decide (cmpRows x.key key ≤ 0) = true := h.imp fun {x y} h1 h2 => by
  have h3 := of_decide_eq_true h2
  exact decide_eq_true ((row_lin.le _ _ _ h1 h3).1)
theorem two_boxes (w : World) (A : Option Addr) (n c : Nat) (A' : Option Addr) (n' c' : Nat) : ∃ V, V = (w.alloc (.cells #[.slice A n c] 32)).alloc (.cells #[.slice A' n' c'] 55) ∧ Below w.heap.size w V ∧ Own V w.heap.size 32 [.slice A n c] ∧ Own V (w.heap.size + 1) 55 [.slice A' n' c'] := by
  obtain ⟨V1, e1, s1, b1, o1⟩ := boxd w [.slice A n c] 32
  obtain ⟨V2, e2, s2, b2, o2⟩ := boxd V1 [.slice A' n' c'] 55
  exact ⟨V2, by rw [e2, e1], b1.trans (b2.mono b1.size), o1.past b2 o1.inside, by rw [← s1]; exact o2⟩
set_option maxRecDepth 100000 in
set_option maxHeartbeats 6400000 in
theorem keyed_pos (g o lc : Nat) (l : List Up) (A : Option Addr) (c : Nat) (key : List Vl) (w : World) (hu : Ups w w.heap.size (some ⟨g, o, none⟩) l) (hok : ∀ u ∈ l, UOk u) (hc : l.length ≤ lc) (hcm : lc ≤ maxLen) (hn : l.length ≤ 1099511627776) (hv : Vals w w.heap.size A key) (hkn : key.length ≤ maxLen) (hk : KeysUp l) :
    Calls Tryz.prog 71 #[.slice (some ⟨g, o, none⟩) l.length lc, .slice A key.length c] w fun x w' => x = .returned (.slice (keyR ⟨some ⟨g, o, none⟩, lc, l⟩ key).A (keyR ⟨some ⟨g, o, none⟩, lc, l⟩ key).l.length (keyR ⟨some ⟨g, o, none⟩, lc, l⟩ key).c) ∧ Below w.heap.size w w' := by
  obtain ⟨V, hV, bV, oP, oQ⟩ := two_boxes w (some ⟨g, o, none⟩) l.length lc A key.length c
  obtain ⟨n1, hn1⟩ : ∃ n1, keyN l key = n1 := ⟨_, rfl⟩
  have hl1 : n1 ≤ l.length := by rw [← hn1]; exact seekQ_len _ _
  obtain ⟨B1, hB1⟩ : ∃ B1 : Option Addr, (if lc = n1 then (some ⟨g, o, none⟩ : Option Addr) else some ⟨g, o + n1 * 6, none⟩) = B1 := ⟨_, rfl⟩
  have HBB := Lib.hid (show dropA (some ⟨g, o, none⟩) lc n1 = B1 from by rw [← hB1]; rfl)
  have u1 := fun p : Past V => calls_past (searchK1_any w.heap.size (w.heap.size + 1) l (fun u => decide (cmpRows u.key key < 0)) p.w (key_mono1 hk) hn (seeksK1_of (oP.past p.h oP.inside) (oQ.past p.h oQ.inside) ((hu.keep bV).keep p.h) ((((hv.past bV (Nat.le_refl _)).wide bV.size).past p.h (Nat.le_refl _)).wide p.h.size) hkn hok))
  have hs1 : seekQ l (fun u => decide (cmpRows u.key key < 0)) = n1 := hn1
  rw [hs1] at u1
  have x1 := fun p : Past V => (oP.past p.h oP.inside).at_ 0
  simp only [List.getElem?_cons_zero] at x1
  have H := Lib.hid (And.intro hu (And.intro hok (And.intro hv (And.intro hkn (And.intro hk (And.intro bV (And.intro oP (And.intro oQ hn1))))))))
  have q1 : (0 : Int) ≤ (n1 : Int) := by omega
  have q2 : (n1 : Int) ≤ (l.length : Int) := by omega
  clear hu hok hv hkn hk bV hn1 hs1
  go_enter Tryz.func71, Tryz.ntmps71
  go_upto_region 1 with fail
  rw [← hV]
  clear hV
  refine wp_region_past_tail V 6 (by kernel_rfl) (by kernel_rfl) (Below.refl _ _) ?_
  repeat (first | go_big_quiet_step ((go_at_call 100; exact u1 _)) | quiet_step ((go_at_call 100; exact u1 _)))
  refine wpQuiet_nil ?_
  intro wt hw'
  obtain ⟨⟨wu, hbt⟩, hw''⟩ := hw'
  dsimp only at hw''
  subst hw''
  have o2 := oP.past hbt oP.inside
  have o3 := oQ.past hbt oQ.inside
  have e0 := o2.at_ 0
  simp only [List.getElem?_cons_zero] at e0
  have f0 := o2.open_ 0
  have hPQ : w.heap.size + 1 ≠ w.heap.size := by omega
  have hP3 := o3.inside
  obtain ⟨W, hW⟩ : ∃ W, W = wt.setCell ⟨w.heap.size, 0, none⟩ (.slice B1 (l.length - n1) (lc - n1)) := ⟨_, rfl⟩
  have oX : Own W w.heap.size 32 [.slice B1 (l.drop n1).length (lc - n1)] := by
    rw [hW, List.length_drop]
    exact o2.set_ 0 _
  have oY : Own W (w.heap.size + 1) 55 [.slice A key.length c] := by
    rw [hW]
    exact (KeptK.set_ (S := fun b => b = w.heap.size) (KeptK.refl wt _) (.inl rfl) _).own o3 hPQ
  have hbW : Below w.heap.size w W := by
    rw [hW]
    exact (belows H.out.2.2.2.2.2.1 hbt).setCell (p := ⟨w.heap.size, 0, none⟩) (Nat.le_refl _) _
  have hu1 : Ups W W.heap.size B1 (l.drop n1) := by
    rw [← HBB.out]
    exact (ups_dropQ H.out.1 hc).keep hbW
  have hvW := (H.out.2.2.1.past hbW (Nat.le_refl _)).wide hbW.size
  have hok1 : ∀ u ∈ l.drop n1, UOk u := fun u h => H.out.2.1 u (List.mem_of_mem_drop h)
  have hk1 : KeysUp (l.drop n1) := H.out.2.2.2.2.1.sublist (List.drop_sublist _ _)
  have hln : (l.drop n1).length = l.length - n1 := List.length_drop ..
  obtain ⟨n2, hn2⟩ : ∃ n2, keyM l key = n2 := ⟨_, rfl⟩
  have hn2' : seekQ (l.drop n1) (fun u => decide (cmpRows u.key key ≤ 0)) = n2 := by
    rw [← hn2, ← H.out.2.2.2.2.2.2.2.2]
    rfl
  have hl2 : n2 ≤ l.length - n1 := by rw [← hn2', ← hln]; exact seekQ_len _ _
  have u2 := fun p : Past W => calls_past (searchK2_any w.heap.size (w.heap.size + 1) (l.drop n1) (fun u => decide (cmpRows u.key key ≤ 0)) p.w (key_mono2 hk1) (by omega) (seeksK2_of (oX.past p.h oX.inside) (oY.past p.h oY.inside) (hu1.keep p.h) ((hvW.past p.h (Nat.le_refl _)).wide p.h.size) H.out.2.2.2.1 hok1))
  rw [hn2', hln] at u2
  have x2 := fun p : Past W => (oX.past p.h oX.inside).at_ 0
  rw [hln] at x2
  simp only [List.getElem?_cons_zero] at x2
  have p1 : (0 : Int) ≤ (n2 : Int) := by omega
  have p2 : (n2 : Int) ≤ ((lc - n1 : Nat) : Int) := by omega
  have HR := Lib.hid (And.intro hbW (And.intro hn2 hl2))
  clear u1 x1 hbt o2 o3 oX oY hbW hu1 hvW hok1 hk1 hn2 hn2' hP3 oP oQ
  go_upto_region 2 with fail
  rw [← hW]
  clear hW e0 f0
  refine wp_region_past W (by kernel_rfl) (by kernel_rfl) (Below.refl _ _) ?_
  repeat (first | go_big_quiet_step ((go_at_call 100; exact u2 _)) | quiet_step ((go_at_call 100; exact u2 _)))
  refine wpQuiet_nil ?_
  intro wz hw'
  obtain ⟨⟨wy, hbz⟩, hw''⟩ := hw'
  dsimp only at hw''
  subst hw''
  have HZ := Lib.hid (belows HR.out.1 hbz)
  clear u2 x2 hbz
  go_wp2_with fail
  go_ret
  refine ⟨?_, HZ.out⟩
  show Ending.returned (Value.slice B1 n2 (lc - n1)) = _
  unfold keyR
  dsimp only
  rw [H.out.2.2.2.2.2.2.2.2, HR.out.2.1, HBB.out, List.length_take, hln, Nat.min_eq_left HR.out.2.2]
set_option maxRecDepth 100000 in
set_option maxHeartbeats 6400000 in
theorem keyed_nil (A0 : Option Addr) (lc : Nat) (A : Option Addr) (c : Nat) (key : List Vl) (w : World) (hcm : lc ≤ maxLen) (hv : Vals w w.heap.size A key) (hkn : key.length ≤ maxLen) :
    Calls Tryz.prog 71 #[.slice A0 0 lc, .slice A key.length c] w fun x w' => x = .returned (.slice A0 0 lc) ∧ Below w.heap.size w w' := by
  obtain ⟨V, hV, bV, oP, oQ⟩ := two_boxes w A0 0 lc A key.length c
  have hu : Ups V V.heap.size A0 [] := ⟨fun h => by simp at h, fun u h => by cases h⟩
  have u1 := fun p : Past V => calls_past (searchK1_any w.heap.size (w.heap.size + 1) [] (fun u => decide (cmpRows u.key key < 0)) p.w List.Pairwise.nil (by simp) (seeksK1_of (oP.past p.h oP.inside) (oQ.past p.h oQ.inside) (hu.keep p.h) ((((hv.past bV (Nat.le_refl _)).wide bV.size).past p.h (Nat.le_refl _)).wide p.h.size) hkn (fun u h => by cases h)))
  have hs1 : seekQ [] (fun u => decide (cmpRows u.key key < 0)) = 0 := rfl
  rw [hs1] at u1
  simp only [List.length_nil, Int.ofNat_zero] at u1
  have x1 := fun p : Past V => (oP.past p.h oP.inside).at_ 0
  simp only [List.getElem?_cons_zero] at x1
  have H := Lib.hid (And.intro hv (And.intro hkn bV))
  clear hv hkn hu hs1 bV
  go_enter Tryz.func71, Tryz.ntmps71
  go_upto_region 1 with fail
  rw [← hV]
  clear hV
  refine wp_region_past_tail V 6 (by kernel_rfl) (by kernel_rfl) (Below.refl _ _) ?_
  repeat (first | go_big_quiet_step ((go_at_call 100; exact u1 _)) | quiet_step ((go_at_call 100; exact u1 _)))
  refine wpQuiet_nil ?_
  intro wt hw'
  obtain ⟨⟨wu, hbt⟩, hw''⟩ := hw'
  dsimp only at hw''
  subst hw''
  have o2 := oP.past hbt oP.inside
  have o3 := oQ.past hbt oQ.inside
  have e0 := o2.at_ 0
  simp only [List.getElem?_cons_zero] at e0
  have f0 := o2.open_ 0
  have hPQ : w.heap.size + 1 ≠ w.heap.size := by omega
  obtain ⟨W, hW⟩ : ∃ W, W = wt.setCell ⟨w.heap.size, 0, none⟩ (.slice A0 0 lc) := ⟨_, rfl⟩
  have oX : Own W w.heap.size 32 [.slice A0 0 lc] := by
    rw [hW]
    exact o2.set_ 0 _
  have oY : Own W (w.heap.size + 1) 55 [.slice A key.length c] := by
    rw [hW]
    exact (KeptK.set_ (S := fun b => b = w.heap.size) (KeptK.refl wt _) (.inl rfl) _).own o3 hPQ
  have hbW : Below w.heap.size w W := by
    rw [hW]
    exact (belows H.out.2.2 hbt).setCell (p := ⟨w.heap.size, 0, none⟩) (Nat.le_refl _) _
  have hu1 : Ups W W.heap.size A0 [] := ⟨fun h => by simp at h, fun u h => by cases h⟩
  have hvW := (H.out.1.past hbW (Nat.le_refl _)).wide hbW.size
  have u2 := fun p : Past W => calls_past (searchK2_any w.heap.size (w.heap.size + 1) [] (fun u => decide (cmpRows u.key key ≤ 0)) p.w List.Pairwise.nil (by simp) (seeksK2_of (oX.past p.h oX.inside) (oY.past p.h oY.inside) (hu1.keep p.h) ((hvW.past p.h (Nat.le_refl _)).wide p.h.size) H.out.2.1 (fun u h => by cases h)))
  have hs2 : seekQ [] (fun u => decide (cmpRows u.key key ≤ 0)) = 0 := rfl
  rw [hs2] at u2
  simp only [List.length_nil, Int.ofNat_zero] at u2
  have x2 := fun p : Past W => (oX.past p.h oX.inside).at_ 0
  simp only [List.getElem?_cons_zero] at x2
  have HR := Lib.hid hbW
  clear u1 x1 hbt o2 o3 oX oY hbW hu1 hvW hs2 oP oQ
  go_upto_region 2 with fail
  rw [← hW]
  clear hW e0 f0
  refine wp_region_past W (by kernel_rfl) (by kernel_rfl) (Below.refl _ _) ?_
  repeat (first | go_big_quiet_step ((go_at_call 100; exact u2 _)) | quiet_step ((go_at_call 100; exact u2 _)))
  refine wpQuiet_nil ?_
  intro wz hw'
  obtain ⟨⟨wy, hbz⟩, hw''⟩ := hw'
  dsimp only at hw''
  subst hw''
  have HZ := Lib.hid (belows HR.out hbz)
  clear u2 x2 hbz
  go_wp2_with fail
  go_ret
  exact ⟨rfl, HZ.out⟩
theorem dropA_zero (A : Option Addr) (c : Nat) : dropA A c 0 = A := by
  unfold dropA
  split
  · rfl
  · cases A <;> simp
/-- a key's part of any list -/
theorem keyed_any (r : Rw Up) (A : Option Addr) (c : Nat) (key : List Vl) (w : World) (hu : Ups w w.heap.size r.A r.l) (hok : ∀ u ∈ r.l, UOk u) (hc : r.l.length ≤ r.c) (hcm : r.c ≤ maxLen) (hn : r.l.length ≤ 1099511627776) (hv : Vals w w.heap.size A key) (hkn : key.length ≤ maxLen) (hk : KeysUp r.l) :
    Calls Tryz.prog 71 #[.slice r.A r.l.length r.c, .slice A key.length c] w fun x w' => x = .returned (.slice (keyR r key).A (keyR r key).l.length (keyR r key).c) ∧ Below w.heap.size w w' := by
  obtain ⟨rA, rc, l⟩ := r
  by_cases h0 : l.length = 0
  · obtain rfl : l = [] := List.eq_nil_of_length_eq_zero h0
    refine (keyed_nil rA rc A c key w hcm hv hkn).mono fun x w' h => ⟨h.1.trans ?_, h.2⟩
    show Ending.returned (.slice rA 0 rc) = .returned (.slice (dropA rA rc 0) 0 (rc - 0))
    rw [dropA_zero]
    rfl
  · obtain ⟨g, o, hA, _⟩ := hu.head (by show 0 < l.length; omega)
    have hA : rA = some ⟨g, o, none⟩ := hA
    subst hA
    exact keyed_pos g o rc l A c key w hu hok hc hcm hn hv hkn hk
end Go.Proofs.YtenjlhlighkenaaGreat
namespace Go.Proofs.YtenjlhlighkenaaGreat
open Go Go.RowKit

/-- a level's lists are no longer than their rooms -/
structure LvRm (l : Lv) : Prop where
  le : l.b.l.length ≤ l.b.uc
  uc : l.b.uc ≤ maxLen
  ole : l.m.o.length ≤ l.m.oc
  oc : l.m.oc ≤ maxLen
def listsK (key : List Vl) (L : List Lv) : List (Rw Up) := L.flatMap fun l => (partsR l).map (keyR · key)
def partsK (key : List Vl) (L : List Lv) : List Up := flatR (listsK key L)
theorem listsK_flat (key : List Vl) (L : List Lv) : flatR (listsK key L) = partsK key L := rfl
theorem listsK_take {key : List Vl} {L : List Lv} {k : Nat} {l : Lv} (h : L[k]? = some l) : listsK key (L.take (k + 1)) = listsK key (L.take k) ++ (partsR l).map (keyR · key) := by
  unfold listsK
  rw [List.take_add_one, h, List.flatMap_append]
  simp
theorem listsK_len (key : List Vl) (L : List Lv) : (listsK key L).length ≤ 3 * L.length := by
  induction L with
  | nil => exact Nat.zero_le _
  | cons l L ih =>
    have h := partsR_len l
    show ((l :: L).flatMap fun l => (partsR l).map (keyR · key)).length ≤ _
    rw [List.flatMap_cons, List.length_append, List.length_cons, List.length_map]
    have ih : (L.flatMap fun l => (partsR l).map (keyR · key)).length ≤ 3 * L.length := ih
    omega
theorem keyR_le (r : Rw Up) (key : List Vl) : (keyR r key).l.length ≤ r.l.length := by
  unfold keyR
  simp only [List.length_take, List.length_drop]
  omega
theorem flat_key_le (key : List Vl) : ∀ R : List (Rw Up), (flatR (R.map (keyR · key))).length ≤ (flatR R).length
  | [] => Nat.zero_le _
  | r :: R => by
    have h1 := keyR_le r key
    have h2 := flat_key_le key R
    show ((keyR r key).l ++ flatR (R.map (keyR · key))).length ≤ (r.l ++ flatR R).length
    rw [List.length_append, List.length_append]
    omega
theorem partsK_le (key : List Vl) : ∀ L : List Lv, (partsK key L).length ≤ (partsS L).length
  | [] => Nat.zero_le _
  | l :: L => by
    have h1 := flat_key_le key (partsR l)
    rw [partsR_flat] at h1
    have h2 := partsK_le key L
    have e : partsK key (l :: L) = flatR ((partsR l).map (keyR · key)) ++ partsK key L := by
      unfold partsK listsK flatR
      rw [List.flatMap_cons, List.flatMap_append]
    rw [e, partsS_cons, List.length_append, List.length_append]
    omega
theorem keyR_in {w : World} {B : Nat} {r : Rw Up} {key : List Vl} (h : Ups w B r.A r.l) (hc : r.l.length ≤ r.c) : Ups w B (keyR r key).A (keyR r key).l := by
  have h1 := ups_dropQ (q := keyN r.l key) h hc
  unfold keyR
  refine ⟨fun hp => ?_, fun u hu => h1.each_ u (List.mem_of_mem_take hu)⟩
  rw [List.length_take] at hp
  obtain ⟨b, o, e, hb, hx⟩ := h1.head (by omega)
  refine ⟨b, o, e, hb, fun i x hi j u hj => hx i x ?_ j u hj⟩
  rw [List.getElem?_take] at hi
  split at hi
  · exact hi
  · cases hi
theorem partsR_room {l : Lv} (ol : LvOk l) (h : LvRm l) : ∀ r ∈ partsR l, r.l.length ≤ r.c ∧ r.c ≤ maxLen ∧ r.l.length ≤ 1099511627776 := by
  intro r hr
  have a1 := ol.cap.a
  have a2 := ol.cap.an
  have b1 := ol.cap.b
  have b2 := ol.cap.bn
  have n1 := ol.m.a.n
  have n2 := ol.m.b.n
  have n3 := ol.m.o.n
  have n4 := ol.b.l.n
  have h1 := h.le
  have h2 := h.uc
  have h3 := h.ole
  have h4 := h.oc
  unfold partsR at hr
  split at hr
  · simp only [List.mem_cons, List.not_mem_nil, or_false] at hr
    rcases hr with rfl | rfl | rfl
    · simp only [List.length_drop]; omega
    · simp only [List.length_drop]; omega
    · exact ⟨h3, h4, n3⟩
  · simp only [List.mem_cons, List.not_mem_nil, or_false] at hr
    subst hr
    exact ⟨h1, h2, n4⟩
theorem partsR_keys {f : List Tm} {l : Lv} (g : LvGood f l) : ∀ r ∈ partsR l, KeysUp r.l := by
  intro r hr
  unfold partsR at hr
  split at hr
  · next hb =>
    have h3 := (g.busy hb).2.2.1
    simp only [List.mem_cons, List.not_mem_nil, or_false] at hr
    rcases hr with rfl | rfl | rfl
    · exact (even_keys h3.even.1).sublist (List.drop_sublist _ _)
    · exact (even_keys h3.even.2.1).sublist (List.drop_sublist _ _)
    · exact even_keys h3.even.2.2
  · next hb =>
    have h4 := (g.idle (by simpa using hb)).2.1
    simp only [List.mem_cons, List.not_mem_nil, or_false] at hr
    subst hr
    exact even_keys h4.2.1
set_option maxRecDepth 100000 in
set_option maxHeartbeats 1600000 in
theorem grp1_any (K : Nat) (r : Rw Up) (A : Option Addr) (c : Nat) (key : List Vl) (w : World) (hK : Own w K 55 [.slice A key.length c]) (hu : Ups w w.heap.size r.A r.l) (hok : ∀ u ∈ r.l, UOk u) (hc : r.l.length ≤ r.c) (hcm : r.c ≤ maxLen) (hn : r.l.length ≤ 1099511627776) (hv : Vals w w.heap.size A key) (hkn : key.length ≤ maxLen) (hk : KeysUp r.l) :
    Calls Tryz.prog 70 #[.slice r.A r.l.length r.c, .pointer (some ⟨K, 0, none⟩)] w fun x w' => x = .returned (.slice (keyR r key).A (keyR r key).l.length (keyR r key).c) ∧ Below w.heap.size w w' := by
  have y1 := Lib.hid (keyed_any r A c key w hu hok hc hcm hn hv hkn hk)
  have d0 := hK.at_ 0
  simp only [List.getElem?_cons_zero] at d0
  obtain ⟨q, hq⟩ : ∃ q, keyR r key = q := ⟨_, rfl⟩
  rw [hq] at y1 ⊢
  clear hK hu hok hc hcm hn hv hkn hk hq
  go_enter Tryz.func70, Tryz.ntmps70
  go_wp2_with fail
  refine y1.out.mono ?_
  rintro _ w1 ⟨rfl, b1⟩
  have H1 := Lib.hid b1
  clear b1 y1
  go_wp2_with fail
  go_ret
  exact ⟨rfl, H1.out⟩
set_option maxRecDepth 100000 in
set_option maxHeartbeats 6400000 in
theorem collect_key (K : Nat) (A : Option Addr) (c : Nat) (key : List Vl) (s : Sp) (w : World) (hK : Own w K 55 [.slice A key.length c]) (hv : Vals w w.heap.size A key) (hkn : key.length ≤ maxLen) (hr : ∀ l ∈ s.L, LvRm l) (hs : SpIn w w.heap.size s) (os : SpOk s) (hg : SpGood s.f s.L) (hn : (partsS s.L).length ≤ 1099511627776) :
    Calls Tryz.prog 31 #[s.val, .func (.func 70) #[] #[.pointer (some ⟨K, 0, none⟩)]] w (CollS s.f (partsK key s.L) w) := by
  obtain ⟨i0, hi, hz0, hz1, hz2⟩ := info_parts infoUl
  have HI := Lib.hid (And.intro Tryz.underlying68 (And.intro hi (And.intro hz0 (And.intro hz1 hz2))))
  obtain ⟨V, hV, hvb, hvs, hvo⟩ := spbox w s
  have hin := hs.keep hvb
  have H := Lib.hid (And.intro hin (And.intro os (And.intro hvb (And.intro hvo (And.intro hg hn)))))
  have hnL := os.n
  have HV := Lib.hid (And.intro (hK.past hvb hK.inside) (And.intro ((hv.past hvb (Nat.le_refl _)).wide hvb.size) (And.intro hkn hr)))
  clear hK hv hkn hr
  rw [show s.val = .agg #[.slice s.sA s.f.length s.sc, .slice s.lA s.L.length s.lc] from rfl]
  have hX := Lib.hid (fun W (hb : Below V.heap.size V W) => own2 (hvo.past hb hvo.inside))
  obtain ⟨d0, d1⟩ := own2 hvo
  have h0 := World.ownsRow_nil V V.heap.size 32 1
  clear hs os hvb hvs hvo hin hi hz0 hz1 hz2 hg hn
  go_enter Tryz.func31, Tryz.ntmps31
  go_upto_region 1 with fail
  rw [← hV]
  clear hV
  go_wp2_with fail
  go_loopw [6, 16] (fun v i wr => ∃ k : Nat, i = .int .i64 (k : Int) ∧ k ≤ s.L.length ∧ ClI V.heap.size (listsK key (s.L.take k)) v wr ∧ Below V.heap.size V wr)
    (fun _ i _ => s.L.length - (intOf i).toNat)
  case atStart => exact ⟨0, rfl, by omega, ⟨h0⟩, Below.refl _ _⟩
  case round =>
    obtain ⟨k, rfl, hk, hown, hb⟩ := hrel
    by_cases hlt : k < s.L.length
    · obtain ⟨l, hl⟩ : ∃ l, s.L[k]? = some l := ⟨_, List.getElem?_eq_getElem hlt⟩
      obtain ⟨b, o, hA, hB, hc⟩ := lies_lv H.out.1.lev.head (by omega)
      obtain ⟨c0, c1, c2, c3, c4, c5, c6, c7, c8, c9⟩ := lv_ten fun j u hj => (hb.cell (p := ⟨b, o + k * 10 + j, none⟩) hB).trans (hc k l hl j u hj)
      have hlm := List.mem_of_getElem? hl
      have hli := ((H.out.1.lev.each_ l hlm).past hb (Nat.le_refl _)).wide hb.size
      have hlo := H.out.2.1.each_ l hlm
      obtain ⟨V5, hV5, hb5, hs5, ho5⟩ := lvbox wr l
      obtain ⟨e0, e1, e2, e3, e4, e5, e6, e7, e8, e9⟩ := own10 ho5
      have u1 := Lib.hid (parts_anyS l s.f V5 (hli.keep hb5) hlo (H.out.2.2.2.2.1.each l hlm) (H.out.2.2.2.2.1.pos l hlm))
      rw [show l.val = .agg #[.int .i64 l.cls, .bool l.busy, .slice l.b.sA l.b.f.length l.b.sc, .slice l.b.uA l.b.l.length l.b.uc, .slice l.m.aA l.m.a.length l.m.ac, .slice l.m.bA l.m.b.length l.m.bc, .int .i64 l.m.i, .int .i64 l.m.j, .slice l.m.sA l.m.f.length l.m.sc, .slice l.m.oA l.m.o.length l.m.oc] from rfl] at u1
      have hpl := partsR_len l
      have hll := listsK_len key (s.L.take k)
      rw [List.length_take, Nat.min_eq_left (by omega)] at hll
      have hru := partsR_uok hlo
      have hrk := partsR_keys (H.out.2.2.2.2.1.each l hlm)
      have hrr := partsR_room hlo (HV.out.2.2.2 l hlm)
      have HRR := Lib.hid (And.intro (partsR_in (H.out.1.lev.each_ l hlm) hlo) (And.intro hru (And.intro hrk hrr)))
      have htk := listsK_take (key := key) hl
      have HA := Lib.hid hA
      have HK := Lib.hid (And.intro hown (And.intro hb (And.intro hb5 htk)))
      have q0 : (0 : Int) ≤ (k : Int) := by omega
      have q1 : (k : Int) < (s.L.length : Int) := by omega
      obtain ⟨d0, d1⟩ := hX.out wr hb
      clear hru hrk hrr hlm hli hlo hl hown hb hb5 htk hc
      go_upto_region 5 with fail
      rw [← hV5]
      clear hV5
      go_wp2_with fail
      refine u1.out.mono ?_
      rintro _ w1 ⟨G, rfl, hul, hG, hb1⟩
      have hpt := pt_start HK.out.1 (belows HK.out.2.2.1 hb1) hG HK.out.2.2.1.size hul (partsR_pos l)
      have hb1' := belows HK.out.2.1 (belows HK.out.2.2.1 hb1)
      have hown1 := cl_keep HK.out.1 (belows HK.out.2.2.1 hb1)
      have H1 := Lib.hid (And.intro hpt (And.intro hb1' hown1))
      have hpp := partsR_pos l
      clear hpt hb1' hown1 hul hG hb1
      clear u1 e0 e1 e2 e3 e4 e5 e6 e7 e8 e9 c0 c1 c2 c3 c4 c5 c6 c7 c8 c9 d0 d1
      go_wp2_with fail
      go_loopw [6, 23] (fun v i wi => ∃ j : Nat, i = .int .i64 (j : Int) ∧ j ≤ (partsR l).length ∧ ClI V.heap.size (listsK key (s.L.take k) ++ ((partsR l).take j).map (keyR · key)) v wi ∧ PtI v G (partsR l) wi ∧ Below V.heap.size V wi)
        (fun _ i _ => (partsR l).length - (intOf i).toNat)
      case atStart => exact ⟨0, rfl, by omega, by simpa using H1.out.2.2, H1.out.1, H1.out.2.1⟩
      case round =>
        obtain ⟨j, rfl, hj, hown2, hp2, hb2⟩ := hrel
        by_cases hlt2 : j < (partsR l).length
        · obtain ⟨r, hr⟩ : ∃ r, (partsR l)[j]? = some r := ⟨_, List.getElem?_eq_getElem hlt2⟩
          have z0 := hp2.cells j r hr
          have z1 := z0
          rw [show j = 0 + j by omega] at z1
          have q2 : (0 : Int) ≤ (j : Int) := by omega
          have q3 : (j : Int) < ((partsR l).length : Int) := by omega
          have htj : ((partsR l).take (j + 1)).map (keyR · key) = ((partsR l).take j).map (keyR · key) ++ [keyR r key] := by rw [List.take_add_one, hr, List.map_append]; rfl
          have hrm := List.mem_of_getElem? hr
          have hlj : (listsK key (s.L.take k) ++ ((partsR l).take j).map (keyR · key)).length ≤ 3 * k + 3 := by rw [List.length_append, List.length_map, List.length_take]; omega
          generalize hLs : listsK key (s.L.take k) ++ ((partsR l).take j).map (keyR · key) = Ls at hown2 hlj
          have y9 := Lib.hid (grp1_any K r A c key _ (HV.out.1.past hb2 HV.out.1.inside) (((HRR.out.1 r hrm).past hb2 (Nat.le_refl _)).wide hb2.size) (HRR.out.2.1 r hrm) (HRR.out.2.2.2 r hrm).1 (HRR.out.2.2.2 r hrm).2.1 (HRR.out.2.2.2 r hrm).2.2 ((HV.out.2.1.past hb2 (Nat.le_refl _)).wide hb2.size) HV.out.2.2.1 (HRR.out.2.2.1 r hrm))
          obtain ⟨r', hr'⟩ : ∃ r', keyR r key = r' := ⟨_, rfl⟩
          rw [hr'] at y9 htj
          have H2 := Lib.hid (And.intro hown2 (And.intro hp2 (And.intro hb2 (And.intro hLs htj))))
          clear hown2 hp2 hb2 hr hLs htj hrm hr'
          go_wp2_with fail
          refine y9.out.mono ?_
          rintro _ w2 ⟨rfl, b2⟩
          have hown3 := cl_keep H2.out.1 b2
          have hp3 := H2.out.2.1.keep b2
          have hb3 := belows H2.out.2.2.1 b2
          have H3 := Lib.hid (And.intro hown3 (And.intro hp3 hb3))
          clear b2 hown3 hp3 hb3 z0 z1
          go_wp2_with (at_builtin; refine wpList_push _ rfl _ _ 68 rfl V.heap.size 32 i0 _ 1 24 HI.out.1 HI.out.2.1 HI.out.2.2.1 HI.out.2.2.2.1 HI.out.2.2.2.2 rfl (by decide) _ _ _ rfl H3.out.1.own #[.slice r'.A r'.l.length r'.c] rfl rfl ?k1 ?k2 ?k3 ?k4 ?_)
          case k1 => rfl
          case k2 => unfold maxLen; omega
          case k3 => omega
          case k4 => exact H3.out.2.2.size
          intro v4 w4 ho4 hb4 hv4 hg4
          have hp4 := H3.out.2.1.push hg4 hv4
          have hb5 := H3.out.2.2.trans hb4
          have ho5 : ClI V.heap.size (Ls ++ [r']) v4 w4 := cl_push ho4
          rw [← H2.out.2.2.2.1, List.append_assoc, ← H2.out.2.2.2.2] at ho5
          have H4 := Lib.hid (And.intro ho5 (And.intro hp4 hb5))
          clear ho4 hb4 hv4 hg4 hp4 hb5 ho5
          go_wp2_with fail
          go_roundw
          case rel => exact ⟨j + 1, by go_num, by omega, H4.out.1, H4.out.2.1, H4.out.2.2⟩
          case measure => simp [intOf]; omega
        · have hj2 : j = (partsR l).length := by omega
          subst hj2
          rw [List.take_length, ← HK.out.2.2.2] at hown2
          have H2 := Lib.hid (And.intro hown2 hb2)
          clear hown2 hb2 hp2
          go_wp2_with fail
          clear hA
          rw [← HA.out]
          go_roundw
          case rel =>
            exact ⟨k + 1, by go_num, by omega, H2.out.1, H2.out.2⟩
          case measure => simp [intOf]; omega
    · have hk2 : k = s.L.length := by omega
      subst hk2
      rw [List.take_length] at hown
      have hll := listsK_len key s.L
      obtain ⟨A7, k7, hv7, _, _, hl7⟩ := lies_of_own (l := listsK key s.L) (by decide) rwcell_len rfl hown.own
      subst hv7
      obtain ⟨d0, d1⟩ := hX.out wr hb
      have hul : ULs wr wr.heap.size A7 (listsK key s.L) := ⟨hl7, fun r hr => by
        obtain ⟨l, hl, hrl⟩ := List.mem_flatMap.1 hr
        obtain ⟨q, hq, rfl⟩ := List.mem_map.1 hrl
        exact (keyR_in ((partsR_in (H.out.1.lev.each_ l hl) (H.out.2.1.each_ l hl) q hq).past hb (Nat.le_refl _)) (partsR_room (H.out.2.1.each_ l hl) (HV.out.2.2.2 l hl) q hq).1).wide hb.size⟩
      have u1 := Lib.hid (build_any s.sA s.sc s.f A7 k7 (listsK key s.L) wr ((H.out.1.since.past hb (Nat.le_refl _)).wide hb.size) H.out.2.1.f hul (fun r hr => by
        obtain ⟨l, hl, hrl⟩ := List.mem_flatMap.1 hr
        obtain ⟨q, hq, rfl⟩ := List.mem_map.1 hrl
        exact fun u hu => partsR_uok (H.out.2.1.each_ l hl) q hq u (List.mem_of_mem_drop (List.mem_of_mem_take hu))) (by rw [listsK_flat]; exact Nat.le_trans (partsK_le key s.L) H.out.2.2.2.2.2) (by omega))
      rw [listsK_flat] at u1
      have HH := Lib.hid hb
      clear hb hown hl7 hul
      go_wp2_with fail
      refine u1.out.mono ?_
      rintro _ w1 ⟨bt, rfl, h1, h2, h3, h4, h5, h6⟩
      have hbx := HH.out
      have H1 := Lib.hid (And.intro h1 (And.intro h2 (And.intro h3 (And.intro h4 (And.intro h5 h6)))))
      clear h1 h2 h3 h4 h5 h6 u1
      rw [show bt.val = .agg #[.slice bt.sA bt.f.length bt.sc, .slice bt.uA bt.l.length bt.uc] from rfl]
      go_wp2_with fail
      exact bodyPost_ret (v := .tuple #[.slice bt.uA bt.l.length bt.uc, .int .i64 (bldE s.f (partsK key s.L))]) (by simp [results, Tryz.results31, go_sem]) rfl ⟨bt, rfl, H1.out.1, H1.out.2.1, H1.out.2.2.1.keep ((Below.refl _ _).alloc (Nat.le_refl _) _), H1.out.2.2.2.1, H1.out.2.2.2.2.1.mono (belows H.out.2.2.1 hbx).size, belows (belows H.out.2.2.1 (belows hbx H1.out.2.2.2.2.2)) ((Below.refl _ _).alloc (Nat.le_refl _) _)⟩
end Go.Proofs.YtenjlhlighkenaaGreat
namespace Go.Proofs.YtenjlhlighkenaaGreat
open Go Go.RowKit

/-- a group in the list of groups -/
def gcell (b : Bt) : List Value := [.slice b.uA b.l.length b.uc]
theorem gcell_len (b : Bt) : (gcell b).length = 1 := rfl
/-- keys, as they lie -/
structure KLs (w : World) (B : Nat) (A : Option Addr) (ks : List (Rw Vl)) : Prop where
  head : Lies 1 Rw.cells w B A ks
  each_ : ∀ k ∈ ks, Vals w B k.A k.l
theorem KLs.keep {w w' : World} {A : Option Addr} {ks : List (Rw Vl)} (h : KLs w w.heap.size A ks) (hb : Below w.heap.size w w') : KLs w' w'.heap.size A ks := ⟨(h.head.past hb (Nat.le_refl _)).wide hb.size, fun k hk => ((h.each_ k hk).past hb (Nat.le_refl _)).wide hb.size⟩
/-- what the groups so far are -/
def GrpOk (f : List Tm) (L : List Lv) (ks : List (Rw Vl)) (bs : List Bt) : Prop := bs.length = ks.length ∧ ∀ (i : Nat) (k : Rw Vl) (b : Bt), ks[i]? = some k → bs[i]? = some b → bldE f (partsK k.l L) = 0 ∧ b.l.map Up.p = consL [advL f (partsK k.l L)]
theorem GrpOk.snoc {f : List Tm} {L : List Lv} {ks : List (Rw Vl)} {bs : List Bt} {k : Rw Vl} {b : Bt} (h : GrpOk f L ks bs) (h1 : bldE f (partsK k.l L) = 0) (h2 : b.l.map Up.p = consL [advL f (partsK k.l L)]) : GrpOk f L (ks ++ [k]) (bs ++ [b]) := by
  refine ⟨by rw [List.length_append, List.length_append, h.1]; rfl, fun i k' b' hk hb => ?_⟩
  rcases Nat.lt_trichotomy i ks.length with hi | hi | hi
  · rw [List.getElem?_append_left hi] at hk
    rw [List.getElem?_append_left (by rw [h.1]; exact hi)] at hb
    exact h.2 i k' b' hk hb
  · subst hi
    rw [List.getElem?_append_right (Nat.le_refl _), Nat.sub_self] at hk
    rw [List.getElem?_append_right (Nat.le_of_eq h.1), h.1, Nat.sub_self] at hb
    obtain rfl : k = k' := Option.some.inj hk
    obtain rfl : b = b' := Option.some.inj hb
    exact ⟨h1, h2⟩
  · rw [List.getElem?_eq_none (by rw [List.length_append]; exact hi)] at hk
    cases hk
def GroupsS (s : Sp) (ks : List (Rw Vl)) (w : World) (x : Ending) (w' : World) : Prop :=
  ∃ (bs : List Bt) (A' : Option Addr) (c' : Nat) (E : Int), x = .returned (.tuple #[.slice A' bs.length c', .int .i64 E]) ∧ ((¬ SpGood s.f s.L ∧ E = 8 ∧ bs = []) ∨ (SpGood s.f s.L ∧ ((E = 0 ∧ GrpOk s.f s.L ks bs) ∨ (E ≠ 0 ∧ bs = [] ∧ ∃ k ∈ ks, E = bldE s.f (partsK k.l s.L))))) ∧ Lies 1 gcell w' w'.heap.size A' bs ∧ (∀ b ∈ bs, BtIn w' w'.heap.size b ∧ BtOk b) ∧ Below w.heap.size w w'
/-- the list of groups on its way -/
structure GI (base : Nat) (bs : List Bt) (v : Value) (wr : World) : Prop where
  own : wr.ownsRow base 32 1 v bs.length (bs.flatMap gcell)
  in_ : ∀ b ∈ bs, BtIn wr wr.heap.size b ∧ BtOk b ∧ OfB (fun k => v.ownBlock = some k) b
theorem GI.keep {base : Nat} {bs : List Bt} {v : Value} {w w' : World} (h : GI base bs v w) (hb : Below w.heap.size w w') : GI base bs v w' := ⟨own_below h.own hb, fun b hm => ⟨(h.in_ b hm).1.keep hb, (h.in_ b hm).2.1, (h.in_ b hm).2.2⟩⟩
theorem GI.push {base : Nat} {bs : List Bt} {b : Bt} {v v' : Value} {w w' : World} (h : GI base bs v w) (hb : BtIn w w.heap.size b) (ob : BtOk b) (lb : OfB (fun k => v.ownBlock = some k) b) (ho : w'.ownsRow base 32 1 v' (bs.length + 1) (bs.flatMap gcell ++ #[Value.slice b.uA b.l.length b.uc].toList)) (hv : v'.ownBlock = v.ownBlock ∨ v'.ownBlock = some (w.heap.size + 1)) (hg : w.grownBy w' v.ownBlock) : GI base (bs ++ [b]) v' w' := by
  have hall : ∀ x ∈ bs ++ [b], BtIn w w.heap.size x ∧ BtOk x ∧ OfB (fun k => v.ownBlock = some k) x := fun x hx => by
    rcases List.mem_append.1 hx with hx | hx
    · exact h.in_ x hx
    · rw [List.mem_singleton.1 hx]; exact ⟨hb, ob, lb⟩
  refine ⟨by rw [List.length_append, List.flatMap_append]; exact ho, fun x hx => ?_⟩
  obtain ⟨h1, h2, h3⟩ := hall x hx
  refine ⟨bt_kept h1 h3 (KeptK.of_grown (S := fun k => v.ownBlock = some k) hg fun k e => e), h2, ?_⟩
  rcases hv with e | e
  · rw [e]; exact h3
  · rw [e]
    exact (bt_in h1).less fun k hk => by have : w.heap.size + 1 = k := Option.some.inj hk; omega
set_option maxRecDepth 100000 in
set_option maxHeartbeats 6400000 in
theorem groups_any (s : Sp) (A : Option Addr) (c : Nat) (ks : List (Rw Vl)) (w : World) (hs : SpIn w w.heap.size s) (os : SpOk s) (hr : ∀ l ∈ s.L, LvRm l) (hn : (partsS s.L).length ≤ 1099511627776) (hk : KLs w w.heap.size A ks) (hkl : ∀ k ∈ ks, k.l.length ≤ maxLen) (hkn : ks.length ≤ 1099511627776) :
    Calls Tryz.prog 40 #[s.val, .slice A ks.length c] w (GroupsS s ks w) := by
  obtain ⟨i0, hi, hz0, hz1, hz2⟩ := info_parts infoUl
  have HI := Lib.hid (And.intro Tryz.underlying68 (And.intro hi (And.intro hz0 (And.intro hz1 hz2))))
  obtain ⟨V, hV, hvb, hvs, hvo⟩ := spbox w s
  have hin := hs.keep hvb
  have y1 := Lib.hid (scheck_any s V hin os)
  have hkV := hk.keep hvb
  have H := Lib.hid (And.intro hin (And.intro os (And.intro hvb (And.intro hvo (And.intro hr (And.intro hn (And.intro hkV hkl)))))))
  obtain ⟨d0, d1⟩ := own2 hvo
  rw [show s.val = .agg #[.slice s.sA s.f.length s.sc, .slice s.lA s.L.length s.lc] from rfl] at y1 ⊢
  have hX := Lib.hid (fun W (hb : Below V.heap.size V W) => own2 (hvo.past hb hvo.inside))
  have HP := Lib.hid (show ∀ (bs : List Bt) (A' : Option Addr) (c' : Nat) (E : Int) w', ((¬ SpGood s.f s.L ∧ E = 8 ∧ bs = []) ∨ (SpGood s.f s.L ∧ ((E = 0 ∧ GrpOk s.f s.L ks bs) ∨ (E ≠ 0 ∧ bs = [] ∧ ∃ k ∈ ks, E = bldE s.f (partsK k.l s.L))))) → Lies 1 gcell w' w'.heap.size A' bs → (∀ b ∈ bs, BtIn w' w'.heap.size b ∧ BtOk b) → Below w.heap.size w w' → GroupsS s ks w (.returned (.tuple #[.slice A' bs.length c', .int .i64 E])) w' from fun bs A' c' E w' h1 h2 h3 h4 => ⟨bs, A', c', E, rfl, h1, h2, h3, h4⟩)
  clear hs os hr hn hk hkl hvb hvs hvo hin hkV hi hz0 hz1 hz2
  go_enter Tryz.func40, Tryz.ntmps40
  go_upto_region 1 with fail
  rw [← hV]
  clear hV
  go_wp2_with fail
  refine y1.out.mono ?_
  rintro _ w1 ⟨e, rfl, he, b1⟩
  have H1 := Lib.hid b1
  obtain ⟨d0, d1⟩ := hX.out w1 b1
  by_cases h0 : e = 0
  case neg =>
    have hg : ¬ SpGood s.f s.L ∧ e = 8 := by
      rcases he with ⟨_, h⟩ | h
      · exact absurd h h0
      · exact h
    have t1 : (e != 0) = true := bne_iff_ne.2 h0
    have HG := Lib.hid hg
    clear he b1 hg h0
    go_wp2_with fail
    exact bodyPost_ret (v := .tuple #[.slice none 0 0, .int .i64 e]) (by simp [results, Tryz.results40, go_sem]) rfl (HP.out [] none 0 e _ (.inl ⟨HG.out.1, HG.out.2, rfl⟩) Lies.nil_ (fun b h => by cases h) (belows H.out.2.2.1 H1.out))
  have hg : SpGood s.f s.L := by
    rcases he with ⟨h, _⟩ | ⟨_, h⟩
    · exact h
    · omega
  have HG := Lib.hid hg
  have t1 : (e != 0) = false := by simp [h0]
  have hi0 : GI V.heap.size [] (.slice none 0 0) w1 := ⟨World.ownsRow_nil w1 V.heap.size 32 1, fun b h => by cases h⟩
  clear he b1 hg h0 y1
  go_wp2_with fail
  go_loopw [7, 19] (fun v i wr => ∃ (k : Nat) (bs : List Bt), i = .int .i64 (k : Int) ∧ k ≤ ks.length ∧ GI V.heap.size bs v wr ∧ GrpOk s.f s.L (ks.take k) bs ∧ Below V.heap.size V wr)
    (fun _ i _ => ks.length - (intOf i).toNat)
  case atStart => exact ⟨0, [], rfl, by omega, hi0, ⟨rfl, fun i k b h _ => by simp at h⟩, H1.out⟩
  case round =>
    obtain ⟨k, bs, rfl, hk, hgi, hgo, hb⟩ := hrel
    obtain ⟨d0, d1⟩ := hX.out wr hb
    by_cases hlt : k < ks.length
    · obtain ⟨q, hq⟩ : ∃ q, ks[k]? = some q := ⟨_, List.getElem?_eq_getElem hlt⟩
      obtain ⟨b, o, hA, hB, hc⟩ := H.out.2.2.2.2.2.2.1.head (by omega)
      have z0 := (hb.cell (p := ⟨b, o + k * 1 + 0, none⟩) hB).trans (hc k q hq 0 _ rfl)
      rw [show o + k * 1 + 0 = o + k by omega] at z0
      have hqm := List.mem_of_getElem? hq
      have hvq := ((H.out.2.2.2.2.2.2.1.each_ q hqm).past hb (Nat.le_refl _)).wide hb.size
      obtain ⟨V5, hV5, hs5, bb5, o5⟩ := boxd wr [.slice q.A q.l.length q.c] 55
      have hbV5 := belows hb bb5
      have u1 := Lib.hid (collect_key wr.heap.size q.A q.c q.l s V5 o5 ((hvq.past bb5 (Nat.le_refl _)).wide bb5.size) (H.out.2.2.2.2.2.2.2 q hqm) H.out.2.2.2.2.1 (H.out.1.keep hbV5) H.out.2.1 HG.out H.out.2.2.2.2.2.1)
      rw [show s.val = .agg #[.slice s.sA s.f.length s.sc, .slice s.lA s.L.length s.lc] from rfl] at u1
      have htk : ks.take (k + 1) = ks.take k ++ [q] := by rw [List.take_add_one, hq]; rfl
      have HA := Lib.hid hA
      have hbl : bs.length = k := by rw [hgo.1, List.length_take]; omega
      have HK := Lib.hid (And.intro hgi (And.intro hgo (And.intro hb (And.intro bb5 (And.intro hqm htk)))))
      have q0 : (0 : Int) ≤ (k : Int) := by omega
      have q1 : (k : Int) < (ks.length : Int) := by omega
      obtain ⟨d0, d1⟩ := hX.out V5 hbV5
      clear hgi hgo hb bb5 hqm htk hvq o5 hs5 hbV5 hq hc
      go_upto_region 8 with fail
      rw [← hV5]
      clear hV5
      go_wp2_with fail
      refine u1.out.mono ?_
      rintro _ w2 ⟨bt, rfl, r1, r2, r3, r4, r5, b2⟩
      obtain ⟨E, hE⟩ : ∃ E, bldE s.f (partsK q.l s.L) = E := ⟨_, rfl⟩
      rw [hE] at r1 r2 ⊢
      have b02 := belows HK.out.2.2.2.1 b2
      have hb2 := belows HK.out.2.2.1 b02
      by_cases h0 : E = 0
      · have t2 : (E != 0) = false := by simp [h0]
        have hgi2 := HK.out.1.keep b02
        have hlb := r5.of (S := fun k => Value.ownBlock _ = some k) fun k hk => Nat.lt_of_lt_of_le (HK.out.1.own.lt k hk).2 HK.out.2.2.2.1.size
        have HM := Lib.hid (And.intro hgi2 (And.intro r3 (And.intro r4 (And.intro hlb (And.intro (hE.trans h0) (And.intro (r1 h0).2.2 hb2))))))
        clear r1 r2 r3 r4 r5 b2 b02 hb2 hgi2 hlb u1 hE h0
        go_wp2_with (at_builtin; refine wpList_push _ rfl _ _ 68 rfl V.heap.size 32 i0 _ 1 24 HI.out.1 HI.out.2.1 HI.out.2.2.1 HI.out.2.2.2.1 HI.out.2.2.2.2 rfl (by decide) _ _ _ rfl HM.out.1.own #[.slice bt.uA bt.l.length bt.uc] rfl rfl ?k1 ?k2 ?k3 ?k4 ?_)
        case k1 => rfl
        case k2 => unfold maxLen; omega
        case k3 => omega
        case k4 => exact HM.out.2.2.2.2.2.2.size
        intro v4 w4 ho4 hb4 hv4 hg4
        rw [← hbl] at ho4
        have hp4 := HM.out.1.push HM.out.2.1 HM.out.2.2.1 HM.out.2.2.2.1 ho4 hv4 hg4
        have H4 := Lib.hid (And.intro hp4 (HM.out.2.2.2.2.2.2.trans hb4))
        clear ho4 hb4 hv4 hg4 hp4
        go_wp2_with fail
        clear hA
        rw [← HA.out]
        go_roundw
        case rel => exact ⟨k + 1, bs ++ [bt], by go_num, by omega, H4.out.1, by rw [HK.out.2.2.2.2.2]; exact HK.out.2.1.snoc HM.out.2.2.2.2.1 HM.out.2.2.2.2.2.1, H4.out.2⟩
        case measure => simp [intOf]; omega
      · have t2 : (E != 0) = true := bne_iff_ne.2 h0
        have HM := Lib.hid (And.intro h0 (And.intro hE.symm (belows H.out.2.2.1 hb2)))
        clear r1 r2 r3 r4 r5 b2 b02 hb2 u1 hE h0
        go_wp2_with fail
        exact bodyPost_ret (v := .tuple #[.slice none 0 0, .int .i64 E]) (by simp [results, Tryz.results40, go_sem]) rfl (HP.out [] none 0 E _ (.inr ⟨HG.out, .inr ⟨HM.out.1, rfl, q, HK.out.2.2.2.2.1, HM.out.2.1⟩⟩) Lies.nil_ (fun b h => by cases h) HM.out.2.2)
    · have hk2 : k = ks.length := by omega
      subst hk2
      rw [List.take_length] at hgo
      obtain ⟨A7, k7, hv7, _, _, hl7⟩ := lies_of_own (l := bs) (by decide) gcell_len rfl hgi.own
      subst hv7
      have HM := Lib.hid (And.intro hl7 (And.intro hgo (And.intro (fun b hm => And.intro (hgi.in_ b hm).1 (hgi.in_ b hm).2.1) (belows H.out.2.2.1 hb))))
      clear hgi hgo hb hl7
      go_wp2_with fail
      exact bodyPost_ret (v := .tuple #[.slice A7 bs.length k7, .int .i64 0]) (by simp [results, Tryz.results40, go_sem]) rfl (HP.out bs A7 k7 0 _ (.inr ⟨HG.out, .inl ⟨rfl, HM.out.2.1⟩⟩) HM.out.1 HM.out.2.2.1 HM.out.2.2.2)
end Go.Proofs.YtenjlhlighkenaaGreat
namespace Go.Proofs.YtenjlhlighkenaaGreat
open Go Go.RowKit

theorem one_key (w : World) (A : Option Addr) (c : Nat) (l : List Vl) (h : Vals w w.heap.size A l) : ∃ V, V = w.alloc (.cells #[.slice A l.length c] 55) ∧ Below w.heap.size w V ∧ KLs V V.heap.size (some ⟨w.heap.size, 0, none⟩) [⟨A, c, l⟩] := by
  obtain ⟨W, e1, s1, b1, o1⟩ := boxd w [.slice A l.length c] 55
  refine ⟨W, e1, b1, rw_own (t := 55) o1, fun s hs => ?_⟩
  obtain rfl : s = ⟨A, c, l⟩ := by simpa using hs
  exact (h.past b1 (Nat.le_refl _)).wide b1.size
def GroupS (s : Sp) (key : List Vl) (w : World) (x : Ending) (w' : World) : Prop :=
  ∃ (b : Bt) (e : Int), x = .returned (.tuple #[.slice b.uA b.l.length b.uc, .int .i64 e]) ∧ ((¬ SpGood s.f s.L ∧ e = 8 ∧ b = Bt.nil) ∨ (SpGood s.f s.L ∧ e = bldE s.f (partsK key s.L) ∧ (e = 0 → b.l.map Up.p = consL [advL s.f (partsK key s.L)]) ∧ (e ≠ 0 → b = Bt.nil))) ∧ BtIn w' w'.heap.size b ∧ BtOk b ∧ Below w.heap.size w w'
set_option maxRecDepth 100000 in
set_option maxHeartbeats 6400000 in
theorem group_sp (s : Sp) (A : Option Addr) (c : Nat) (key : List Vl) (w : World) (hs : SpIn w w.heap.size s) (os : SpOk s) (hr : ∀ l ∈ s.L, LvRm l) (hn : (partsS s.L).length ≤ 1099511627776) (hv : Vals w w.heap.size A key) (hkl : key.length ≤ maxLen) :
    Calls Tryz.prog 17 #[s.val, .slice A key.length c] w (GroupS s key w) := by
  obtain ⟨V, hV, hvb, hvs, hvo⟩ := spbox w s
  obtain ⟨V2, hV2, bb2, hk2⟩ := one_key V A c key ((hv.past hvb (Nat.le_refl _)).wide hvb.size)
  have y1 := Lib.hid (groups_any s (some ⟨V.heap.size, 0, none⟩) 1 [⟨A, c, key⟩] V2 ((hs.keep hvb).keep bb2) os hr hn hk2 (fun k hk => by rw [List.mem_singleton.1 hk]; exact hkl) (by simp))
  obtain ⟨d0, d1⟩ := own2 hvo
  rw [show s.val = .agg #[.slice s.sA s.f.length s.sc, .slice s.lA s.L.length s.lc] from rfl] at y1 ⊢
  have H := Lib.hid (belows hvb bb2)
  have HP := Lib.hid (show ∀ (b : Bt) (e : Int) w', ((¬ SpGood s.f s.L ∧ e = 8 ∧ b = Bt.nil) ∨ (SpGood s.f s.L ∧ e = bldE s.f (partsK key s.L) ∧ (e = 0 → b.l.map Up.p = consL [advL s.f (partsK key s.L)]) ∧ (e ≠ 0 → b = Bt.nil))) → BtIn w' w'.heap.size b → BtOk b → Below w.heap.size w w' → GroupS s key w (.returned (.tuple #[.slice b.uA b.l.length b.uc, .int .i64 e])) w' from fun b e w' h1 h2 h3 h4 => ⟨b, e, rfl, h1, h2, h3, h4⟩)
  clear hs os hr hn hv hkl hvb hvs hvo bb2 hk2
  go_enter Tryz.func17, Tryz.ntmps17
  go_upto_region 1 with fail
  rw [← hV]
  clear hV
  go_wp2_with fail
  rw [← hV2]
  clear hV2
  refine y1.out.mono ?_
  rintro _ w2 ⟨bs, A', c', E, rfl, r1, hl, hin, b2⟩
  have H2 := Lib.hid (belows H.out b2)
  by_cases h0 : E = 0
  · have t1 : (E != 0) = false := by simp [h0]
    have hg : SpGood s.f s.L ∧ GrpOk s.f s.L [⟨A, c, key⟩] bs := by
      rcases r1 with ⟨_, h, _⟩ | ⟨hg, ⟨_, h⟩ | ⟨h, _⟩⟩
      · omega
      · exact ⟨hg, h⟩
      · exact absurd h0 h
    obtain ⟨b, rfl⟩ : ∃ b, bs = [b] := List.length_eq_one_iff.1 hg.2.1
    obtain ⟨k1, k2⟩ := hg.2.2 0 ⟨A, c, key⟩ b rfl rfl
    obtain ⟨g, o, hA, hB, hc⟩ := hl (by simp)
    have z0 := hc 0 b rfl 0 _ rfl
    rw [show o + 0 * 1 + 0 = o by omega] at z0
    have hA : A' = some ⟨g, o, none⟩ := hA
    subst hA
    have HM := Lib.hid (And.intro hg.1 (And.intro k1 (And.intro k2 (hin b (by simp)))))
    clear r1 hl hin b2 y1 hg k1 k2 hc d0 d1
    go_wp2_with fail
    exact bodyPost_ret (v := .tuple #[.slice b.uA b.l.length b.uc, .int .i64 0]) (by simp [results, Tryz.results17, go_sem]) rfl (HP.out b 0 _ (.inr ⟨HM.out.1, HM.out.2.1.symm, fun _ => HM.out.2.2.1, fun h => absurd rfl h⟩) HM.out.2.2.2.1 HM.out.2.2.2.2 H2.out)
  · have t1 : (E != 0) = true := bne_iff_ne.2 h0
    have HM := Lib.hid (show (¬ SpGood s.f s.L ∧ E = 8 ∧ Bt.nil = Bt.nil) ∨ (SpGood s.f s.L ∧ E = bldE s.f (partsK key s.L) ∧ (E = 0 → Bt.nil.l.map Up.p = consL [advL s.f (partsK key s.L)]) ∧ (E ≠ 0 → Bt.nil = Bt.nil)) from by
      rcases r1 with ⟨h1, h2, _⟩ | ⟨hg, ⟨h, _⟩ | ⟨_, _, k, hk, e⟩⟩
      · exact .inl ⟨h1, h2, rfl⟩
      · exact absurd h h0
      · rw [List.mem_singleton.1 hk] at e
        exact .inr ⟨hg, e, fun h => absurd h h0, fun _ => rfl⟩)
    clear r1 hl hin b2 y1 d0 d1 h0
    go_wp2_with fail
    exact bodyPost_ret (v := .tuple #[.slice none 0 0, .int .i64 E]) (by simp [results, Tryz.results17, go_sem]) rfl (HP.out Bt.nil E _ (by
      rcases HM.out with ⟨h1, h2, _⟩ | ⟨h1, h2, h3, _⟩
      · exact .inl ⟨h1, h2, rfl⟩
      · exact .inr ⟨h1, h2, h3, fun _ => rfl⟩) (bt_nil_in _ _) bt_nil_ok H2.out)
end Go.Proofs.YtenjlhlighkenaaGreat
namespace Go.Proofs.YtenjlhlighkenaaGreat
open Go Go.RowKit

theorem take_while_len (q : Up → Bool) : ∀ l : List Up, l.take (l.takeWhile q).length = l.takeWhile q
  | [] => rfl
  | x :: l => by
    by_cases hx : q x = true
    · rw [List.takeWhile_cons_of_pos hx, List.length_cons, List.take_succ_cons, take_while_len q l]
    · rw [List.takeWhile_cons_of_neg hx]; rfl
theorem while_congr {p q : Up → Bool} : ∀ {l : List Up}, (∀ u ∈ l, p u = q u) → l.takeWhile p = l.takeWhile q
  | [], _ => rfl
  | x :: l, h => by
    have ih := while_congr (p := p) (q := q) (l := l) fun u hu => h u (List.mem_cons_of_mem _ hu)
    have hx := h x List.mem_cons_self
    by_cases hp : p x = true
    · rw [List.takeWhile_cons_of_pos hp, List.takeWhile_cons_of_pos (hx ▸ hp), ih]
    · rw [List.takeWhile_cons_of_neg hp, List.takeWhile_cons_of_neg (hx ▸ hp)]
theorem keyR_eq {r : Rw Up} {key : List Vl} (hk : KeysUp r.l) : (keyR r key).l = r.l.filter fun u => decide (cmpRows u.key key = 0) := by
  rw [← group_filter hk]
  show (r.l.drop (keyN r.l key)).take (keyM r.l key) = _
  unfold keyM seekQ
  rw [take_while_len]
  show _ = (r.l.drop (keyN r.l key)).takeWhile _
  refine while_congr fun u hu => ?_
  obtain ⟨i, hi⟩ := List.getElem?_of_mem hu
  rw [List.getElem?_drop] at hi
  have h1 := seekQ_ge (key_mono1 (key := key) hk) (show seekQ r.l (fun u => decide (cmpRows u.key key < 0)) ≤ keyN r.l key + i from Nat.le_add_right _ _) hi
  have h2 := of_decide_eq_false h1
  by_cases h3 : cmpRows u.key key = 0
  · rw [decide_eq_true h3, decide_eq_true (by omega)]
  · rw [decide_eq_false h3, decide_eq_false (by omega)]
/-- a key's parts are what the parts have of it -/
theorem partsK_eq {f : List Tm} {L : List Lv} (key : List Vl) (h : ∀ l ∈ L, LvGood f l) : partsK key L = (partsS L).filter fun u => decide (cmpRows u.key key = 0) := by
  induction L with
  | nil => rfl
  | cons l L ih =>
    have ih := ih fun x hx => h x (List.mem_cons_of_mem _ hx)
    have e : partsK key (l :: L) = flatR ((partsR l).map (keyR · key)) ++ partsK key L := by
      unfold partsK listsK flatR
      rw [List.flatMap_cons, List.flatMap_append]
    have e2 : ∀ R : List (Rw Up), (∀ r ∈ R, KeysUp r.l) → flatR (R.map (keyR · key)) = (flatR R).filter fun u => decide (cmpRows u.key key = 0) := fun R => by
      induction R with
      | nil => exact fun _ => rfl
      | cons r R ih2 =>
        intro hr
        show (keyR r key).l ++ flatR (R.map (keyR · key)) = (r.l ++ flatR R).filter _
        rw [List.filter_append, keyR_eq (hr r List.mem_cons_self), ih2 fun x hx => hr x (List.mem_cons_of_mem _ hx)]
    rw [e, partsS_cons, List.filter_append, ih, e2 _ (partsR_keys (h l List.mem_cons_self)), partsR_flat]
end Go.Proofs.YtenjlhlighkenaaGreat
namespace Go.Proofs.YtenjlhlighkenaaGreat
open Go Go.RowKit

section
variable {K : Type} {cmp : K → K → Int} {R : K → Prop}
theorem sum_filter (L : Lin cmp R) (p : K → Bool) {k : K} (hk : R k) : ∀ {l : List (K × Int)}, (∀ x ∈ l, R x.1) → sumOf cmp (l.filter fun x => p x.1) k = if p k = true then sumOf cmp l k else 0
  | [], _ => by simp [sumOf]
  | x :: l, hl => by
    have ih := sum_filter L p hk (l := l) fun y hy => hl y (List.mem_cons_of_mem _ hy)
    rw [List.filter_cons]
    by_cases h0 : cmp x.1 k = 0
    · obtain rfl : x.1 = k := (L.eq _ _ (hl x List.mem_cons_self) hk).1 h0
      by_cases hp : p x.1 = true
      · rw [if_pos hp] at ih ⊢
        rw [if_pos hp]
        simp only [sumOf, ih]
      · rw [if_neg hp] at ih ⊢
        rw [if_neg hp]
        exact ih
    · have hs : sumOf cmp (x :: l) k = sumOf cmp l k := by simp only [sumOf, if_neg h0]; omega
      rw [hs, ← ih]
      split
      · simp only [sumOf, if_neg h0]; omega
      · rfl
theorem nz_filter (L : Lin cmp R) (p : K → Bool) {l : List (K × Int)} (hl : ∀ x ∈ l, R x.1) : nz cmp (l.filter fun x => p x.1) = (nz cmp l).filter fun x => p x.1 := by
  refine srt_ext L _ _ (nz_srt L _) ((nz_srt L l).filter _) fun y => ?_
  rw [nz_mem L (fun x hx => hl x (List.mem_filter.1 hx).1), List.mem_filter, nz_mem L hl]
  constructor
  · rintro ⟨h1, h2, h3⟩
    rw [sum_filter L p h1 hl] at h2
    split at h2
    · rename_i hp; exact ⟨⟨h1, h2, h3⟩, hp⟩
    · exact absurd h2 h3
  · rintro ⟨⟨h1, h2, h3⟩, hp⟩
    exact ⟨h1, by rw [sum_filter L p h1 hl, if_pos hp]; exact h2, h3⟩
theorem res_filter (L : Lin cmp R) (p : K → Bool) {l : List (K × Int)} (hl : ∀ x ∈ l, R x.1) (h : resE cmp l = 0) : resE cmp (l.filter fun x => p x.1) = 0 ∧ resL cmp (l.filter fun x => p x.1) = (resL cmp l).filter fun x => p x.1 := by
  have hz := resE_zero h
  have ha : (asm cmp (l.filter fun x => p x.1)).all (fun x => fits x.2) = true := by
    have h2 := hz.2
    rw [fit_all] at h2 ⊢
    rw [nz_filter L p hl, List.all_eq_true]
    exact fun x hx => List.all_eq_true.1 h2 x (List.mem_filter.1 hx).1
  have h0 : resE cmp (l.filter fun x => p x.1) = 0 := by unfold resE; rw [if_pos ha]
  exact ⟨h0, by rw [(resE_zero h0).1, hz.1, nz_filter L p hl]⟩
end
/-- the updates of a key -/
def ofKey (k : List Vl) (l : List Up) : List Up := l.filter fun u => decide (cmpRows u.key k = 0)
theorem ofKey_append (k : List Vl) (a b : List Up) : ofKey k (a ++ b) = ofKey k a ++ ofKey k b := List.filter_append ..
theorem ofKey_p (k : List Vl) (l : List Up) : (ofKey k l).map Up.p = (l.map Up.p).filter fun x => decide (cmpRows x.1.key k = 0) := by
  unfold ofKey
  rw [List.filter_map]
  rfl
theorem ofKey_adv (f : List Tm) (k : List Vl) (l : List Up) : advL f (ofKey k l) = ofKey k (advL f l) := by
  unfold ofKey advL
  rw [List.filter_map]
  rfl
/-- a key's updates, evened out alone, are those of all, evened out -/
theorem group_all {f : List Tm} {X e : List Up} (k : List Vl) (h : consE [advL f X] = 0) (he : e.map Up.p = consL [advL f X]) : consE [advL f (ofKey k X)] = 0 ∧ consL [advL f (ofKey k X)] = (ofKey k e).map Up.p := by
  obtain ⟨h1, h2, h3⟩ := cons_chk h
  have hl : chkUs (advL f X) = 0 := chkLs_all.1 h1 _ (by simp)
  simp only [List.flatten_cons, List.flatten_nil, List.append_nil] at h2 h3
  have hR := keys_right (chkUs_all.1 hl)
  have hc : chkLs [advL f (ofKey k X)] = 0 := chkLs_all.2 fun m hm => by
    obtain rfl : m = advL f (ofKey k X) := (by simpa using hm)
    rw [ofKey_adv]
    exact chkUs_all.2 fun u hu => chkUs_all.1 hl u (List.mem_filter.1 hu).1
  obtain ⟨r1, r2⟩ := res_filter uk_lin (fun x : Uk => decide (cmpRows x.key k = 0)) hR h2
  unfold consE consL
  rw [if_pos hc, if_pos hc]
  simp only [List.flatten_cons, List.flatten_nil, List.append_nil]
  rw [ofKey_adv, ofKey_p, ofKey_p, r1, r2, he, h3]
  exact ⟨rfl, rfl⟩
end Go.Proofs.YtenjlhlighkenaaGreat
namespace Go.Proofs.YtenjlhlighkenaaGreat
open Go Go.RowKit

theorem ofKey_group {l : List Up} (hl : KeysUp l) (k : List Vl) : ofKey k l = groupB l k := (group_filter hl).symm
/-- a group stands where its key is sought -/
theorem group_takes (l : List Up) (k : List Vl) : (l.drop (seekB l k)).take (groupB l k).length = groupB l k := take_while_len _ _
theorem group_pos {l : List Up} {n : Nat} {u : Up} (hu : l[n]? = some u) (hs : seekB l u.key = n) : 0 < (groupB l u.key).length := by
  have hlt := List.getElem?_eq_some_iff.1 hu
  unfold groupB
  rw [hs, List.drop_eq_getElem_cons hlt.1, hlt.2, List.takeWhile_cons_of_pos (p := fun x : Up => decide (cmpRows x.key u.key = 0)) (decide_eq_true (cmpRows_self u.key))]
  exact Nat.succ_pos _
theorem group_in {l : List Up} (k : List Vl) {x : Up} (h : x ∈ groupB l k) : cmpRows x.key k = 0 := of_decide_eq_true (tw_mem h)
theorem group_next {l : List Up} (hl : KeysUp l) {n : Nat} {u v : Up} (hu : l[n]? = some u) (hs : seekB l u.key = n) (hv : l[n + (groupB l u.key).length]? = some v) : seekB l v.key = n + (groupB l u.key).length := by
  have hlt := (List.getElem?_eq_some_iff.1 hv).1
  have hp := group_pos hu hs
  have huv : cmpRows u.key v.key ≤ 0 := keys_le hl hu hv (by omega)
  -- v is not of the group
  have hne : cmpRows v.key u.key ≠ 0 := fun h0 => by
    have h1 := group_filter (k := u.key) hl
    have h2 : (l.drop (seekB l u.key)).takeWhile (fun x => decide (cmpRows x.key u.key = 0)) = groupB l u.key := rfl
    rw [hs] at h2
    have h3 : (l.drop n)[(groupB l u.key).length]? = some v := by rw [List.getElem?_drop]; exact hv
    have h4 := List.takeWhile_append_dropWhile (p := fun x : Up => decide (cmpRows x.key u.key = 0)) (l := l.drop n)
    rw [h2] at h4
    rw [← h4, List.getElem?_append_right (Nat.le_refl _), Nat.sub_self] at h3
    have h5 := List.head?_dropWhile_not (p := fun x : Up => decide (cmpRows x.key u.key = 0)) (l := l.drop n)
    rw [List.head?_eq_getElem?, h3] at h5
    simp at h5
    exact h5 h0
  have hlt2 : cmpRows u.key v.key < 0 := by
    have : cmpRows u.key v.key ≠ 0 := fun h => hne (by have := cmpRows_swap u.key v.key; omega)
    omega
  refine seek_only (by omega) (fun i x hi hx => ?_) (fun x hx => by
    rw [hv] at hx
    injection hx with hx
    subst hx
    rw [cmpRows_self]
    decide)
  by_cases hin : i ≤ n
  · have h1 := keys_le hl hx hu hin
    exact (cmpRows_le _ _ _ h1 (Int.le_of_lt hlt2)).2 (.inr hlt2)
  · have h1 : (groupB l u.key)[i - n]? = some x := by
      have h2 := group_takes l u.key
      rw [hs] at h2
      rw [← h2, List.getElem?_take_of_lt (by omega), List.getElem?_drop, ← hx]
      congr 1
      omega
    have h2 := group_in u.key (List.mem_of_getElem? h1)
    exact (cmpRows_le _ _ _ (Int.le_of_eq h2) (Int.le_of_lt hlt2)).2 (.inr hlt2)
theorem seek_zero {l : List Up} (hl : KeysUp l) {u : Up} (hu : l[0]? = some u) : seekB l u.key = 0 :=
  seek_only (Nat.zero_le _) (fun i _ hi => absurd hi (Nat.not_lt_zero _)) (fun x hx => by
    rw [hu] at hx
    injection hx with hx
    subst hx
    rw [cmpRows_self]
    decide)
end Go.Proofs.YtenjlhlighkenaaGreat
namespace Go.Proofs.YtenjlhlighkenaaGreat
open Go Go.RowKit

def LoR (B : Nat) (A : Option Addr) (c : Nat) (l : List Up) : Prop := Lo B A l ∧ l.length ≤ c ∧ c ≤ maxLen
theorem loR_nil (B : Nat) : LoR B none 0 [] := ⟨lo_nil B, Nat.le_refl _, Nat.zero_le _⟩
def TotSaysC (l : List (Uk × Int)) (base : Nat) (w : World) (x : Ending) (w' : World) : Prop :=
  ∃ A c, ∃ outL : List Up, x = .returned (.tuple #[.slice A outL.length c, .int .i64 (resE Uk.cmp l)]) ∧ outL.map Up.p = resL Uk.cmp l ∧ Ups w' w'.heap.size A outL ∧ (∀ u ∈ outL, UOk u) ∧ Below base w w' ∧ LoR base A c outL
set_option maxRecDepth 100000 in
set_option maxHeartbeats 16000000 in
theorem totalU_anyC (v : Value) (n base : Nat) (l : List (Ln Up)) (w : World) (hnl : n = l.length) (h : w.ownsRow base 145 8 v n (l.flatMap (Ln.cells Up.cells))) (hbase : base ≤ w.heap.size) (hin : ∀ x ∈ l, UIn w base x.u) (hok : ∀ x ∈ l, UOk x.u) (hR : ∀ x ∈ l, UkR x.u.k)
    (hS : ∀ x ∈ l, -9223372036854775808 ≤ x.S ∧ x.S ≤ 9223372036854775807) (hn : n ≤ 1099511627776) :
    Calls Tryz.prog 75 #[v, .func (.func 76) #[] #[], .func (.func 77) #[] #[]] w (TotSaysC (l.map (pL Up.k)) base w) := by
  obtain ⟨i0, hi, hz0, hz1, hz2⟩ := info_parts infoUp
  have HI := Lib.hid (And.intro Tryz.underlying32 (And.intro hi (And.intro hz0 (And.intro hz1 hz2))))
  obtain ⟨W, hW, hwb, hws, hwc⟩ := fn_box w (.func (.func 76) #[] #[]) 147
  obtain ⟨A, c, rfl, hsort⟩ := sortU_all v n w.heap.size base l W hnl (own_below h hwb) hwc (fun x hx => (hin x hx).past hwb hbase) hok (by omega)
  have Hsort := Lib.hid hsort
  have HB := Lib.hid (And.intro (hwb.mono hbase) hbase)
  have HL := Lib.hid (And.intro hin (And.intro hok (And.intro hR (And.intro hS hnl))))
  clear hi hz0 hz1 hz2 hsort hwb hws hwc hin hok hR hS h hnl hbase
  go_enter Tryz.func75, Tryz.ntmps75
  go_upto_region 1 with fail
  rw [← hW]
  clear hW
  go_wp2_with fail
  refine Hsort.out.mono ?_
  rintro _ w1 ⟨rfl, s, hp, hpw, hlies, hb1, hbx⟩
  have hsn : s.length = n := by rw [hp.length_eq]; exact HL.out.2.2.2.2.symm
  have HS := Lib.hid (And.intro hp (And.intro hpw (And.intro hlies (And.intro (HB.out.1.trans hb1) (And.intro hbx hsn)))))
  have HX := Lib.hid (And.intro (fun x (hx : x ∈ s) => (HL.out.1 x (hp.mem_iff.1 hx)).past (HB.out.1.trans hb1) (Nat.le_refl _)) (And.intro (fun x (hx : x ∈ s) => HL.out.2.1 x (hp.mem_iff.1 hx)) (fun x (hx : x ∈ s) => HL.out.2.2.2.1 x (hp.mem_iff.1 hx))))
  have hbs : base ≤ w1.heap.size := Nat.le_trans HB.out.2 (HB.out.1.trans hb1).size
  have Hbs := Lib.hid hbs
  clear hp hpw hlies hb1 hbx hsn Hsort hbs
  go_wp2_with fail
  go_loopw [8, 9] (fun v8 v9 wr => ∃ (k : Nat) (outL : List Up), v9 = .int .i64 (k : Int) ∧ k ≤ n ∧ wr.ownsRow w1.heap.size 57 6 v8 outL.length (outL.flatMap Up.cells) ∧ (∀ u ∈ outL, UIn wr wr.heap.size u ∧ UOk u ∧ Far base v8 wr u) ∧ outL.map Up.p = nz Uk.cmp ((s.take k).map (pL Up.k)) ∧ Below w1.heap.size w1 wr ∧ Bound Uk.cmp Up.k s k ∧ (asm Uk.cmp ((s.take k).map (pL Up.k))).all (fun x => fits x.2) = true ∧ outL.length ≤ k)
    (fun _ v9 _ => n - (intOf v9).toNat)
  case atStart => exact ⟨0, [], rfl, by omega, World.ownsRow_nil _ _ _ _, fun u hu => (by cases hu), rfl, Below.refl _ _, fun a ha => (by cases ha), rfl, Nat.le_refl _⟩
  case round =>
    obtain ⟨k, outL, rfl, hk, hown, hout, hmap, hbw, hbound, hfit, hlen⟩ := hrel
    obtain ⟨wo, hwo⟩ : ∃ wo, wo = wr := ⟨_, rfl⟩
    subst hwo
    by_cases hlt : k < n
    · have hx : s[k]? = some (s[k]'(by rw [HS.out.2.2.2.2.2]; exact hlt)) := List.getElem?_eq_getElem _
      obtain ⟨g, o, rfl, hB, hxs⟩ := HS.out.2.2.1 (by rw [HS.out.2.2.2.2.2]; omega)
      have hmem := List.mem_of_getElem? hx
      generalize (s[k]'(by rw [HS.out.2.2.2.2.2]; exact hlt)) = x at *
      have hline := Lib.hid (fun (W : World) (hW : Below w1.heap.size w1 W) (i : Nat) (y : Ln Up) (hy : s[i]? = some y) => ln_eight (w := W) (g := g) (o := o + i * 8) (x := y) fun j u hj => (hW.cell (p := ⟨g, o + i * 8 + j, none⟩) hB).trans (hxs i y hy j u hj))
      have hrows := Lib.hid (fun (W : World) (hW : Below w1.heap.size w1 W) (y : Ln Up) (hy : y ∈ s) => ((HX.out.1 y hy).past hW Hbs.out).wide (Nat.le_trans Hbs.out hW.size))
      have hfn := Lib.hid (fun (W : World) (hW : Below w1.heap.size w1 W) => (hW.cell (p := ⟨w.heap.size, 0, none⟩) (World.block_lt_of_cell? w1 _ HS.out.2.2.2.2.1)).trans HS.out.2.2.2.2.1)
      obtain ⟨e0, e1, e2, e3, e4, e5, e6, e7⟩ := hline.out wo hbw k x hx
      obtain ⟨V, hV, hvb, hvs, hvo⟩ := ln_box wo x
      have HO := Lib.hid (And.intro hown (And.intro hout (And.intro hmap (And.intro hbw (And.intro hbound (And.intro hfit hlen))))))
      have HV := Lib.hid (And.intro hvb (And.intro hvo (And.intro hx hmem)))
      have hgs := gsum_one hx
      have q0 : (0 : Int) ≤ (k : Int) := by omega
      have q1 : (k : Int) < (n : Int) := by omega
      clear hx hmem hxs hown hout hmap hbw hbound hfit hvb hvo hlen hvs
      have HG := Lib.hid hgs
      clear hgs
      go_upto_region 6 with fail
      rw [← hV]
      clear hV e0 e1 e2 e3 e4 e5 e6 e7
      go_upto_block 2 with fail
      go_cut [9] (fun v9 wi => ∃ j : Nat, v9 = .int .i64 (j : Int) ∧ k + 1 ≤ j ∧ j ≤ n ∧ (∀ m y, k ≤ m → m < j → s[m]? = some y → x.u.k.cmp y.u.k = 0) ∧ (∀ y, s[j]? = some y → x.u.k.cmp y.u.k ≠ 0) ∧ Own wi wo.heap.size 145 (.int .u64 (hiW (gsum s k j)) :: .int .u64 (loW (gsum s k j)) :: x.u.cells) ∧ Below wo.heap.size wo wi)
      case first =>
        go_wp2_with fail
        go_loopw [9] (fun v9 wi => ∃ j : Nat, v9 = .int .i64 (j : Int) ∧ k + 1 ≤ j ∧ j ≤ n ∧ (∀ m y, k ≤ m → m < j → s[m]? = some y → x.u.k.cmp y.u.k = 0) ∧ Own wi wo.heap.size 145 (.int .u64 (hiW (gsum s k j)) :: .int .u64 (loW (gsum s k j)) :: x.u.cells) ∧ Below wo.heap.size wo wi)
          (fun v9 _ => n - (intOf v9).toNat)
        case atStart =>
          refine ⟨k + 1, by go_num, Nat.le_refl _, by omega, fun m y h1 h2 h3 => ?_, by rw [HG.out]; exact HV.out.2.1, HV.out.1⟩
          obtain rfl : m = k := by omega
          rw [HV.out.2.2.1] at h3
          obtain rfl := Option.some.inj h3
          exact uk_lin.self _
        case round =>
          obtain ⟨j, rfl, hj1, hj2, heq, howi, hbi⟩ := hrel
          obtain ⟨wi, hwi⟩ : ∃ wi, wi = wr := ⟨_, rfl⟩
          subst hwi
          have hbj : Below w1.heap.size w1 wi := HO.out.2.2.2.1.trans (hbi.mono HO.out.2.2.2.1.size)
          have HJ := Lib.hid (And.intro heq (And.intro howi (And.intro hbi hbj)))
          clear heq howi hbi hbj
          by_cases hjn : j < n
          · have hy : s[j]? = some (s[j]'(by rw [HS.out.2.2.2.2.2]; exact hjn)) := List.getElem?_eq_getElem _
            have hymem := List.mem_of_getElem? hy
            generalize (s[j]'(by rw [HS.out.2.2.2.2.2]; exact hjn)) = y at *
            have q2 : (0 : Int) ≤ (j : Int) := by omega
            have q3 : (j : Int) < (n : Int) := by omega
            have q4 : decide ((j : Int) < (n : Int)) = true := decide_eq_true q3
            have HY := Lib.hid (And.intro hy hymem)
            have u1 : ∀ p : Past wi, Calls Tryz.prog 76 #[.agg #[.slice x.u.kA x.u.key.length x.u.kc, .slice x.u.rA x.u.row.length x.u.rc, .int .u64 (x.u.t.e : Int), .int .u64 (x.u.t.a : Int), .int .u64 (x.u.t.b : Int), .int .i64 x.u.d], .agg #[.slice y.u.kA y.u.key.length y.u.kc, .slice y.u.rA y.u.row.length y.u.rc, .int .u64 (y.u.t.e : Int), .int .u64 (y.u.t.a : Int), .int .u64 (y.u.t.b : Int), .int .i64 y.u.d]] p.w fun e w'' => e = .returned (.int .i64 (x.u.k.cmp y.u.k)) ∧ ∃ q : Past wi, w'' = q.w := fun p =>
              calls_past ((dcompare_gr x.u y.u p.w (hrows.out p.w (HJ.out.2.2.2.trans (p.h.mono HJ.out.2.2.2.size)) x HV.out.2.2.2) (hrows.out p.w (HJ.out.2.2.2.trans (p.h.mono HJ.out.2.2.2.size)) y HY.out.2) (HX.out.2.1 x HV.out.2.2.2) (HX.out.2.1 y HY.out.2)).mono fun e w' h => ⟨h.1, h.2.below⟩)
            have u2 := fun p : Past wi => hfn.out p.w (HJ.out.2.2.2.trans (p.h.mono HJ.out.2.2.2.size))
            have u3 := fun p : Past wi => own8l (HJ.out.2.1.past p.h HJ.out.2.1.inside)
            have u4 := fun p : Past wi => (hline.out p.w (HJ.out.2.2.2.trans (p.h.mono HJ.out.2.2.2.size)) j y HY.out.1).2.2
            obtain ⟨r, hr⟩ : ∃ r, x.u.k.cmp y.u.k = r := ⟨_, rfl⟩
            rw [hr] at u1
            have HR := Lib.hid hr
            clear hr hy hymem
            by_cases hr0 : r = 0
            · have t1 : (r == 0) = true := beq_iff_eq.2 hr0
              have HR0 := Lib.hid hr0
              clear hr0
              go_upto_region 7 with fail
              refine wp_region_past wi (by kernel_rfl) (by kernel_rfl) (Below.refl _ _) ?_
              repeat (first | go_big_quiet_step ((go_at_call 76; exact u1 _)) | quiet_step ((go_at_call 76; exact u1 _)))
              refine wpQuiet_nil ?_
              intro wz hw'
              obtain ⟨⟨wy, hbz⟩, hw''⟩ := hw'
              dsimp only at hw''
              subst hw''
              have hz1 := HJ.out.2.2.2.trans (hbz.mono HJ.out.2.2.2.size)
              obtain ⟨e0, e1, _⟩ := hline.out wz hz1 j y HY.out.1
              have hadd := Lib.hid (add_line (gsum s k j) y.S wo.heap.size 145 x.u.cells wz (HJ.out.2.1.past hbz HJ.out.2.1.inside))
              have HZ := Lib.hid (HJ.out.2.2.1.trans (hbz.mono HJ.out.2.2.1.size))
              clear u1 u2 u3 u4 hbz hz1 t1
              go_wp2_with fail
              refine hadd.out.mono ?_
              rintro _ w5 ⟨rfl, ho5, hb5⟩
              have H5 := Lib.hid (And.intro ho5 (HZ.out.trans (hb5 _ (Nat.le_refl _))))
              clear ho5 hb5 e0 e1 hadd
              go_wp2_with fail
              go_roundw
              case rel =>
                refine ⟨j + 1, by go_num, by omega, by omega, fun m z h1 h2 h3 => ?_, by rw [gsum_next (by omega) HY.out.1]; exact H5.out.1, H5.out.2⟩
                by_cases hmj : m = j
                · subst hmj
                  rw [HY.out.1] at h3
                  obtain rfl := Option.some.inj h3
                  rw [HR.out, HR0.out]
                · exact HJ.out.1 m z h1 (by omega) h3
              case measure => simp [intOf]; omega
            · have t1 : (r == 0) = false := beq_eq_false_iff_ne.2 hr0
              have HR0 := Lib.hid hr0
              clear hr0
              go_upto_region 7 with fail
              refine wp_region_past wi (by kernel_rfl) (by kernel_rfl) (Below.refl _ _) ?_
              repeat (first | go_big_quiet_step ((go_at_call 76; exact u1 _)) | quiet_step ((go_at_call 76; exact u1 _)))
              refine wpQuiet_nil ?_
              intro wz hw'
              obtain ⟨⟨wy, hbz⟩, hw''⟩ := hw'
              dsimp only at hw''
              subst hw''
              have HZ := Lib.hid (And.intro (HJ.out.2.1.past hbz HJ.out.2.1.inside) (HJ.out.2.2.1.trans (hbz.mono HJ.out.2.2.1.size)))
              clear u1 u2 u3 u4 hbz t1
              go_wp2_with fail
              go_meet
              exact ⟨j, rfl, by omega, by omega, HJ.out.1, fun z hz => by
                rw [HY.out.1] at hz
                obtain rfl := Option.some.inj hz
                rw [HR.out]
                exact HR0.out, HZ.out.1, HZ.out.2⟩
          · have q4 : decide ((j : Int) < (n : Int)) = false := decide_eq_false (by omega)
            go_upto_region 7 with fail
            go_quiet (fail)
            go_wp2_with fail
            go_meet
            exact ⟨j, rfl, by omega, by omega, HJ.out.1, fun z hz => by
              have := (List.getElem?_eq_some_iff.1 hz).1
              rw [HS.out.2.2.2.2.2] at this
              omega, HJ.out.2.1.draws _, below_draws HJ.out.2.2.1 _⟩
      case rest =>
        obtain ⟨j, rfl, hj1, hj2, heq, hmax, hown, hbi⟩ := hcut
        obtain ⟨hB2, hasm⟩ := group_step (f := Up.k) uk_lin HS.out.2.1 (by omega) (by rw [HS.out.2.2.2.2.2]; exact hj2) HV.out.2.2.1 heq hmax HO.out.2.2.2.2.1
        have hnz := nz_step hasm
        have hfi := fit_step hasm
        have hgb := gsum_bound HX.out.2.2 (by rw [HS.out.2.2.2.2.2]; exact hn) k j
        rw [HO.out.2.2.2.2.2.1, Bool.true_and] at hfi
        have hcall := fun W => Lib.hid (number_any (gsum s k j) W hgb.1 hgb.2)
        have hbx1 := HO.out.2.2.2.1.trans (hbi.mono HO.out.2.2.2.1.size)
        obtain ⟨c0, c1⟩ := own8a hown
        obtain ⟨S, hSe⟩ : ∃ S, gsum s k j = S := ⟨_, rfl⟩
        rw [hSe] at hasm hnz hfi hcall c0 c1 hown
        have HC := Lib.hid (And.intro hB2 (And.intro hnz (And.intro hfi (And.intro hbx1 (And.intro hbi hown)))))
        clear hB2 hasm hnz hfi hgb heq hmax hown hbi hbx1 hSe
        go_wp2_with fail
        refine (hcall _).out.mono ?_
        rintro _ w2 ⟨rfl, b2⟩
        have H2 := Lib.hid (And.intro (HC.out.2.2.2.1.trans (b2.mono HC.out.2.2.2.1.size)) (And.intro (HC.out.2.2.2.2.2.past b2 HC.out.2.2.2.2.2.inside) (HC.out.2.2.2.2.1.trans (b2.mono HC.out.2.2.2.2.1.size))))
        clear b2 c0 c1 hcall
        cases hf : fits S
        case false =>
          have e1 : fitE S = 10 := by unfold fitE; rw [hf]; rfl
          have hres : resE Uk.cmp (l.map (pL Up.k)) = 10 ∧ resL Uk.cmp (l.map (pL Up.k)) = [] := by
            obtain ⟨p1, p2⟩ := res_perm (f := Up.k) uk_lin HS.out.1 HL.out.2.2.1
            have hbad := bad_step HC.out.1 (by rw [HC.out.2.2.1]; exact hf)
            rw [← p1, ← p2]
            unfold resE resL
            rw [hbad]
            exact ⟨rfl, rfl⟩
          have HR := Lib.hid hres
          have HE := Lib.hid e1
          rw [e1]
          clear hres hf e1
          go_wp2_with fail
          go_ret2
          exact ⟨none, 0, [], by rw [HR.out.1]; rfl, HR.out.2.symm, ⟨Lies.nil_, fun u hu => (by cases hu)⟩, fun u hu => (by cases hu), HS.out.2.2.2.1.trans (H2.out.1.mono Hbs.out), loR_nil _⟩
        case true =>
          have e1 : fitE S = 0 := by unfold fitE; rw [hf]; rfl
          have e2 : fitN S = S := by unfold fitN; rw [hf]; rfl
          have hfb := (fits_iff S).1 hf
          rw [e1, e2]
          have HF := Lib.hid (And.intro hf hfb)
          clear hf hfb e1 e2
          by_cases hS0 : S = 0
          · have t1 : (S != 0) = false := by simp [hS0]
            have HS0 := Lib.hid hS0
            have hkeep := own_below HO.out.1 H2.out.2.2
            have HK := Lib.hid hkeep
            clear hS0 hkeep
            go_wp2_with fail
            go_roundw
            case rel =>
              refine ⟨j, outL, rfl, hj2, HK.out, fun u hu => ⟨(HO.out.2.1 u hu).1.keep H2.out.2.2, (HO.out.2.1 u hu).2.1, (HO.out.2.1 u hu).2.2.next H2.out.2.2.size⟩, ?_, H2.out.1, HC.out.1, by rw [HC.out.2.2.1]; exact HF.out.1, by have := HO.out.2.2.2.2.2.2; omega⟩
              rw [HC.out.2.1, HS0.out, if_pos rfl, List.append_nil]
              exact HO.out.2.2.1
            case measure => simp [intOf]; omega
          · have t1 : (S != 0) = true := bne_iff_ne.2 hS0
            have HS0 := Lib.hid hS0
            obtain ⟨c2, c3, c4, c5, c6, c7⟩ := own8l H2.out.2.1
            have hxk := HX.out.2.1 x HV.out.2.2.2
            have hxr := chkK_zero (HL.out.2.2.1 x (HS.out.1.mem_iff.1 HV.out.2.2.2))
            have hx8 := (chkRow_zero hxr.1).2
            have hx9 := (chkRow_zero hxr.2.1).2
            have hret := Lib.hid (retain_any x.u S w2 (hrows.out w2 H2.out.1 x HV.out.2.2.2) ⟨by change x.u.key.length ≤ 8 at hx8; omega, by change x.u.row.length ≤ 8 at hx9; omega⟩)
            have HXK := Lib.hid hxk
            rw [show x.u.val = .agg #[.slice x.u.kA x.u.key.length x.u.kc, .slice x.u.rA x.u.row.length x.u.rc, .int .u64 (x.u.t.e : Int), .int .u64 (x.u.t.a : Int), .int .u64 (x.u.t.b : Int), .int .i64 x.u.d] from rfl] at hret
            clear hS0 hxk hxr hx8 hx9
            go_wp2_with fail
            refine hret.out.mono ?_
            rintro _ w3 ⟨u', rfl, k1, k2, k3, k4, hin3, hfar, b3⟩
            have hlen := HO.out.2.2.2.2.2.2
            have H3 := Lib.hid (And.intro (H2.out.1.trans (b3.mono H2.out.1.size)) (And.intro (H2.out.2.2.trans (b3.mono H2.out.2.2.size)) (And.intro hin3 (own_below HO.out.1 (H2.out.2.2.trans (b3.mono H2.out.2.2.size))))))
            have hfar' : Far base u8 w3 u' := fun b o hb => ⟨(hfar b o hb).2, fun e => by
              have h1 := (HO.out.1.lt b e).2
              have h2 := (hfar b o hb).1
              have h3 := H2.out.2.2.size
              omega, by
              have h2 := (hfar b o hb).1
              have h3 := H2.out.1.size
              have h4 := Hbs.out
              omega⟩
            have HU := Lib.hid (And.intro k1 (And.intro k2 (And.intro k3 (And.intro k4 hfar'))))
            rw [show u'.val = .agg #[.slice u'.kA u'.key.length u'.kc, .slice u'.rA u'.row.length u'.rc, .int .u64 (u'.t.e : Int), .int .u64 (u'.t.a : Int), .int .u64 (u'.t.b : Int), .int .i64 u'.d] from rfl]
            have hs3 := H3.out.1.size
            clear k1 k2 k3 k4 hin3 b3 hret hfar hfar' c2 c3 c4 c5 c6 c7
            go_wp2_with (at_builtin; refine wpList_push _ rfl _ _ 32 rfl w1.heap.size 57 i0 _ 6 80 HI.out.1 HI.out.2.1 HI.out.2.2.1 HI.out.2.2.2.1 HI.out.2.2.2.2 rfl (by decide) _ _ _ rfl H3.out.2.2.2 #[.slice u'.kA u'.key.length u'.kc, .slice u'.rA u'.row.length u'.rc, .int .u64 (u'.t.e : Int), .int .u64 (u'.t.a : Int), .int .u64 (u'.t.b : Int), .int .i64 u'.d] rfl rfl ?p1 ?p2 ?p3 ?p4 ?_)
            case p1 => exact ⟨rfl, rfl, rfl, rfl, rfl, rfl⟩
            case p2 => unfold maxLen; omega
            case p3 => omega
            case p4 => exact hs3
            intro v' w' ho' hb' hob hgw
            have hbw' := H3.out.1.trans hb'
            have hfarn : ∀ u, Far base u8 w3 u → Far base v' w' u := fun u hu b o hb => by
              obtain ⟨h1, h2, h3⟩ := hu b o hb
              refine ⟨Nat.lt_of_lt_of_le h1 hgw.size, fun e => ?_, h3⟩
              rcases hob with h | h
              · rw [h] at e; exact h2 e
              · rw [h] at e
                injection e with e
                omega
            have hall : ∀ u ∈ outL ++ [u'], UIn w' w'.heap.size u ∧ UOk u ∧ Far base v' w' u := fun u hu => by
              rcases List.mem_append.1 hu with hu | hu
              · have hf3 := (HO.out.2.1 u hu).2.2.next H3.out.2.1.size
                exact ⟨uin_grown ((HO.out.2.1 u hu).1.keep H3.out.2.1) hf3 hgw, (HO.out.2.1 u hu).2.1, hfarn u hf3⟩
              · obtain rfl : u = u' := by simpa using hu
                refine ⟨uin_grown H3.out.2.2.1 HU.out.2.2.2.2 hgw, ⟨?_, ?_, ?_, ?_, ?_⟩, hfarn u HU.out.2.2.2.2⟩
                · rw [HU.out.1]; exact HXK.out.kn
                · rw [HU.out.2.1]; exact HXK.out.rn
                · rw [HU.out.1]; exact HXK.out.ks
                · rw [HU.out.2.1]; exact HXK.out.rs
                · rw [HU.out.2.2.2.1]; exact HF.out.2
            have hmap2 : (outL ++ [u']).map Up.p = nz Uk.cmp ((s.take j).map (pL Up.k)) := by
              rw [List.map_append, HC.out.2.1, if_neg HS0.out, HO.out.2.2.1]
              have hpu : u'.p = (x.u.k, S) := by
                unfold Up.p Up.k
                rw [HU.out.1, HU.out.2.1, HU.out.2.2.1, HU.out.2.2.2.1]
              rw [List.map_cons, List.map_nil, hpu]
            have hrow2 : w'.ownsRow w1.heap.size 57 6 v' (outL ++ [u']).length ((outL ++ [u']).flatMap Up.cells) := by
              rw [List.length_append, List.flatMap_append]
              exact ho'
            have H4 := Lib.hid (And.intro hrow2 (And.intro hall (And.intro hmap2 hbw')))
            clear ho' hb' hob hgw hbw' hfarn hall hmap2 hrow2
            go_wp2_with fail
            go_roundw
            case rel => exact ⟨j, outL ++ [u'], rfl, hj2, H4.out.1, H4.out.2.1, H4.out.2.2.1, H4.out.2.2.2, HC.out.1, by rw [HC.out.2.2.1]; exact HF.out.1, by rw [List.length_append, List.length_singleton]; omega⟩
            case measure => simp [intOf]; omega
    · have hkn : k = n := by omega
      have htk : s.take k = s := by rw [List.take_of_length_le]; rw [HS.out.2.2.2.2.2, hkn]; exact Nat.le_refl _
      rw [htk] at hmap hfit
      obtain ⟨p1, p2⟩ := res_perm (f := Up.k) uk_lin HS.out.1 HL.out.2.2.1
      have hE : resE Uk.cmp (l.map (pL Up.k)) = 0 := by rw [← p2]; unfold resE; rw [hfit]; rfl
      have hLL : outL.map Up.p = resL Uk.cmp (l.map (pL Up.k)) := by rw [← p1]; unfold resL; rw [hfit, hmap]; rfl
      obtain ⟨A', c', rfl, hle', hcm', hl'⟩ := lies_of_own (by decide) ucells_len rfl hown
      have hlo : LoR base A' c' outL := ⟨⟨fun b o e => by subst e; exact Nat.le_trans Hbs.out (hown.lt b rfl).1, fun u hu b o hb => ((hout u hu).2.2 b o hb).2.2⟩, hle', hcm'⟩
      have HLo := Lib.hid hlo
      clear hlo
      have HE := Lib.hid (And.intro hE (And.intro hLL (And.intro (⟨hl', fun u hu => (hout u hu).1⟩ : Ups wo wo.heap.size A' outL) (And.intro (fun u hu => (hout u hu).2.1) hbw))))
      have q4 : decide ((k : Int) < (n : Int)) = false := decide_eq_false (by omega)
      clear hown hout hmap hfit hbound hbw htk p1 p2 hE hLL hl'
      go_wp2_with fail
      go_ret2
      exact ⟨A', c', outL, by rw [HE.out.1]; rfl, HE.out.2.1, HE.out.2.2.1, HE.out.2.2.2.1, HS.out.2.2.2.1.trans (HE.out.2.2.2.2.mono Hbs.out), HLo.out⟩
end Go.Proofs.YtenjlhlighkenaaGreat
namespace Go.Proofs.YtenjlhlighkenaaGreat
open Go Go.RowKit

def UpsNewC (l : List (Uk × Int)) (e : Int) (w : World) (x : Ending) (w' : World) : Prop :=
  ∃ A c, ∃ outL : List Up, x = .returned (.tuple #[.slice A outL.length c, .int .i64 e]) ∧ outL.map Up.p = l ∧ Ups w' w'.heap.size A outL ∧ (∀ u ∈ outL, UOk u) ∧ Below w.heap.size w w' ∧ LoR w.heap.size A c outL
set_option maxRecDepth 100000 in
set_option maxHeartbeats 16000000 in
theorem consolidate_newC (A : Option Addr) (c : Nat) (L : List (Rw Up)) (w : World) (hl : ULs w w.heap.size A L) (hok : ∀ s ∈ L, ∀ u ∈ s.l, UOk u) (hn : (flatR L).length ≤ 1099511627776) (hn2 : L.length ≤ 1099511627776) :
    Calls Tryz.prog 45 #[.slice A L.length c] w (UpsNewC (consL (L.map Rw.l)) (consE (L.map Rw.l)) w) := by
  obtain ⟨i0, hi, hz0, hz1, hz2⟩ := info_parts infoLn
  have HI := Lib.hid (And.intro Tryz.underlying143 (And.intro hi (And.intro hz0 (And.intro hz1 hz2))))
  have HL := Lib.hid (And.intro hl hok)
  clear hl hok hi hz0 hz1 hz2
  go_enter Tryz.func45, Tryz.ntmps45
  go_wp2_with fail
  go_loopw [4, 12] (fun v4 v12 wr => ∃ k : Nat, v12 = .int .i64 (k : Int) ∧ k ≤ L.length ∧ wr.ownsRow w.heap.size 145 8 v4 (flatR (L.take k)).length ((linesOf (flatR (L.take k))).flatMap (Ln.cells Up.cells)) ∧ Below w.heap.size w wr ∧ chkLs ((L.map Rw.l).take k) = 0)
    (fun _ v12 _ => L.length - (intOf v12).toNat)
  case atStart => exact ⟨0, rfl, by omega, World.ownsRow_nil _ _ _ _, Below.refl _ _, rfl⟩
  case round =>
    obtain ⟨k, rfl, hk, hown, hbw, hchk⟩ := hrel
    obtain ⟨wo, hwo⟩ : ∃ wo, wo = wr := ⟨_, rfl⟩
    subst hwo
    by_cases hlt : k < L.length
    · have hx : L[k]? = some L[k] := List.getElem?_eq_getElem hlt
      have hxm := List.mem_of_getElem? hx
      generalize L[k] = s at *
      obtain ⟨b, o, rfl, hB, hc0, hups⟩ := HL.out.1.at_ hx
      have hc0 := (hbw.cell (p := ⟨b, o + k, none⟩) hB).trans hc0
      have hxl : (L.map Rw.l)[k]? = some s.l := by rw [List.getElem?_map, hx]; rfl
      have hsn : s.l.length ≤ 1099511627776 := by have := flatR_len hx (Nat.le_refl _); omega
      have hcall := Lib.hid (dcheck_any s.A s.c s.l wo ((hups.past hbw (Nat.le_refl _)).wide hbw.size) (by omega) (HL.out.2 s hxm))
      have hnx := chkLs_take hxl hchk
      have hbad := fun h => chkLs_bad hxl hchk h
      have HO := Lib.hid (And.intro hown (And.intro hbw (And.intro hx (And.intro hxm (And.intro hups (And.intro hnx hbad))))))
      have q0 : (0 : Int) ≤ (k : Int) := by omega
      have q1 : (k : Int) < (L.length : Int) := by omega
      have q2 : decide ((k : Int) < (L.length : Int)) = true := decide_eq_true q1
      obtain ⟨K, hK⟩ : ∃ K, chkUs s.l = K := ⟨_, rfl⟩
      obtain ⟨KA, hKA⟩ : ∃ KA, s.A = KA := ⟨_, rfl⟩
      rw [hK, hKA] at hcall
      rw [hKA] at hc0
      have HKA := Lib.hid hKA
      have HK := Lib.hid hK
      clear hown hbw hchk hx hxm hups hxl hnx hbad hK hKA
      go_wp2_with fail
      refine hcall.out.mono ?_
      rintro _ w1 ⟨rfl, b1⟩
      have H1 := Lib.hid (And.intro (HO.out.2.1.trans (b1.mono HO.out.2.1.size)) (own_below HO.out.1 b1))
      clear b1 hcall hc0
      by_cases hK0 : K = 0
      case neg =>
        have t1 : (K != 0) = true := bne_iff_ne.2 hK0
        have hb := HO.out.2.2.2.2.2.2 (by rw [HK.out]; exact hK0)
        have hcl : consL (L.map Rw.l) = [] := by unfold consL; rw [if_neg (by rw [hb, HK.out]; exact hK0)]
        have hce : consE (L.map Rw.l) = K := by unfold consE; rw [if_neg (by rw [hb, HK.out]; exact hK0), hb, HK.out]
        have HR := Lib.hid (And.intro hcl hce)
        clear hK0 hb hcl hce
        go_wp2_with fail
        go_ret2
        exact ⟨none, 0, [], by rw [HR.out.2]; rfl, HR.out.1.symm, ⟨Lies.nil_, fun u hu => (by cases hu)⟩, fun u hu => (by cases hu), H1.out.1, loR_nil _⟩
      subst hK0
      go_wp2_with fail
      go_loopw [4, 23] (fun v4 v23 wi => ∃ j : Nat, v23 = .int .i64 (j : Int) ∧ j ≤ s.l.length ∧ wi.ownsRow w.heap.size 145 8 v4 (flatR (L.take k) ++ s.l.take j).length ((linesOf (flatR (L.take k) ++ s.l.take j)).flatMap (Ln.cells Up.cells)) ∧ Below w.heap.size w wi)
        (fun _ v23 _ => s.l.length - (intOf v23).toNat)
      case atStart => exact ⟨0, rfl, by omega, by rw [List.take_zero, List.append_nil]; exact H1.out.2, H1.out.1⟩
      case round =>
        obtain ⟨j, rfl, hj, hownj, hbj⟩ := hrel
        obtain ⟨wi, hwi⟩ : ∃ wi, wi = wr := ⟨_, rfl⟩
        subst hwi
        by_cases hjt : j < s.l.length
        · have hy : s.l[j]? = some s.l[j] := List.getElem?_eq_getElem hjt
          have hym := List.mem_of_getElem? hy
          generalize s.l[j] = u at *
          have hys0 := HO.out.2.2.2.2.1.head
          rw [HKA.out] at hys0
          obtain ⟨b', o', rfl, hB', hys⟩ := lies_up hys0 (by omega)
          obtain ⟨e0, e1, e2, e3, e4, e5⟩ := ((hys j u hy).past_ hbj hB').six
          obtain ⟨V, hV, hvb, hvs, hvo⟩ := upbox wi u
          have hin0 : UOk u := HL.out.2 s HO.out.2.2.2.1 u hym
          have hlen : (flatR (L.take k)).length + j ≤ (flatR L).length := flatR_len HO.out.2.2.1 (by omega)
          have hlj : (flatR (L.take k) ++ s.l.take j).length = (flatR (L.take k)).length + j := by rw [List.length_append, List.length_take]; omega
          have hln : (flatR (L.take k) ++ s.l.take j).length ≤ 1099511627776 := by omega
          have hof := fun W => Lib.hid (of_any u.d W hin0.dn.1 hin0.dn.2)
          have hrowV := own_below hownj hvb
          have hPne : u4.ownBlock ≠ some wi.heap.size := fun e => by have := (hownj.lt _ e).2; omega
          have hbV := hbj.trans (hvb.mono hbj.size)
          have htk : s.l.take (j + 1) = s.l.take j ++ [u] := by rw [List.take_add_one, hy]; rfl
          have HJ := Lib.hid (And.intro htk (And.intro hbV (And.intro hlen hlj)))
          have q3 : (0 : Int) ≤ (j : Int) := by omega
          have q4 : (j : Int) < (s.l.length : Int) := by omega
          have q5 : decide ((j : Int) < (s.l.length : Int)) = true := decide_eq_true q4
          generalize hflat : flatR (L.take k) ++ s.l.take j = us at *
          have HF := Lib.hid hflat
          clear hy hym hys hys0 hvb hvs hin0 hlen hlj hownj hbj hbV htk hflat
          go_upto_region 11 with fail
          rw [← hV]
          clear hV e0 e1 e2 e3 e4 e5
          obtain ⟨e0, e1, e2, e3, e4, e5⟩ := own6 hvo
          have HS := Lib.hid (fun W (h : Own W wi.heap.size 57 u.cells) => (own6 h : W.cell? ⟨wi.heap.size, 0, none⟩ = some (.slice u.kA u.key.length u.kc) ∧ W.cell? ⟨wi.heap.size, 1, none⟩ = some (.slice u.rA u.row.length u.rc) ∧ W.cell? ⟨wi.heap.size, 2, none⟩ = some (.int .u64 (u.t.e : Int)) ∧ W.cell? ⟨wi.heap.size, 3, none⟩ = some (.int .u64 (u.t.a : Int)) ∧ W.cell? ⟨wi.heap.size, 4, none⟩ = some (.int .u64 (u.t.b : Int)) ∧ W.cell? ⟨wi.heap.size, 5, none⟩ = some (.int .i64 u.d)))
          go_region_held3 (fun w' => Own w' wi.heap.size 57 u.cells ∧ (w'.cell? ⟨wi.heap.size, 0, none⟩ = some (.slice u.kA u.key.length u.kc) ∧ w'.cell? ⟨wi.heap.size, 1, none⟩ = some (.slice u.rA u.row.length u.rc) ∧ w'.cell? ⟨wi.heap.size, 2, none⟩ = some (.int .u64 (u.t.e : Int)) ∧ w'.cell? ⟨wi.heap.size, 3, none⟩ = some (.int .u64 (u.t.a : Int)) ∧ w'.cell? ⟨wi.heap.size, 4, none⟩ = some (.int .u64 (u.t.b : Int)) ∧ w'.cell? ⟨wi.heap.size, 5, none⟩ = some (.int .i64 u.d)))
            ((refine (fun h => And.intro h (HS.out _ h)) ?_; repeat (first | with_reducible exact ho9 | with_reducible exact ho8 | with_reducible exact hvo | with_reducible refine Own.more ?_ _ | with_reducible refine own_drew' ?_)))
            (first | (go_at_call 37; refine (hof _).out.mono ?_; rintro _ w2 ⟨rfl, b2⟩; have ho8 : Own w2 wi.heap.size 57 u.cells := (own_drew' hvo).past b2 hvo.inside; have hrow2 := own_below hrowV.drew b2; have hb8 := (HJ.out.2.1.drew).trans (b2.mono (HJ.out.2.1.drew).size)) | (refine step_append_lies (size := 8) (cells := Ln.cells Up.cells) (l := [(⟨u.d, u⟩ : Ln Up)]) (B := w2.heap.size + 1) _ rfl (.tmp 27) (.tmp 33) 143 145 rfl i0 _ 96 HI.out.1 HI.out.2.1 HI.out.2.2.1 HI.out.2.2.2.1 HI.out.2.2.2.2 rfl (by decide) (fun _ => rfl) lucells_one w.heap.size u4 us.length _ rfl (hrow2.alloc _) 1 w2.heap.size 0 (by simp [Act.eval, Act.put]) (ln_made _ _) (by unfold maxLen; simp; omega) (by simp; omega) (by simp; exact Nat.le_succ_of_le hb8.size) ?_; intro v3 w3 ho3 hb3 hv3 hg3; have ho9 : Own w3 wi.heap.size 57 u.cells := (hg3.block _ (by have := ho8.inside; simp; omega) (fun e => hPne e.symm)).trans (ho8.more _)))
          all_goals
            have H3 := Lib.hid (And.intro ho3 ((Below.alloc hb8 hb8.size _).trans hb3))
            clear ho3 hb3 hv3 hg3 ho9 ho8 hb8 hrow2 hrowV hPne HS hvo b2 hof e0 e1 e2 e3 e4 e5
            go_wp2_with fail
            go_roundw
            case rel =>
              refine ⟨j + 1, by go_num, by omega, ?_, H3.out.2⟩
              rw [HJ.out.1, ← List.append_assoc, HF.out, linesOf_snoc, List.flatMap_append, List.length_append]
              exact H3.out.1
            case measure => simp [intOf]; omega
        · have hj2 : j = s.l.length := by omega
          have q5 : decide ((j : Int) < (s.l.length : Int)) = false := decide_eq_false (by omega)
          rw [hj2, List.take_length] at hownj
          have HJ := Lib.hid (And.intro hownj hbj)
          clear hownj hbj hj2
          go_wp2_with fail
          go_roundw
          case rel =>
            refine ⟨k + 1, by go_num, by omega, ?_, HJ.out.2, by rw [HO.out.2.2.2.2.2.1, HK.out]⟩
            rw [flatR_take HO.out.2.2.1]
            exact HJ.out.1
          case measure => simp [intOf]; omega
    · have hk2 : k = L.length := by omega
      have q2 : decide ((k : Int) < (L.length : Int)) = false := decide_eq_false (by omega)
      rw [hk2, List.take_length] at hown
      rw [hk2, List.take_of_length_le (by rw [List.length_map]; exact Nat.le_refl _)] at hchk
      have hgood : ∀ u ∈ flatR L, chkU u = 0 ∧ UOk u ∧ UIn w w.heap.size u := fun u hu => by
        obtain ⟨s, hs, hus⟩ := List.mem_flatMap.1 hu
        exact ⟨chkUs_all.1 (chkLs_all.1 hchk s.l (List.mem_map_of_mem hs)) u hus, HL.out.2 s hs u hus, (HL.out.1.each_ s hs).each_ u hus⟩
      have hmem : ∀ x ∈ linesOf (flatR L), x.u ∈ flatR L ∧ x.S = x.u.d := fun x hx => by
        unfold linesOf at hx
        obtain ⟨u, hu, rfl⟩ := List.mem_map.1 hx
        exact ⟨hu, rfl⟩
      have hcall := (totalU_anyC u4 (flatR L).length w.heap.size (linesOf (flatR L)) wo (linesOf_len _).symm hown hbw.size (fun x hx => (hgood x.u (hmem x hx).1).2.2.past hbw (Nat.le_refl _)) (fun x hx => (hgood x.u (hmem x hx).1).2.1) (fun x hx => (hgood x.u (hmem x hx).1).1)
        (fun x hx => by rw [(hmem x hx).2]; exact (hgood x.u (hmem x hx).1).2.1.dn) hn)
      rw [linesOf_pL, flatR_flat] at hcall
      obtain ⟨E, hE⟩ : ∃ E, resE Uk.cmp ((L.map Rw.l).flatten.map Up.p) = E := ⟨_, rfl⟩
      obtain ⟨RL, hRL⟩ : ∃ RL, resL Uk.cmp ((L.map Rw.l).flatten.map Up.p) = RL := ⟨_, rfl⟩
      have hcall : Hid (Calls Tryz.prog 75 #[u4, .func (.func 76) #[] #[], .func (.func 77) #[] #[]] wo fun x w' => ∃ A c, ∃ outL : List Up, x = .returned (.tuple #[.slice A outL.length c, .int .i64 E]) ∧ outL.map Up.p = RL ∧ Ups w' w'.heap.size A outL ∧ (∀ u ∈ outL, UOk u) ∧ Below w.heap.size wo w' ∧ LoR w.heap.size A c outL) := by
        unfold TotSaysC at hcall
        rw [hE, hRL] at hcall
        exact Lib.hid hcall
      have hcl : consL (L.map Rw.l) = RL := by unfold consL; rw [if_pos hchk, hRL]
      have hce : consE (L.map Rw.l) = E := by unfold consE; rw [if_pos hchk, hE]
      have HC := Lib.hid (And.intro hcl (And.intro hce hbw))
      clear hown hchk hgood hmem hcl hce hbw hE hRL
      go_wp2_with fail
      refine hcall.out.mono ?_
      rintro _ w9 ⟨A', c', outL, rfl, k1, k2, k3, k4⟩
      have H9 := Lib.hid (And.intro k1 (And.intro k2 (And.intro k3 k4)))
      clear k1 k2 k3 k4 hcall
      go_wp2_with fail
      go_ret2
      exact ⟨A', c', outL, by rw [HC.out.2.1]; rfl, by rw [HC.out.1]; exact H9.out.1, H9.out.2.1, H9.out.2.2.1, HC.out.2.2.trans H9.out.2.2.2.1, H9.out.2.2.2.2⟩
end Go.Proofs.YtenjlhlighkenaaGreat
namespace Go.Proofs.YtenjlhlighkenaaGreat
open Go Go.RowKit

def BtOkC (b : Bt) : Prop := BtOk b ∧ b.l.length ≤ b.uc ∧ b.uc ≤ maxLen
theorem bt_nil_okC : BtOkC Bt.nil := ⟨bt_nil_ok, Nat.le_refl _, Nat.zero_le _⟩
def BuiltC (f : List Tm) (l : List Up) (w : World) (x : Ending) (w' : World) : Prop :=
  ∃ b : Bt, x = .returned (.tuple #[b.val, .int .i64 (bldE f l)]) ∧ (bldE f l = 0 → FrontOk f ∧ b.f = f ∧ b.l.map Up.p = consL [advL f l]) ∧ (bldE f l ≠ 0 → b = Bt.nil) ∧ BtIn w' w'.heap.size b ∧ BtOkC b ∧ BtLo w.heap.size b ∧ Below w.heap.size w w'
set_option maxRecDepth 100000 in
set_option maxHeartbeats 6400000 in
theorem build_anyC (A : Option Addr) (c : Nat) (f : List Tm) (A' : Option Addr) (c' : Nat) (L : List (Rw Up)) (w : World) (hf : Times w w.heap.size A f) (hfo : TsOk f c) (hl : ULs w w.heap.size A' L) (hok : ∀ s ∈ L, ∀ u ∈ s.l, UOk u) (hn : (flatR L).length ≤ 1099511627776) (hn2 : L.length ≤ 1099511627776) :
    Calls Tryz.prog 21 #[.slice A f.length c, .slice A' L.length c'] w (BuiltC f (flatR L) w) := by
  obtain ⟨W, hW, hWb, hWo⟩ : ∃ W, W = w.alloc (.cells #[.slice none 0 0, .slice none 0 0] 61) ∧ Below w.heap.size w W ∧ Own W w.heap.size 61 [.slice none 0 0, .slice none 0 0] :=
    ⟨_, rfl, (Below.refl _ _).alloc (Nat.le_refl _) _, Own.made w 61 [.slice none 0 0, .slice none 0 0]⟩
  have hfn : f.length ≤ 1099511627776 := hfo.n
  have y1 := Lib.hid (bfrontier_any A c f W ((hf.past hWb (Nat.le_refl _)).wide hWb.size) (by omega))
  have HL := Lib.hid (And.intro hf (And.intro hfo (And.intro hl hok)))
  have HW := Lib.hid (And.intro hWb hWo)
  obtain ⟨G, hG⟩ : ∃ G, G = w.heap.size := ⟨_, rfl⟩
  have HG := Lib.hid hG
  clear hf hfo hl hok hWb hWo
  go_enter Tryz.func21, Tryz.ntmps21
  go_upto_region 1 with fail
  rw [← hW, ← hG]
  clear hW hG
  go_wp2_with fail
  refine y1.out.mono ?_
  rintro _ w1 ⟨b, rfl, hb, b1⟩
  have h1 : Below w.heap.size w w1 := HW.out.1.trans (b1.mono HW.out.1.size)
  have ho1 := HW.out.2.past b1 HW.out.2.inside
  rw [← HG.out] at ho1
  cases b with
  | false =>
    have hne : ¬ (chk f = 0 ∧ frontL f = f) := fun h => by have := hb.2 h; cases this
    have he : bldE f (flatR L) = 4 := if_neg hne
    have f0 := ho1.open_ 0
    have f1 := ho1.open_ 1
    obtain ⟨d0, d1⟩ := own2 ho1
    have H1 := Lib.hid (And.intro h1 (And.intro ho1 he))
    clear h1 ho1 he hne hb b1 y1
    go_wp2_with fail
    have hX := ((H1.out.2.1.set_ 0 (.slice none 0 0)).set_ 1 (.slice none 0 0))
    obtain ⟨x0, x1⟩ := own2 hX
    have HB := Lib.hid ((H1.out.1.setCell (p := ⟨G, 0, none⟩) (Nat.le_of_eq HG.out.symm) (.slice none 0 0)).setCell (p := ⟨G, 1, none⟩) (Nat.le_of_eq HG.out.symm) (.slice none 0 0))
    have HE := Lib.hid H1.out.2.2
    clear hX f0 f1 d0 d1
    exact bodyPost_ret (v := .tuple #[.agg #[.slice none 0 0, .slice none 0 0], .int .i64 4]) (by simp [results, Tryz.results21, go_sem, x0, x1]) rfl ⟨Bt.nil, by rw [HE.out]; rfl, fun h => by rw [HE.out] at h; omega, fun _ => rfl, bt_nil_in _ _, bt_nil_okC, bt_nil_lo _, HB.out⟩
  | true =>
    have hfr : FrontOk f := hb.1 rfl
    have he : bldE f (flatR L) = consE [advL f (flatR L)] := if_pos hfr
    have y2 := Lib.hid (concatU_any A' c' L w1 ((HL.out.2.2.1.past h1 (Nat.le_refl _)).wide h1.size) hn hn2)
    have H1 := Lib.hid (And.intro h1 (And.intro ho1 (And.intro hfr he)))
    clear h1 ho1 hfr he hb b1 y1
    go_wp2_with fail
    refine y2.out.mono ?_
    rintro _ w2 ⟨v2, rfl, ho2, b2⟩
    obtain ⟨A2, c2, rfl, _, _, hl2⟩ := lies_of_own (size := 6) (cells := Up.cells) (l := flatR L) (by decide) ucells_len rfl ho2
    have h2 : Below w.heap.size w w2 := H1.out.1.trans (b2.mono H1.out.1.size)
    have hu2 : Ups w2 w2.heap.size A2 (flatR L) := ⟨hl2, fun u hu => by
      obtain ⟨s, hs, hu⟩ := List.mem_flatMap.1 hu
      exact ((HL.out.2.2.1.each_ s hs).each_ u hu).past h2 (Nat.le_refl _) |>.wide h2.size⟩
    have hok2 : ∀ u ∈ flatR L, UOk u := fun u hu => by
      obtain ⟨s, hs, hu⟩ := List.mem_flatMap.1 hu
      exact HL.out.2.2.2 s hs u hu
    have hf2 : Times w2 w2.heap.size A f := (HL.out.1.past h2 (Nat.le_refl _)).wide h2.size
    have y3 := Lib.hid (badvance_any A2 c2 (flatR L) A c f w2 hu2 hn hf2 HL.out.2.1)
    have H2 := Lib.hid (And.intro h2 (And.intro (H1.out.2.1.past b2 H1.out.2.1.inside) hok2))
    obtain ⟨l, hlE⟩ : ∃ l, flatR L = l := ⟨_, rfl⟩
    rw [hlE] at y3 H1 H2 hn ⊢
    have HLE := Lib.hid hlE
    clear ho2 hl2 b2 h2 hu2 hok2 hf2 y2 hlE
    go_wp2_with fail
    refine y3.out.mono ?_
    rintro _ w3 ⟨A3, rfl, hu3, _, b3⟩
    rw [← advL_len f l] at *
    obtain ⟨V, hV, hvb, hul⟩ := one_list w3 A3 (advL f l).length (advL f l) hu3
    have y4 := Lib.hid (consolidate_newC (some ⟨w3.heap.size, 0, none⟩) 1 _ V hul (fun s hs u hu => by
      obtain rfl : s = ⟨A3, (advL f l).length, advL f l⟩ := by simpa using hs
      exact advL_ok H2.out.2.2 u hu) (by simpa [flatR] using hn) (by simp))
    have h3 : Below w.heap.size w w3 := H2.out.1.trans (b3.mono H2.out.1.size)
    have hV' : Below w.heap.size w V := h3.trans (hvb.mono h3.size)
    have ho3 := (H2.out.2.1.past b3 H2.out.2.1.inside)
    have H3 := Lib.hid (And.intro hV' (ho3.past hvb ho3.inside))
    clear b3 hu3 hvb hul h3 hV' ho3 y3
    go_wp2_with fail
    rw [← hV]
    clear hV
    refine y4.out.mono ?_
    rintro _ w4 ⟨A4, c4, e, rfl, hp, hu4, ho4, b4, hlo⟩
    simp only [List.map_cons, List.map_nil] at hp
    simp only [List.map_cons, List.map_nil]
    have h4 : Below w.heap.size w w4 := H3.out.1.trans (b4.mono H3.out.1.size)
    have hoo := H3.out.2.past b4 H3.out.2.inside
    have hlen : e.length ≤ 1099511627776 := by
      have := consL_len [advL f l]
      rw [← hp, List.length_map] at this
      simp only [List.flatten_cons, List.flatten_nil, List.append_nil] at this
      omega
    obtain ⟨E, hE⟩ : ∃ E, consE [advL f l] = E := ⟨_, rfl⟩
    rw [hE]
    have hbe : bldE f l = E := H1.out.2.2.2.trans hE
    by_cases h0 : E = 0
    case neg =>
      have t1 : (E != 0) = true := bne_iff_ne.2 h0
      have f0 := hoo.open_ 0
      have f1 := hoo.open_ 1
      obtain ⟨d0, d1⟩ := own2 hoo
      have H4 := Lib.hid (And.intro h4 (And.intro hoo (And.intro hbe h0)))
      clear h4 hoo hbe h0 hE hp hu4 ho4 b4 hlo hlen y4
      go_wp2_with fail
      have hX := ((H4.out.2.1.set_ 0 (.slice none 0 0)).set_ 1 (.slice none 0 0))
      obtain ⟨x0, x1⟩ := own2 hX
      have HB := Lib.hid ((H4.out.1.setCell (p := ⟨G, 0, none⟩) (Nat.le_of_eq HG.out.symm) (.slice none 0 0)).setCell (p := ⟨G, 1, none⟩) (Nat.le_of_eq HG.out.symm) (.slice none 0 0))
      have HE := Lib.hid H4.out.2.2
      clear hX f0 f1 d0 d1
      exact bodyPost_ret (v := .tuple #[.agg #[.slice none 0 0, .slice none 0 0], .int .i64 E]) (by simp [results, Tryz.results21, go_sem, x0, x1]) rfl (by rw [HLE.out]; exact ⟨Bt.nil, by rw [HE.out.1]; rfl, fun h => absurd (HE.out.1.symm.trans h) HE.out.2, fun _ => rfl, bt_nil_in _ _, bt_nil_okC, bt_nil_lo _, HB.out⟩)
    subst h0
    have y5 := Lib.hid (listT_times A c f w4 ((HL.out.1.past h4 (Nat.le_refl _)).wide h4.size) (by omega))
    have H4 := Lib.hid (And.intro h4 (And.intro hoo (And.intro hbe (And.intro hp (And.intro hu4 (And.intro ho4 (And.intro hlo hlen)))))))
    clear h4 hoo hbe hE hp hu4 ho4 b4 hlo hlen y4
    go_wp2_with fail
    refine y5.out.mono ?_
    rintro _ w5 ⟨A5, rfl, ht5, hl5, b5⟩
    have h5 : Below w.heap.size w w5 := H4.out.1.trans (b5.mono H4.out.1.size)
    have ho5 := H4.out.2.1.past b5 H4.out.2.1.inside
    have f0 := ho5.open_ 0
    have f1 := ho5.open_ 1
    obtain ⟨d0, d1⟩ := own2 ho5
    have H5 := Lib.hid (And.intro h5 (And.intro ho5 (And.intro ht5 (And.intro hl5 (H4.out.2.2.2.2.1.keep b5)))))
    clear h5 ho5 ht5 hl5 b5 y5
    go_wp2_with fail
    have hX := ((H5.out.2.1.set_ 0 (.slice A5 f.length f.length)).set_ 1 (.slice A4 e.length c4))
    obtain ⟨x0, x1⟩ := own2 hX
    have HB := Lib.hid ((H5.out.1.setCell (p := ⟨G, 0, none⟩) (Nat.le_of_eq HG.out.symm) (.slice A5 f.length f.length)).setCell (p := ⟨G, 1, none⟩) (Nat.le_of_eq HG.out.symm) (.slice A4 e.length c4))
    clear hX f0 f1 d0 d1
    exact bodyPost_ret (v := .tuple #[.agg #[.slice A5 f.length f.length, .slice A4 e.length c4], .int .i64 0]) (by simp [results, Tryz.results21, go_sem, x0, x1]) rfl (by
      rw [HLE.out]
      have hs1 := H4.out.1.size
      have hs3 := H3.out.2.inside
      obtain ⟨s1, s2⟩ := set2_other w5 G (.slice A5 f.length f.length) (.slice A4 e.length c4)
      exact ⟨⟨A5, f.length, f, A4, c4, e⟩, by rw [H4.out.2.2.1]; rfl, fun _ => ⟨H1.out.2.2.1, rfl, H4.out.2.2.2.1⟩, fun h => absurd H4.out.2.2.1 h,
        ⟨times_other H5.out.2.2.1 (fun b o h => by have h1 := (H5.out.2.2.2.1 b o h).1; have h2 := H4.out.2.1.inside; omega) s1 s2, ups_other H5.out.2.2.2.2 (H4.out.2.2.2.2.2.2.1.1.mono hs3) s1 s2⟩,
        ⟨⟨⟨hfn, Nat.le_refl _, by show f.length ≤ maxLen; unfold maxLen; omega⟩, ⟨H4.out.2.2.2.2.2.2.2, H4.out.2.2.2.2.2.1⟩⟩, H4.out.2.2.2.2.2.2.1.2⟩, ⟨fun b o h => Nat.le_trans H4.out.1.size (H5.out.2.2.2.1 b o h).1, H4.out.2.2.2.2.2.2.1.1.mono H3.out.1.size⟩, HB.out⟩)
end Go.Proofs.YtenjlhlighkenaaGreat
namespace Go.Proofs.YtenjlhlighkenaaGreat
open Go Go.RowKit

def CollSC (f : List Tm) (l : List Up) (w : World) (x : Ending) (w' : World) : Prop :=
  ∃ b : Bt, x = .returned (.tuple #[.slice b.uA b.l.length b.uc, .int .i64 (bldE f l)]) ∧ (bldE f l = 0 → FrontOk f ∧ b.f = f ∧ b.l.map Up.p = consL [advL f l]) ∧ (bldE f l ≠ 0 → b = Bt.nil) ∧ BtIn w' w'.heap.size b ∧ BtOkC b ∧ BtLo w.heap.size b ∧ Below w.heap.size w w'
set_option maxRecDepth 100000 in
set_option maxHeartbeats 6400000 in
theorem collect_allC (s : Sp) (w : World) (hs : SpIn w w.heap.size s) (os : SpOk s) (hg : SpGood s.f s.L) (hn : (partsS s.L).length ≤ 1099511627776) :
    Calls Tryz.prog 31 #[s.val, .func (.func 32) #[] #[]] w (CollSC s.f (partsS s.L) w) := by
  obtain ⟨i0, hi, hz0, hz1, hz2⟩ := info_parts infoUl
  have HI := Lib.hid (And.intro Tryz.underlying68 (And.intro hi (And.intro hz0 (And.intro hz1 hz2))))
  obtain ⟨V, hV, hvb, hvs, hvo⟩ := spbox w s
  have hin := hs.keep hvb
  have H := Lib.hid (And.intro hin (And.intro os (And.intro hvb (And.intro hvo (And.intro hg hn)))))
  have hnL := os.n
  rw [show s.val = .agg #[.slice s.sA s.f.length s.sc, .slice s.lA s.L.length s.lc] from rfl]
  have hX := Lib.hid (fun W (hb : Below V.heap.size V W) => own2 (hvo.past hb hvo.inside))
  obtain ⟨d0, d1⟩ := own2 hvo
  have h0 := World.ownsRow_nil V V.heap.size 32 1
  clear hs os hvb hvs hvo hin hi hz0 hz1 hz2 hg hn
  go_enter Tryz.func31, Tryz.ntmps31
  go_upto_region 1 with fail
  rw [← hV]
  clear hV
  go_wp2_with fail
  go_loopw [6, 16] (fun v i wr => ∃ k : Nat, i = .int .i64 (k : Int) ∧ k ≤ s.L.length ∧ ClI V.heap.size (listsS (s.L.take k)) v wr ∧ Below V.heap.size V wr)
    (fun _ i _ => s.L.length - (intOf i).toNat)
  case atStart => exact ⟨0, rfl, by omega, ⟨h0⟩, Below.refl _ _⟩
  case round =>
    obtain ⟨k, rfl, hk, hown, hb⟩ := hrel
    by_cases hlt : k < s.L.length
    · obtain ⟨l, hl⟩ : ∃ l, s.L[k]? = some l := ⟨_, List.getElem?_eq_getElem hlt⟩
      obtain ⟨b, o, hA, hB, hc⟩ := lies_lv H.out.1.lev.head (by omega)
      obtain ⟨c0, c1, c2, c3, c4, c5, c6, c7, c8, c9⟩ := lv_ten fun j u hj => (hb.cell (p := ⟨b, o + k * 10 + j, none⟩) hB).trans (hc k l hl j u hj)
      have hlm := List.mem_of_getElem? hl
      have hli := ((H.out.1.lev.each_ l hlm).past hb (Nat.le_refl _)).wide hb.size
      have hlo := H.out.2.1.each_ l hlm
      obtain ⟨V5, hV5, hb5, hs5, ho5⟩ := lvbox wr l
      obtain ⟨e0, e1, e2, e3, e4, e5, e6, e7, e8, e9⟩ := own10 ho5
      have u1 := Lib.hid (parts_anyS l s.f V5 (hli.keep hb5) hlo (H.out.2.2.2.2.1.each l hlm) (H.out.2.2.2.2.1.pos l hlm))
      rw [show l.val = .agg #[.int .i64 l.cls, .bool l.busy, .slice l.b.sA l.b.f.length l.b.sc, .slice l.b.uA l.b.l.length l.b.uc, .slice l.m.aA l.m.a.length l.m.ac, .slice l.m.bA l.m.b.length l.m.bc, .int .i64 l.m.i, .int .i64 l.m.j, .slice l.m.sA l.m.f.length l.m.sc, .slice l.m.oA l.m.o.length l.m.oc] from rfl] at u1
      have hpl := partsR_len l
      have hll := listsS_len (s.L.take k)
      rw [List.length_take, Nat.min_eq_left (by omega)] at hll
      have htk := listsS_take hl
      have HA := Lib.hid hA
      have HK := Lib.hid (And.intro hown (And.intro hb (And.intro hb5 htk)))
      have q0 : (0 : Int) ≤ (k : Int) := by omega
      have q1 : (k : Int) < (s.L.length : Int) := by omega
      obtain ⟨d0, d1⟩ := hX.out wr hb
      clear hlm hli hlo hl hown hb hb5 htk hc
      go_upto_region 5 with fail
      rw [← hV5]
      clear hV5
      go_wp2_with fail
      refine u1.out.mono ?_
      rintro _ w1 ⟨G, rfl, hul, hG, hb1⟩
      have hpt := pt_start HK.out.1 (belows HK.out.2.2.1 hb1) hG HK.out.2.2.1.size hul (partsR_pos l)
      have hb1' := belows HK.out.2.1 (belows HK.out.2.2.1 hb1)
      have hown1 := cl_keep HK.out.1 (belows HK.out.2.2.1 hb1)
      have H1 := Lib.hid (And.intro hpt (And.intro hb1' hown1))
      have hpp := partsR_pos l
      clear hpt hb1' hown1 hul hG hb1
      clear u1 e0 e1 e2 e3 e4 e5 e6 e7 e8 e9 c0 c1 c2 c3 c4 c5 c6 c7 c8 c9 d0 d1
      go_wp2_with fail
      go_loopw [6, 23] (fun v i wi => ∃ j : Nat, i = .int .i64 (j : Int) ∧ j ≤ (partsR l).length ∧ ClI V.heap.size (listsS (s.L.take k) ++ (partsR l).take j) v wi ∧ PtI v G (partsR l) wi ∧ Below V.heap.size V wi)
        (fun _ i _ => (partsR l).length - (intOf i).toNat)
      case atStart => exact ⟨0, rfl, by omega, by simpa using H1.out.2.2, H1.out.1, H1.out.2.1⟩
      case round =>
        obtain ⟨j, rfl, hj, hown2, hp2, hb2⟩ := hrel
        by_cases hlt2 : j < (partsR l).length
        · obtain ⟨r, hr⟩ : ∃ r, (partsR l)[j]? = some r := ⟨_, List.getElem?_eq_getElem hlt2⟩
          have z0 := hp2.cells j r hr
          have z1 := z0
          rw [show j = 0 + j by omega] at z1
          have q2 : (0 : Int) ≤ (j : Int) := by omega
          have q3 : (j : Int) < ((partsR l).length : Int) := by omega
          have htj : (partsR l).take (j + 1) = (partsR l).take j ++ [r] := by rw [List.take_add_one, hr]; rfl
          have hlj : (listsS (s.L.take k) ++ (partsR l).take j).length ≤ 3 * k + 3 := by rw [List.length_append, List.length_take]; omega
          generalize hLs : listsS (s.L.take k) ++ (partsR l).take j = Ls at hown2 hlj
          have H2 := Lib.hid (And.intro hown2 (And.intro hp2 (And.intro hb2 (And.intro hLs htj))))
          clear hown2 hp2 hb2 hr hLs htj
          go_wp2_with fail
          refine (all1_any _ _).mono ?_
          rintro _ w2 ⟨rfl, b2⟩
          have hown3 := cl_keep H2.out.1 b2
          have hp3 := H2.out.2.1.keep b2
          have hb3 := belows H2.out.2.2.1 b2
          have H3 := Lib.hid (And.intro hown3 (And.intro hp3 hb3))
          clear b2 hown3 hp3 hb3 z0 z1
          go_wp2_with (at_builtin; refine wpList_push _ rfl _ _ 68 rfl V.heap.size 32 i0 _ 1 24 HI.out.1 HI.out.2.1 HI.out.2.2.1 HI.out.2.2.2.1 HI.out.2.2.2.2 rfl (by decide) _ _ _ rfl H3.out.1.own #[.slice r.A r.l.length r.c] rfl rfl ?k1 ?k2 ?k3 ?k4 ?_)
          case k1 => rfl
          case k2 => unfold maxLen; omega
          case k3 => omega
          case k4 => exact H3.out.2.2.size
          intro v4 w4 ho4 hb4 hv4 hg4
          have hp4 := H3.out.2.1.push hg4 hv4
          have hb5 := H3.out.2.2.trans hb4
          have ho5 : ClI V.heap.size (Ls ++ [r]) v4 w4 := cl_push ho4
          rw [← H2.out.2.2.2.1, List.append_assoc, ← H2.out.2.2.2.2] at ho5
          have H4 := Lib.hid (And.intro ho5 (And.intro hp4 hb5))
          clear ho4 hb4 hv4 hg4 hp4 hb5 ho5
          go_wp2_with fail
          go_roundw
          case rel => exact ⟨j + 1, by go_num, by omega, H4.out.1, H4.out.2.1, H4.out.2.2⟩
          case measure => simp [intOf]; omega
        · have hj2 : j = (partsR l).length := by omega
          subst hj2
          rw [List.take_length, ← HK.out.2.2.2] at hown2
          have H2 := Lib.hid (And.intro hown2 hb2)
          clear hown2 hb2 hp2
          go_wp2_with fail
          clear hA
          rw [← HA.out]
          go_roundw
          case rel =>
            exact ⟨k + 1, by go_num, by omega, H2.out.1, H2.out.2⟩
          case measure => simp [intOf]; omega
    · have hk2 : k = s.L.length := by omega
      subst hk2
      rw [List.take_length] at hown
      have hll := listsS_len s.L
      obtain ⟨A7, k7, hv7, _, _, hl7⟩ := lies_of_own (l := listsS s.L) (by decide) rwcell_len rfl hown.own
      subst hv7
      obtain ⟨d0, d1⟩ := hX.out wr hb
      have hul : ULs wr wr.heap.size A7 (listsS s.L) := ⟨hl7, fun r hr => by
        obtain ⟨l, hl, hrl⟩ := List.mem_flatMap.1 hr
        exact ((partsR_in (H.out.1.lev.each_ l hl) (H.out.2.1.each_ l hl) r hrl).past hb (Nat.le_refl _)).wide hb.size⟩
      have u1 := Lib.hid (build_anyC s.sA s.sc s.f A7 k7 (listsS s.L) wr ((H.out.1.since.past hb (Nat.le_refl _)).wide hb.size) H.out.2.1.f hul (fun r hr => by
        obtain ⟨l, hl, hrl⟩ := List.mem_flatMap.1 hr
        exact partsR_uok (H.out.2.1.each_ l hl) r hrl) (by rw [listsS_flat]; exact H.out.2.2.2.2.2) (by omega))
      rw [listsS_flat] at u1
      have HH := Lib.hid hb
      clear hb hown hl7 hul
      go_wp2_with fail
      refine u1.out.mono ?_
      rintro _ w1 ⟨bt, rfl, h1, h2, h3, h4, h5, h6⟩
      have hbx := HH.out
      have H1 := Lib.hid (And.intro h1 (And.intro h2 (And.intro h3 (And.intro h4 (And.intro h5 h6)))))
      clear h1 h2 h3 h4 h5 h6 u1
      rw [show bt.val = .agg #[.slice bt.sA bt.f.length bt.sc, .slice bt.uA bt.l.length bt.uc] from rfl]
      go_wp2_with fail
      exact bodyPost_ret (v := .tuple #[.slice bt.uA bt.l.length bt.uc, .int .i64 (bldE s.f (partsS s.L))]) (by simp [results, Tryz.results31, go_sem]) rfl ⟨bt, rfl, H1.out.1, H1.out.2.1, H1.out.2.2.1.keep ((Below.refl _ _).alloc (Nat.le_refl _) _), H1.out.2.2.2.1, H1.out.2.2.2.2.1.mono (belows H.out.2.2.1 hbx).size, belows (belows H.out.2.2.1 (belows hbx H1.out.2.2.2.2.2)) ((Below.refl _ _).alloc (Nat.le_refl _) _)⟩
end Go.Proofs.YtenjlhlighkenaaGreat
namespace Go.Proofs.YtenjlhlighkenaaGreat
open Go Go.RowKit

def AllSC (s : Sp) (w : World) (x : Ending) (w' : World) : Prop :=
  ∃ (b : Bt) (e : Int), x = .returned (.tuple #[.slice b.uA b.l.length b.uc, .int .i64 e]) ∧ ((¬ SpGood s.f s.L ∧ e = 8 ∧ b = Bt.nil) ∨ (SpGood s.f s.L ∧ e = bldE s.f (partsS s.L) ∧ (e = 0 → b.l.map Up.p = consL [advL s.f (partsS s.L)]) ∧ (e ≠ 0 → b = Bt.nil))) ∧ BtIn w' w'.heap.size b ∧ BtOkC b ∧ BtLo w.heap.size b ∧ Below w.heap.size w w'
set_option maxRecDepth 100000 in
set_option maxHeartbeats 6400000 in
theorem all_anyC (s : Sp) (w : World) (hs : SpIn w w.heap.size s) (os : SpOk s) (hn : (partsS s.L).length ≤ 1099511627776) :
    Calls Tryz.prog 13 #[s.val] w (AllSC s w) := by
  obtain ⟨V, hV, hvb, hvs, hvo⟩ := spbox w s
  have hin := hs.keep hvb
  have u1 := Lib.hid (scheck_any s V hin os)
  have H := Lib.hid (And.intro hin (And.intro os (And.intro hvb (And.intro hvo hn))))
  obtain ⟨d0, d1⟩ := own2 hvo
  rw [show s.val = .agg #[.slice s.sA s.f.length s.sc, .slice s.lA s.L.length s.lc] from rfl] at u1 ⊢
  have HP := Lib.hid (show ∀ (b : Bt) e w', ((¬ SpGood s.f s.L ∧ e = 8 ∧ b = Bt.nil) ∨ (SpGood s.f s.L ∧ e = bldE s.f (partsS s.L) ∧ (e = 0 → b.l.map Up.p = consL [advL s.f (partsS s.L)]) ∧ (e ≠ 0 → b = Bt.nil))) → BtIn w' w'.heap.size b → BtOkC b → BtLo w.heap.size b → Below w.heap.size w w' → AllSC s w (.returned (.tuple #[.slice b.uA b.l.length b.uc, .int .i64 e])) w' from fun b e w' h1 h2 h3 h4 h5 => ⟨b, e, rfl, h1, h2, h3, h4, h5⟩)
  clear hs os hvb hvs hvo hin hn
  go_enter Tryz.func13, Tryz.ntmps13
  go_upto_region 1 with fail
  rw [← hV]
  clear hV
  go_wp2_with fail
  refine u1.out.mono ?_
  rintro _ w1 ⟨e, rfl, he, b1⟩
  have H1 := Lib.hid (And.intro b1 he)
  clear u1
  obtain ⟨d0, d1⟩ := own2 (H.out.2.2.2.1.past b1 H.out.2.2.2.1.inside)
  by_cases h0 : e = 0
  · have hg : SpGood s.f s.L := by
      rcases he with ⟨h, _⟩ | ⟨_, h⟩
      · exact h
      · omega
    have u2 := Lib.hid (collect_allC s w1 (H.out.1.keep b1) H.out.2.1 hg H.out.2.2.2.2)
    rw [show s.val = .agg #[.slice s.sA s.f.length s.sc, .slice s.lA s.L.length s.lc] from rfl] at u2
    have HG := Lib.hid hg
    have t1 : (e != 0) = false := by simp [h0]
    clear he b1 hg h0
    go_wp2_with fail
    refine u2.out.mono ?_
    rintro _ w2 ⟨b, rfl, h1, h2, h3, h4, h5, h6⟩
    have H2 := Lib.hid (And.intro h1 (And.intro h2 (And.intro h3 (And.intro h4 (And.intro h5 h6)))))
    clear h1 h2 h3 h4 h5 h6 u2
    go_wp2_with fail
    exact bodyPost_ret (v := .tuple #[.slice b.uA b.l.length b.uc, .int .i64 (bldE s.f (partsS s.L))]) (by simp [results, Tryz.results13, go_sem]) rfl (HP.out b _ _ (.inr ⟨HG.out, rfl, fun h => (H2.out.1 h).2.2, H2.out.2.1⟩) H2.out.2.2.1 H2.out.2.2.2.1 (H2.out.2.2.2.2.1.mono (belows H.out.2.2.1 H1.out.1).size) (belows H.out.2.2.1 (belows H1.out.1 H2.out.2.2.2.2.2)))
  · have hg : ¬ SpGood s.f s.L ∧ e = 8 := by
      rcases he with ⟨_, h⟩ | h
      · exact absurd h h0
      · exact h
    have t1 : (e != 0) = true := bne_iff_ne.2 h0
    have HG := Lib.hid hg
    clear he b1 hg h0
    go_wp2_with fail
    exact bodyPost_ret (v := .tuple #[.slice none 0 0, .int .i64 e]) (by simp [results, Tryz.results13, go_sem]) rfl (HP.out Bt.nil e _ (.inl ⟨HG.out.1, HG.out.2, rfl⟩) (bt_nil_in _ _) bt_nil_okC (bt_nil_lo _) (belows H.out.2.2.1 H1.out.1))
end Go.Proofs.YtenjlhlighkenaaGreat
namespace Go.Proofs.YtenjlhlighkenaaGreat
open Go Go.RowKit

theorem take_same {l m : List Tm} {s t : Tm} {k : Nat} (h : l[k]? = some s) (h' : m[k]? = some t) (he : l.take k = m.take k) (hst : s = t) : l.take (k + 1) = m.take (k + 1) := by
  rw [List.take_add_one, List.take_add_one, h, h', he, hst]

end Go.Proofs.YtenjlhlighkenaaGreat
namespace Go.Proofs.YtenjlhlighkenaaGreat
open Go Go.RowKit

theorem two_bt (w : World) (a b : Bt) : ∃ V, V = (w.alloc (.cells #[.slice a.sA a.f.length a.sc, .slice a.uA a.l.length a.uc] 61)).alloc (.cells #[.slice b.sA b.f.length b.sc, .slice b.uA b.l.length b.uc] 61) ∧ Below w.heap.size w V ∧ Own V w.heap.size 61 a.cells ∧ Own V (w.heap.size + 1) 61 b.cells := by
  obtain ⟨V1, e1, b1, s1, o1⟩ := btbox w a
  obtain ⟨V2, e2, b2, s2, o2⟩ := btbox V1 b
  exact ⟨V2, by rw [e2, e1], b1.trans (b2.mono b1.size), o1.past b2 o1.inside, by rw [← s1]; exact o2⟩
theorem sameups_yes (A A' : Option Addr) (c c' : Nat) (l m : List Up) (w : World) (hl : Ups w w.heap.size A l) (hm : Ups w w.heap.size A' m) (ol : UsOk l) (om : UsOk m) (h : l.map Up.p = m.map Up.p) :
    Calls Tryz.prog 18 #[.slice A l.length c, .slice A' m.length c'] w fun x w' => x = .returned (.bool true) ∧ Below w.heap.size w w' :=
  (sameU_any A A' c c' l m w hl hm ol.ok om.ok ol.n om.n).mono fun x w' ⟨b, h1, h2, h3⟩ => ⟨by rw [h1, h2.2 h], h3⟩
/-- Build of one list -/
theorem build_one (A : Option Addr) (c : Nat) (f : List Tm) (A1 A' : Option Addr) (c' : Nat) (l : List Up) (w : World) (hf : Times w w.heap.size A f) (hfo : TsOk f c) (hl : ULs w w.heap.size A1 [⟨A', c', l⟩]) (ol : UsOk l) :
    Calls Tryz.prog 21 #[.slice A f.length c, .slice A1 1 1] w (Built f l w) := by
  have he : flatR [(⟨A', c', l⟩ : Rw Up)] = l := by simp [flatR]
  have := build_any A c f A1 1 [⟨A', c', l⟩] w hf hfo hl (fun s hs u hu => by
    obtain rfl : s = ⟨A', c', l⟩ := by simpa using hs
    exact ol.ok u hu) (by rw [he]; exact ol.n) (by simp)
  rw [he] at this
  exact this
theorem built_ok {f : List Tm} {l : List Up} (h : bldE f l = 0) : FrontOk f ∧ consE [advL f l] = 0 := by
  unfold bldE at h
  split at h
  · exact ⟨by assumption, h⟩
  · exact absurd h (by decide)
theorem bld_ok {f : List Tm} {l : List Up} (h : FrontOk f) (h' : consE [advL f l] = 0) : bldE f l = 0 := (if_pos h).trans h'
end Go.Proofs.YtenjlhlighkenaaGreat
namespace Go.Proofs.YtenjlhlighkenaaGreat
open Go Go.RowKit

/-- a key's group, as it is asked for, is that part of all -/
theorem grp_fact {s : Sp} {l : List Up} {u : Up} {k : Nat} {b : Bt} {e : Int} (hg : SpGood s.f s.L) (h0 : consE [advL s.f (partsS s.L)] = 0) (hl : l.map Up.p = consL [advL s.f (partsS s.L)]) (hu : l[k]? = some u) (hs : seekB l u.key = k)
    (hr : (¬ SpGood s.f s.L ∧ e = 8 ∧ b = Bt.nil) ∨ (SpGood s.f s.L ∧ e = bldE s.f (partsK u.key s.L) ∧ (e = 0 → b.l.map Up.p = consL [advL s.f (partsK u.key s.L)]) ∧ (e ≠ 0 → b = Bt.nil))) :
    e = 0 ∧ 0 < b.l.length ∧ k + b.l.length ≤ l.length ∧ ((l.drop k).take b.l.length).map Up.p = b.l.map Up.p ∧ ∀ v, l[k + b.l.length]? = some v → seekB l v.key = k + b.l.length := by
  have hk : KeysUp l := even_keys (cons_even h0 hl)
  rcases hr with ⟨h, _⟩ | ⟨_, he, h1, _⟩
  · exact absurd hg h
  rw [partsK_eq u.key hg.each] at he h1
  obtain ⟨g1, g2⟩ := group_all u.key h0 hl
  have hE : e = 0 := by
    rw [he]
    unfold bldE
    rw [if_pos (show chk s.f = 0 ∧ frontL s.f = s.f from hg.front)]
    exact g1
  have hb : b.l.map Up.p = (groupB l u.key).map Up.p := by
    have h2 := h1 hE
    have h3 : (partsS s.L).filter (fun x => decide (cmpRows x.key u.key = 0)) = ofKey u.key (partsS s.L) := rfl
    rw [h3, g2, ofKey_group hk] at h2
    exact h2
  have hlen := len_p hb
  have hp := group_pos hu hs
  have hle := group_len l u.key
  rw [hs] at hle
  have htk := group_takes l u.key
  rw [hs] at htk
  refine ⟨hE, by omega, by omega, by rw [hlen, htk, hb], fun v hv => ?_⟩
  rw [hlen] at hv ⊢
  exact group_next hk hu hs hv
set_option maxRecDepth 100000 in
set_option maxHeartbeats 12800000 in
theorem groups_walk (s : Sp) (fuel : Int) (w : World) (hs : SpIn w w.heap.size s) (ok : SpOk s) (sh : ∀ l ∈ s.L, LvRm l) (hw : wtS s.L ≤ 1048576) (hf1 : -9223372036854775808 ≤ fuel) (hf2 : fuel ≤ 9223372036854775807) :
    Calls Tryz.prog 4 #[s.val, .int .i64 fuel] w fun e w' => e = .returned (.bool true) ∧ Below w.heap.size w w' := by
  obtain ⟨V, hV, hvb, hvs, hvo⟩ := spbox w s
  have y0 := Lib.hid (slives_true V)
  have H := Lib.hid (And.intro (hs.keep hvb) (And.intro ok (And.intro hw (And.intro hvb (And.intro hvo (And.intro sh (And.intro hf1 hf2)))))))
  rw [show s.val = .agg #[.slice s.sA s.f.length s.sc, .slice s.lA s.L.length s.lc] from rfl]
  clear hs ok hw hvb hvs hvo sh hf1 hf2
  go_enter Tryz.func4, Tryz.ntmps4
  go_upto_region 1 with fail
  rw [← hV]
  clear hV
  go_wp2_with fail
  refine y0.out.mono ?_
  rintro _ w1 ⟨rfl, b1⟩
  have hin1 := H.out.1.keep b1
  have hpw := parts_wt s.L
  have y1 := Lib.hid (all_anyC s w1 hin1 H.out.2.1 (by have := H.out.2.2.1; omega))
  rw [show s.val = .agg #[.slice s.sA s.f.length s.sc, .slice s.lA s.L.length s.lc] from rfl] at y1
  have H1 := Lib.hid (And.intro hin1 (And.intro (belows H.out.2.2.2.1 b1) (H.out.2.2.2.2.1.past b1 H.out.2.2.2.2.1.inside)))
  obtain ⟨d0, d1⟩ := own2 H1.out.2.2
  clear b1 y0 hin1
  go_wp2_with fail
  refine y1.out.mono ?_
  rintro _ w2 ⟨b, e, rfl, hres, ib, ob, lb, b2⟩
  by_cases h0 : e = 0
  case neg =>
    have hb : b = Bt.nil := by
      rcases hres with ⟨_, _, h⟩ | ⟨_, _, _, h⟩
      · exact h
      · exact h h0
    subst hb
    have t1 : (e != 0) = true := bne_iff_ne.2 h0
    have HZ := Lib.hid (belows H1.out.2.1 b2)
    clear h0 hres ib ob lb b2 y1 d0 d1
    dsimp only [Bt.nil, List.length_nil]
    go_wp2_with fail
    go_ret
    exact ⟨rfl, HZ.out⟩
  subst h0
  have hgd : SpGood s.f s.L ∧ consE [advL s.f (partsS s.L)] = 0 ∧ b.l.map Up.p = consL [advL s.f (partsS s.L)] := by
    rcases hres with ⟨_, h, _⟩ | ⟨hg, he, h1, _⟩
    · exact absurd h (by decide)
    · refine ⟨hg, ?_, h1 rfl⟩
      unfold bldE at he
      rw [if_pos (show chk s.f = 0 ∧ frontL s.f = s.f from hg.front)] at he
      exact he.symm
  have HG := Lib.hid hgd
  have hk : KeysUp b.l := even_keys (cons_even hgd.2.1 hgd.2.2)
  have H2 := Lib.hid (And.intro ib (And.intro ob (And.intro (belows H1.out.2.1 b2) (And.intro (H1.out.2.2.past b2 H1.out.2.2.inside) (And.intro hk (H1.out.1.keep b2))))))
  have hln := ob.1.l.n
  have hcp := ob.2.1
  have hcm := ob.2.2
  clear hres ib ob lb b2 y1 d0 d1 hgd hk
  go_wp2_with fail
  go_loopw [7] (fun v7 wr => ∃ k : Nat, v7 = .int .i64 (k : Int) ∧ k ≤ b.l.length ∧ (∀ u, b.l[k]? = some u → seekB b.l u.key = k) ∧ Below w2.heap.size w2 wr)
    (fun v _ => b.l.length - (intOf v).toNat)
  case atStart => exact ⟨0, rfl, Nat.zero_le _, fun u hu => seek_zero H2.out.2.2.2.2.1 hu, Below.refl _ _⟩
  case round =>
    obtain ⟨k, rfl, hkl, hsk, hb⟩ := hrel
    by_cases hlt : k < b.l.length
    · obtain ⟨u, hu⟩ : ∃ u, b.l[k]? = some u := ⟨_, List.getElem?_eq_getElem hlt⟩
      obtain ⟨bb, o, hA, hB, hc⟩ := lies_up H2.out.1.ups.head (by omega)
      have hum := List.mem_of_getElem? hu
      have ibr := H2.out.1.ups.keep hb
      have huw := ibr.each_ u hum
      have huo := H2.out.2.1.1.l.ok u hum
      have c0 : wr.cell? ⟨bb, o + k * 6, none⟩ = some (.slice u.kA u.key.length u.kc) := by
        have := (hb.cell (p := ⟨bb, o + k * 6 + 0, none⟩) hB).trans (hc k u hu 0 _ rfl)
        exact this
      have oP := H2.out.2.2.2.1.past hb H2.out.2.2.2.1.inside
      have hinr := H2.out.2.2.2.2.2.keep hb
      have y3 := Lib.hid (show ∀ X, Bw wr X → Calls Tryz.prog 17 #[.agg #[.slice s.sA s.f.length s.sc, .slice s.lA s.L.length s.lc], .slice u.kA u.key.length u.kc] X (GroupS s u.key X) from fun X hX => by
        have hp := H.out.2.2.1
        exact group_sp s u.kA u.kc u.key X (hinr.keep hX) H.out.2.1 H.out.2.2.2.2.2.1 (by omega) ((huw.key.past hX (Nat.le_refl _)).wide hX.size) (Nat.le_trans huo.kn (by unfold maxLen; omega)))
      have HS := Lib.hid (fun X (hX : Bw wr X) => And.intro (own2 (oP.past hX oP.inside)) ((hX.cell (p := ⟨bb, o + k * 6, none⟩) (Nat.lt_of_lt_of_le hB hb.size)).trans c0))
      have HK := Lib.hid (And.intro hb (And.intro (hsk u hu) (And.intro hu (And.intro hA (And.intro oP hinr)))))
      have hself := Bw.self wr
      have q0 : (0 : Int) ≤ (k : Int) := by omega
      have q1 : (k : Int) < (b.l.length : Int) := by omega
      rw [hA]
      clear hkl hsk hum ibr huw huo oP hinr hc hb hu hA hB
      go_upto_region 8 with fail
      go_region_held3 (fun w' => Bw wr w' ∧ ((w'.cell? ⟨w.heap.size, 0, none⟩ = some (.slice s.sA s.f.length s.sc) ∧ w'.cell? ⟨w.heap.size, 1, none⟩ = some (.slice s.lA s.L.length s.lc)) ∧ w'.cell? ⟨bb, o + k * 6, none⟩ = some (.slice u.kA u.key.length u.kc)))
        ((refine (fun h => And.intro h (HS.out _ h)) ?_; first | with_reducible exact hself | with_reducible exact hself.drew | with_reducible exact hb3))
        ((go_at_call 17; refine (y3.out _ hself.drew).mono ?_; rintro _ w3 ⟨b3, e3, rfl, r3, i3, o3, bb3⟩; have hb3 : Bw wr w3 := Bw.call hself.drew bb3))
      have hf := grp_fact HG.out.1 HG.out.2.1 HG.out.2.2 HK.out.2.2.1 HK.out.2.1 r3
      have HF := Lib.hid hf
      obtain ⟨rfl, hm0, hm1, _, _⟩ := hf
      have ib3 := H2.out.1.ups.keep (belows HK.out.1 hb3)
      have hA := HK.out.2.2.2.1
      have hsub : Ups w3 w3.heap.size (some ⟨bb, o + k * 6, none⟩) ((b.l.drop k).take b3.l.length) := by
        have h1 := ib3.head
        rw [hA] at h1
        have h2 := lies_dropQ (q := k) h1
        refine ⟨fun hp => ?_, fun x hx => ib3.each_ x (List.mem_of_mem_drop (List.mem_of_mem_take hx))⟩
        obtain ⟨b', o', e', hb', hc'⟩ := h2 (by rw [List.length_take] at hp; omega)
        refine ⟨b', o', e', hb', fun i x hi j v hj => hc' i x ?_ j v hj⟩
        have hlt' := (List.getElem?_eq_some_iff.1 hi).1
        rw [List.length_take] at hlt'
        rwa [List.getElem?_take_of_lt (by omega)] at hi
      have hsok : UsOk ((b.l.drop k).take b3.l.length) := ⟨by rw [List.length_take, List.length_drop]; omega, fun x hx => H2.out.2.1.1.l.ok x (List.mem_of_mem_drop (List.mem_of_mem_take hx))⟩
      have hslen : ((b.l.drop k).take b3.l.length).length = b3.l.length := by rw [List.length_take, List.length_drop]; omega
      have y4 := Lib.hid (fun c => sameups_yes (some ⟨bb, o + k * 6, none⟩) b3.uA c b3.uc _ _ w3 hsub i3.ups hsok o3.l HF.out.2.2.2.1)
      rw [hslen] at y4
      have t1 : ((b3.l.length : Int) == 0) = false := beq_eq_false_iff_ne.2 (by omega)
      have t2 : decide ((b.l.length : Int) < (k : Int) + (b3.l.length : Int)) = false := decide_eq_false (by omega)
      have q3 : IntKind.i64.wrap ((k : Int) + (b3.l.length : Int)) = (k : Int) + (b3.l.length : Int) := by rw [IntKind.wrap_i64]; omega
      have p1 : (k : Int) ≤ (k : Int) + (b3.l.length : Int) := by omega
      have p2 : (k : Int) + (b3.l.length : Int) ≤ (b.uc : Int) := by omega
      have H3 := Lib.hid (And.intro hb3 (And.intro hm1 hm0))
      clear r3 i3 o3 bb3 ib3 hA hsub hsok hslen hm1 hm0 c0 y3 hself hb3
      go_wp2_with fail
      refine (y4.out _).mono ?_
      rintro _ w4 ⟨rfl, b4⟩
      have HE := Lib.hid (belows HK.out.1 (belows H3.out.1 b4))
      clear b4 y4 t1 t2
      go_wp2_with fail
      go_roundw
      case rel => exact ⟨k + b3.l.length, by go_num, H3.out.2.1, HF.out.2.2.2.2, HE.out⟩
      case measure => have := H3.out.2.2; simp [intOf]; omega
    · obtain rfl : k = b.l.length := by omega
      have hinr := H2.out.2.2.2.2.2.keep hb
      have oP := H2.out.2.2.2.1.past hb H2.out.2.2.2.1.inside
      obtain ⟨d0, d1⟩ := own2 oP
      have y5 := Lib.hid (work_sp s fuel wr hinr H.out.2.1 (by have := H.out.2.2.1; omega) H.out.2.2.2.2.2.2.1 H.out.2.2.2.2.2.2.2)
      rw [show s.val = .agg #[.slice s.sA s.f.length s.sc, .slice s.lA s.L.length s.lc] from rfl] at y5
      have HB := Lib.hid hb
      clear hsk hb hinr oP hkl
      go_wp2_with fail
      refine y5.out.mono ?_
      rintro _ w5 ⟨s2, c, E, rfl, hres, i2, o2, lo2, b5⟩
      obtain ⟨V6, hV6, hb6, hs6, ho6⟩ := spbox w5 s2
      have b06 := belows b5 hb6
      have HW := Lib.hid (And.intro hres (And.intro (i2.keep hb6) (And.intro o2 (And.intro ho6 (belows HB.out b06)))))
      rw [show s2.val = .agg #[.slice s2.sA s2.f.length s2.sc, .slice s2.lA s2.L.length s2.lc] from rfl]
      obtain ⟨e0, e1⟩ := own2 ho6
      clear hres i2 o2 lo2 b5 hb6 hs6 ho6 b06 y5 d0 d1
      go_upto_region 13 with fail
      rw [← hV6]
      clear hV6
      by_cases hE : E = 0
      case neg =>
        have hE10 : E = 10 := by
          rcases HW.out.1 with ⟨h1, _⟩ | ⟨_, _, h1 | h1⟩
          · exact absurd HG.out.1 h1
          · exact absurd h1.1 hE
          · exact h1.1
        subst hE10
        have HZ := Lib.hid (belows H2.out.2.2.1 HW.out.2.2.2.2)
        clear hE
        go_wp2_with fail
        go_ret
        exact ⟨rfl, HZ.out⟩
      case pos =>
        subst hE
        have hfin : s2.f = s.f ∧ WkFin s.f s.L fuel s2.L c := by
          rcases HW.out.1 with ⟨h1, _⟩ | ⟨_, h2, h1 | h1⟩
          · exact absurd HG.out.1 h1
          · exact ⟨h2, h1.2⟩
          · exact absurd h1.1 (by decide)
        have hp2 := parts_wt s2.L
        have hw2 := hfin.2.wt
        have hw1 := H.out.2.2.1
        have y6 := Lib.hid (all_anyC s2 V6 HW.out.2.1 HW.out.2.2.1 (by omega))
        rw [show s2.val = .agg #[.slice s2.sA s2.f.length s2.sc, .slice s2.lA s2.L.length s2.lc] from rfl] at y6
        have HF := Lib.hid hfin
        clear hfin hp2 hw2 hw1
        go_wp2_with fail
        refine y6.out.mono ?_
        rintro _ w7 ⟨b7, e7, rfl, hr7, i7, o7, lo7, b7w⟩
        have hq := HF.out.2.eq.cons HG.out.1.front.right
        have hg2 : SpGood s2.f s2.L := by rw [HF.out.1]; exact HF.out.2.good
        have hh : e7 = 0 ∧ b.l.map Up.p = b7.l.map Up.p := by
          rcases hr7 with ⟨h1, _⟩ | ⟨_, h1, h2, _⟩
          · exact absurd hg2 h1
          · have h0 : e7 = 0 := by
              rw [h1, HF.out.1]
              unfold bldE
              rw [if_pos (show chk s.f = 0 ∧ frontL s.f = s.f from HG.out.1.front), hq.2]
              exact HG.out.2.1
            exact ⟨h0, by rw [h2 h0, HF.out.1, hq.1]; exact HG.out.2.2⟩
        obtain ⟨rfl, hsame⟩ := hh
        have y7 := Lib.hid (sameups_yes b.uA b7.uA b.uc b7.uc b.l b7.l w7 (H2.out.1.ups.keep (belows HW.out.2.2.2.2 b7w)) i7.ups H2.out.2.1.1.l o7.1.l hsame)
        have HZ := Lib.hid (belows HW.out.2.2.2.2 b7w)
        clear hr7 i7 o7 lo7 b7w hq hg2 hsame y6 e0 e1
        go_wp2_with fail
        refine y7.out.mono ?_
        rintro _ w8 ⟨rfl, b8⟩
        have HZ2 := Lib.hid (belows H2.out.2.2.1 (belows HZ.out b8))
        clear b8 y7
        go_wp2_with fail
        go_ret
        exact ⟨rfl, HZ2.out⟩
end Go.Proofs.YtenjlhlighkenaaGreat
namespace Go.Proofs.YtenjlhlighkenaaGreat
open Go Go.RowKit

theorem groups_law (s : Sp) (fuel : Int) (w : World) (hs : SpIn w w.heap.size s) (ok : SpOk s ∧ ∀ l ∈ s.L, LvSh l) (hw : wtS s.L ≤ 1048576) (hf1 : -9223372036854775808 ≤ fuel) (hf2 : fuel ≤ 9223372036854775807) (_ : 0 ≤ 1048576) :
    Calls Tryz.prog 4 #[s.val, .int .i64 fuel] w fun e w' => e = .returned (.bool true) ∧ Below w.heap.size w w' := groups_walk s fuel w hs ok.1 (fun l hl => ⟨(ok.2 l hl).le, (ok.2 l hl).uc, (ok.2 l hl).ole, (ok.2 l hl).oc⟩) hw hf1 hf2
end Go.Proofs.YtenjlhlighkenaaGreat
