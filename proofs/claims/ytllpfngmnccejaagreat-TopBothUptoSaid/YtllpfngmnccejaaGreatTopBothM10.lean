/- Part 10 of the texts on which TopBoth rests: facts and contracts. -/
import Derived.Test.YtllpfngmnccejaaGreatTopBothM9
import Derived.Laws.Cover1
import Derived.Deep.QuietTactic
import Derived.Lib.SliceRun
import Derived.Lib.MinMax
namespace Go.Proofs.YtllpfngmnccejaaGreat
open Go Go.RowKit

theorem empty_eq (s : ByteArray) : (s.toList == (⟨#[]⟩ : ByteArray).toList) = noB s := by
  unfold noB
  rw [Bool.eq_iff_iff, beq_iff_eq, decide_eq_true_eq, ByteArray.toList_eq, ByteArray.toList_eq, ← len_of, List.length_eq_zero_iff]
theorem noB_emp (s : ByteArray) : s.toList.isEmpty = noB s := by
  rw [Bool.eq_iff_iff, List.isEmpty_iff, ByteArray.toList_eq, ← List.length_eq_zero_iff, len_of]; unfold noB; simp
set_option maxRecDepth 100000 in
set_option maxHeartbeats 800000 in
theorem rightN_any (n : ByteArray) (w : World) : Calls Tryz.prog 172 #[.string n] w fun e w' => e = .returned (.bool (rightN n)) ∧ w = w' := by
  have e1 : decide ((1 : Int) ≤ (n.size : Int)) = decide (1 ≤ n.size) := by rw [Bool.eq_iff_iff]; simp; omega
  have e2 : decide ((n.size : Int) ≤ 32) = decide (n.size ≤ 32) := by rw [Bool.eq_iff_iff]; simp; omega
  unfold rightN
  rw [← e1, ← e2]
  clear e1 e2
  cases h1 : decide ((1 : Int) ≤ (n.size : Int))
  · go_enter Tryz.func172, Tryz.ntmps172
    go_wp2_with fail
    go_ret
    exact ⟨rfl, rfl⟩
  · go_enter Tryz.func172, Tryz.ntmps172
    go_wp2_with fail
    go_ret
    exact ⟨by rw [Bool.true_and]; rfl, rfl⟩
set_option maxRecDepth 100000 in
set_option maxHeartbeats 1600000 in
theorem rightW_any (x : Wr) (w : World) : Calls Tryz.prog 142 #[x.val] w fun e w' => e = .returned (.bool (rightW x)) ∧ Below w.heap.size w w' := by
  obtain ⟨V, hV, hVb, hVs, oV⟩ := wrbox w x
  have y := fun n => Lib.hid (fun W => rightN_any n W)
  have HB := Lib.hid hVb
  have d0 := oV.at_ 0
  have d1 := oV.at_ 1
  have d2 := oV.at_ 2
  have d3 := oV.at_ 3
  simp only [Wr.cells, List.getElem?_cons_zero, List.getElem?_cons_succ] at d0 d1 d2 d3
  unfold Wr.val
  have e0 := Lib.hid (show rightW x = (rightN x.n && (if x.k = 1 then noB x.t else if x.k = 2 then rightN x.t && noB x.d else if x.k = 3 then noB x.t && noB x.d else false)) from rfl)
  have q1 := noB_emp x.t
  have q2 := noB_emp x.d
  have q3 := empty_eq x.t
  have q4 := empty_eq x.d
  clear hVb hVs oV
  generalize rightW x = r at *
  generalize hr1 : rightN x.n = r1 at *
  have y1 : Hid (∀ W, Calls Tryz.prog 172 #[.string x.n] W fun e w' => e = .returned (.bool r1) ∧ W = w') := Lib.hid (by rw [← hr1]; exact (y x.n).out)
  generalize hr2 : rightN x.t = r2 at *
  have y2 : Hid (∀ W, Calls Tryz.prog 172 #[.string x.t] W fun e w' => e = .returned (.bool r2) ∧ W = w') := Lib.hid (by rw [← hr2]; exact (y x.t).out)
  generalize noB x.t = b1 at *
  generalize noB x.d = b2 at *
  clear hr1 hr2 y
  cases r1
  · rw [Bool.false_and] at e0
    go_enter Tryz.func142, Tryz.ntmps142
    go_upto_region 1 with fail
    rw [← hV]
    clear hV
    go_wp2_with fail
    refine (y1.out _).mono ?_
    rintro _ _ ⟨rfl, rfl⟩
    go_wp2_with fail
    go_ret
    exact ⟨by rw [e0.out]; rfl, HB.out⟩
  · rw [Bool.true_and] at e0
    by_cases k1 : x.k = 1
    · rw [if_pos k1] at e0
      rw [k1] at d0 hV ⊢
      clear k1
      go_enter Tryz.func142, Tryz.ntmps142
      go_upto_region 1 with fail
      rw [← hV]
      clear hV
      go_wp2_with fail
      refine (y1.out _).mono ?_
      rintro _ _ ⟨rfl, rfl⟩
      go_wp2_with fail
      go_ret
      refine ⟨?_, HB.out⟩
      rw [e0.out]
      rfl
    rw [if_neg k1] at e0
    by_cases k2 : x.k = 2
    · rw [if_pos k2] at e0
      rw [k2] at d0 hV ⊢
      clear k1 k2
      cases r2
      · rw [Bool.false_and] at e0
        go_enter Tryz.func142, Tryz.ntmps142
        go_upto_region 1 with fail
        rw [← hV]
        clear hV
        go_wp2_with fail
        refine (y1.out _).mono ?_
        rintro _ _ ⟨rfl, rfl⟩
        go_wp2_with fail
        refine (y2.out _).mono ?_
        rintro _ _ ⟨rfl, rfl⟩
        go_wp2_with fail
        go_ret
        refine ⟨?_, HB.out⟩
        rw [e0.out]
        rfl
      · rw [Bool.true_and] at e0
        go_enter Tryz.func142, Tryz.ntmps142
        go_upto_region 1 with fail
        rw [← hV]
        clear hV
        go_wp2_with fail
        refine (y1.out _).mono ?_
        rintro _ _ ⟨rfl, rfl⟩
        go_wp2_with fail
        refine (y2.out _).mono ?_
        rintro _ _ ⟨rfl, rfl⟩
        go_wp2_with fail
        go_ret
        refine ⟨?_, HB.out⟩
        rw [e0.out]
        rfl
    rw [if_neg k2] at e0
    by_cases k3 : x.k = 3
    · rw [if_pos k3] at e0
      rw [k3] at d0 hV ⊢
      clear k1 k2 k3
      cases b1
      · rw [Bool.false_and] at e0
        go_enter Tryz.func142, Tryz.ntmps142
        go_upto_region 1 with fail
        rw [← hV]
        clear hV
        go_wp2_with fail
        refine (y1.out _).mono ?_
        rintro _ _ ⟨rfl, rfl⟩
        go_wp2_with fail
        go_ret
        refine ⟨?_, HB.out⟩
        rw [e0.out]
        rfl
      · rw [Bool.true_and] at e0
        go_enter Tryz.func142, Tryz.ntmps142
        go_upto_region 1 with fail
        rw [← hV]
        clear hV
        go_wp2_with fail
        refine (y1.out _).mono ?_
        rintro _ _ ⟨rfl, rfl⟩
        go_wp2_with fail
        go_ret
        refine ⟨?_, HB.out⟩
        rw [e0.out]
        rfl
    · rw [if_neg k3] at e0
      have t1 : (x.k == 1) = false := beq_eq_false_iff_ne.2 k1
      have t2 : (x.k == 2) = false := beq_eq_false_iff_ne.2 k2
      have t3 : (x.k == 3) = false := beq_eq_false_iff_ne.2 k3
      clear k1 k2 k3
      go_enter Tryz.func142, Tryz.ntmps142
      go_upto_region 1 with fail
      rw [← hV]
      clear hV
      go_wp2_with fail
      refine (y1.out _).mono ?_
      rintro _ _ ⟨rfl, rfl⟩
      go_wp2_with fail
      go_ret
      refine ⟨?_, HB.out⟩
      rw [e0.out]
      rfl
end Go.Proofs.YtllpfngmnccejaaGreat
namespace Go.Proofs.YtllpfngmnccejaaGreat
open Go Go.RowKit

theorem less_cmp (a b : ByteArray) : Op.bytesLess a.toList b.toList = decide (cmpN a b < 0) := by
  rw [ByteArray.toList_eq, ByteArray.toList_eq]
  unfold cmpN
  rcases cmpB_casesK a.data.toList b.data.toList with ⟨h1, h2⟩ | ⟨h1, h2, h3⟩ | ⟨h1, h2, h3⟩ <;> rw [h1, h2] <;> rfl
def okFs (l : List Fl) : Bool := l.all (fun f => rightN f.n) && ascN (namesF l)
theorem okFs_iff {l : List Fl} : okFs l = true ↔ Named l ∧ SortedF l := by
  unfold okFs Named SortedF
  rw [Bool.and_eq_true, asc_sorted]; simp
theorem okFs_take {fs : List Fl} {k : Nat} (h : okFs fs = true) : okFs (fs.take k) = true := by
  rw [okFs_iff] at *
  exact ⟨fun f hf => h.1 f (List.mem_of_mem_take hf), sorted_sub h.2 (List.take_sublist _ _)⟩
theorem okFs_zero {fs : List Fl} {f : Fl} (h : fs[0]? = some f) : okFs (fs.take (0 + 1)) = rightN f.n := by
  rw [List.take_add_one, h]
  simp [okFs, ascN, namesF]
theorem okFs_next {fs : List Fl} {k : Nat} {f g : Fl} (h : fs[k + 1]? = some f) (hg : fs[k]? = some g) (h0 : okFs (fs.take (k + 1)) = true) : okFs (fs.take (k + 1 + 1)) = (rightN f.n && decide (cmpN g.n f.n < 0)) := by
  obtain ⟨h1, h2⟩ := okFs_iff.1 h0
  have e1 : fs.take (k + 1 + 1) = fs.take (k + 1) ++ [f] := by rw [List.take_add_one, h]; rfl
  have e2 : fs.take (k + 1) = fs.take k ++ [g] := by rw [List.take_add_one, hg]; rfl
  have hgm : g ∈ fs.take (k + 1) := by rw [e2]; simp
  rw [Bool.eq_iff_iff, okFs_iff, Bool.and_eq_true, decide_eq_true_eq, e1]
  constructor
  · rintro ⟨a, b⟩
    refine ⟨a f (by simp), ?_⟩
    unfold SortedF SortedN namesF at b
    rw [List.map_append, List.pairwise_append] at b
    exact b.2.2 g.n (List.mem_map_of_mem hgm) f.n (by simp)
  · rintro ⟨a, b⟩
    refine ⟨fun x hx => ?_, ?_⟩
    · rcases List.mem_append.1 hx with hx | hx
      · exact h1 x hx
      · obtain rfl : x = f := by simpa using hx
        exact a
    · unfold SortedF SortedN namesF at *
      rw [List.map_append, List.pairwise_append]
      refine ⟨h2, by simp, ?_⟩
      intro x hx y hy
      obtain rfl : y = f.n := by simpa using hy
      obtain ⟨z, hz, rfl⟩ := List.mem_map.1 hx
      rw [e2] at hz h2
      rcases List.mem_append.1 hz with hz | hz
      · rw [List.map_append, List.pairwise_append] at h2
        exact cmpN_lt (h2.2.2 z.n (List.mem_map_of_mem hz) g.n (by simp)) b
      · obtain rfl : z = g := by simpa using hz
        exact b
theorem okFs_bad {fs : List Fl} {k : Nat} (h : okFs (fs.take k) = false) : okFs fs = false := by
  cases hx : okFs fs
  · rfl
  · rw [okFs_take hx] at h; cases h
theorem rightFs_ok (fs : List Fl) : rightFs fs = (decide (fs.length ≤ 256) && okFs fs) := rfl
set_option maxRecDepth 100000 in
set_option maxHeartbeats 3200000 in
theorem rightFs_any (A : Option Addr) (ca : Nat) (fs : List Fl) (w : World) (hf : Lies 2 Fl.cells w w.heap.size A fs) :
    Calls Tryz.prog 169 #[.slice A fs.length ca] w fun e w' => e = .returned (.bool (rightFs fs)) ∧ Below w.heap.size w w' := by
  have HF := Lib.hid hf
  rw [rightFs_ok]
  clear hf
  by_cases hn : 256 < fs.length
  · have t1 : decide ((256 : Int) < (fs.length : Int)) = true := by simp; omega
    have hr : (decide (fs.length ≤ 256) && okFs fs) = false := by rw [decide_eq_false (by omega)]; rfl
    rw [hr]
    clear hr hn HF
    go_enter Tryz.func169, Tryz.ntmps169
    go_wp2_with fail
    go_ret
    exact ⟨rfl, Below.refl _ _⟩
  · have t1 : decide ((256 : Int) < (fs.length : Int)) = false := by simp; omega
    have hr : (decide (fs.length ≤ 256) && okFs fs) = okFs fs := by rw [decide_eq_true (by omega)]; rfl
    have hl : fs.length ≤ 256 := by omega
    rw [hr]
    clear hr hn
    go_enter Tryz.func169, Tryz.ntmps169
    go_wp2_with fail
    go_loopw [10] (fun i wr => ∃ k : Nat, i = .int .i64 (k : Int) ∧ k ≤ fs.length ∧ okFs (fs.take k) = true ∧ Below w.heap.size w wr) (fun i _ => fs.length - (intOf i).toNat)
    case atStart => exact ⟨0, rfl, by omega, rfl, Below.refl _ _⟩
    case round =>
      obtain ⟨k, rfl, hk, hok, hb⟩ := hrel
      by_cases hlt : k < fs.length
      · have hx : fs[k]? = some fs[k] := List.getElem?_eq_getElem hlt
        obtain ⟨b, o, rfl, hB, hxs⟩ := HF.out (by omega)
        have x0 := (hb.cell (p := ⟨b, o + k * 2 + 0, none⟩) hB).trans (hxs k _ hx 0 _ rfl)
        have x1 := (hb.cell (p := ⟨b, o + k * 2 + 1, none⟩) hB).trans (hxs k _ hx 1 _ rfl)
        have hbad := fun h => okFs_bad (fs := fs) (k := k + 1) h
        have hprev : ∀ j, k = j + 1 → ∃ g : Fl, wr.cell? ⟨b, o + j * 2, none⟩ = some (.string g.n) ∧ okFs (fs.take (k + 1)) = (rightN (fs[k]).n && decide (cmpN g.n (fs[k]).n < 0)) := fun j hj => by
          have hjl : j < fs.length := by omega
          have hxj : fs[j]? = some fs[j] := List.getElem?_eq_getElem hjl
          refine ⟨fs[j], (hb.cell (p := ⟨b, o + j * 2 + 0, none⟩) hB).trans (hxs j _ hxj 0 _ rfl), ?_⟩
          subst hj
          exact okFs_next hx hxj hok
        have hzero : k = 0 → okFs (fs.take (k + 1)) = rightN (fs[k]).n := fun hz => by subst hz; exact okFs_zero hx
        generalize fs[k] = f at *
        obtain ⟨W, hW, bW, sW, oW⟩ := flbox wr f
        have d0 := oW.at_ 0
        have d1 := oW.at_ 1
        simp only [Fl.cells, List.getElem?_cons_zero, List.getElem?_cons_succ, Nat.add_zero] at d0 d1 x0 x1
        have HX := Lib.hid (And.intro (hb.trans (bW.mono hb.size)) hbad)
        have y1 : Hid (∀ W, Calls Tryz.prog 172 #[.string f.n] W fun e w' => e = .returned (.bool (rightN f.n)) ∧ w' = W) := Lib.hid (fun W => (rightN_any f.n W).mono fun _ _ ⟨h, k⟩ => ⟨h, k.symm⟩)
        have hBW : b < wr.heap.size := by have := hb.size; omega
        clear hxs hx hok hb oW sW
        generalize rightN f.n = r at *
        go_upto_region 6 with fail
        rw [← hW]
        clear hW x0 x1
        have q9 : (k : Int) + 1 < 9223372036854775808 := by omega
        by_cases hz : k = 0
        · have hq := Lib.hid (hzero hz)
          have t2 : decide (0 < k) = false := by simp; omega
          clear hprev hzero hbad hz
          cases r
          · go_quiet ((go_at_call 172; exact Calls.quiet_of_same (y1.out _)))
            go_wp2_with fail
            go_ret
            exact ⟨by rw [HX.out.2 hq.out]; rfl, below_draws HX.out.1 _⟩
          · refine wp_region_quiet_lit (by kernel_rfl) (by kernel_rfl) ?_
            repeat (first | go_big_quiet_step ((go_at_call 172; exact Calls.quiet_of_same (y1.out _))) | quiet_step ((go_at_call 172; exact Calls.quiet_of_same (y1.out _))))
            refine wpQuiet_nil ?_
            intro _ hw'
            obtain ⟨nq, hw''⟩ := hw'
            subst hw''
            go_wp2_with fail
            go_roundw
            case rel => exact ⟨k + 1, by go_num, by omega, hq.out, below_draws HX.out.1 _⟩
            case measure => simp [intOf]; omega
        · obtain ⟨j, hj⟩ : ∃ j, k = j + 1 := ⟨k - 1, by omega⟩
          obtain ⟨g, g0, hq⟩ := hprev j hj
          have hq2 := Lib.hid hq
          have t2 : decide ((0 : Int) < (k : Int)) = true := by simp; omega
          have t3 := less_cmp g.n f.n
          have g1 := (bW.cell (p := ⟨b, o + j * 2, none⟩) hBW).trans g0
          have hjl : j < fs.length := by omega
          subst hj
          clear hprev hzero hbad hz hq g0
          generalize decide (cmpN g.n f.n < 0) = q at *
          cases r
          · go_quiet ((go_at_call 172; exact Calls.quiet_of_same (y1.out _)))
            go_wp2_with fail
            go_ret
            exact ⟨by rw [HX.out.2 hq2.out]; rfl, below_draws HX.out.1 _⟩
          · cases q
            · go_quiet ((go_at_call 172; exact Calls.quiet_of_same (y1.out _)))
              go_wp2_with fail
              go_ret
              exact ⟨by rw [HX.out.2 hq2.out]; rfl, below_draws HX.out.1 _⟩
            · go_quiet ((go_at_call 172; exact Calls.quiet_of_same (y1.out _)))
              go_wp2_with fail
              go_roundw
              case rel => exact ⟨j + 1 + 1, by go_num, by omega, hq2.out, below_draws HX.out.1 _⟩
              case measure => simp [intOf]; omega
      · have hk2 : k = fs.length := by omega
        subst hk2
        rw [List.take_length] at hok
        have HX := Lib.hid (And.intro hok hb)
        clear hok hb
        go_wp2_with fail
        go_ret
        exact ⟨by rw [HX.out.1]; rfl, HX.out.2⟩
end Go.Proofs.YtllpfngmnccejaaGreat
namespace Go.Proofs.YtllpfngmnccejaaGreat
open Go Go.RowKit

theorem okW_next {l : List Fl} {ws : List Wr} {k : Nat} {x : Wr} (h : ws[k]? = some x) (h0 : okW l (ws.take k) = true) : okW l (ws.take (k + 1)) = (rightW x && decide ((appF ((ws.take k).foldl appF l) x).length ≤ 256)) := by
  rw [List.take_add_one, h]
  show okW l (ws.take k ++ [x]) = _
  rw [okW_app, h0]
  simp [okW]
theorem okW_bad {l : List Fl} {ws : List Wr} {k : Nat} (h : okW l (ws.take k) = false) : okW l ws = false := by
  have : ws = ws.take k ++ ws.drop k := (List.take_append_drop k ws).symm
  rw [this, okW_app, h]; rfl
theorem fold_takeK {l : List Fl} {ws : List Wr} {k : Nat} {x : Wr} (h : ws[k]? = some x) : (ws.take (k + 1)).foldl appF l = appF ((ws.take k).foldl appF l) x := by
  rw [List.take_add_one, h]; simp
def SeeInv (V : World) (base G : Nat) (t : TypeId) (cs : List Value) (F : Nat → Prop) (wr : World) (m : List Fl) (b : Nat) : Prop :=
  ∃ A c l, VisTo V wr base G 0 t cs F A c l ∧ flV l = m ∧ wtV l ≤ b
theorem see_next {V wr V1 w2 : World} {base G b' : Nat} {t : TypeId} {cs : List Value} {F : Nat → Prop} {m : List Fl} {g : List Fl → List Fl} {A : Option Addr} {c : Nat} {l : List Vf} (h : VisTo V wr base G 0 t cs F A c l) (hm : flV l = m) (hb : Below wr.heap.size wr V1)
    (k : Sees V1 w2 base G 0 t (setV cs 0 A c l) A l g b') : SeeInv V base G t cs F w2 (g m) b' := by
  obtain ⟨A', c', l', hv, hf, hw⟩ := k
  exact ⟨A', c', l', h.trans (hv.after hb) h.fp, by rw [hf, hm], hw⟩
/-- what look answered, laid in a box -/
theorem looked_box {w w1 : World} {A : Option Addr} {c b : Nat} {l : List Vf} (t : TypeId) (hv : Vis w1 w.heap.size A c l) (hs : SortedN (namesV l)) (hw : wtV l ≤ b) (hb : b ≤ 1099511627776) (hB : Below w.heap.size w w1) :
    ∃ V, V = w1.alloc (.cells #[.slice A l.length c, .int .i64 (szF (flV l) : Int)] t) ∧ Below w.heap.size w V ∧ Below w1.heap.size w1 V ∧ V.heap.size = w1.heap.size + 1 ∧ VisAt V w.heap.size w1.heap.size 0 t [.slice A l.length c, .int .i64 (szF (flV l) : Int)] A c l := by
  refine ⟨_, rfl, hB.alloc hB.size _, (Below.refl _ _).alloc (Nat.le_refl _) _, by simp, ⟨Own.made w1 t _, rfl, rfl, ?_, fun e => by have := (hv.lt _ e).2; omega, hs, by omega, ?_⟩⟩
  · exact hv.kept (KeptK.of_below ((Below.refl w1.heap.size w1).alloc (Nat.le_refl _) _) (Nat.le_refl _) (fun _ => False)) (fun _ _ h => h)
  · have := hB.size; simp; omega
set_option maxRecDepth 100000 in
set_option maxHeartbeats 3200000 in
theorem rightWs_any (A B : Option Addr) (ca cb : Nat) (fs : List Fl) (ws : List Wr) (w : World) (hf : Lies 2 Fl.cells w w.heap.size A fs) (hws : Lies 4 Wr.cells w w.heap.size B ws) (hb : wtF fs + wtW ws ≤ 1099511627776) :
    Calls Tryz.prog 170 #[.slice A fs.length ca, .slice B ws.length cb] w fun e w' => e = .returned (.bool (rightWs fs ws)) ∧ Below w.heap.size w w' := by
  have H := Lib.hid (And.intro hf (And.intro hws hb))
  have hls := len_le_wtW ws
  by_cases hn : 4096 < ws.length
  · have t1 : decide ((4096 : Int) < (ws.length : Int)) = true := by simp; omega
    have hr : rightWs fs ws = false := by unfold rightWs; rw [decide_eq_false (by omega)]; rfl
    rw [hr]
    clear hr hn H hf hws hb hls
    go_enter Tryz.func170, Tryz.ntmps170
    go_wp2_with fail
    go_ret
    exact ⟨rfl, Below.refl _ _⟩
  · have t1 : decide ((4096 : Int) < (ws.length : Int)) = false := by simp; omega
    have hr : rightWs fs ws = okW (baseF fs) ws := by unfold rightWs; rw [decide_eq_true (by omega)]; rfl
    have hl : ws.length ≤ 4096 := by omega
    have y1 := Lib.hid (look_any A none ca 0 fs [] w hf (fun h => absurd h (by simp)) (by show wtF fs + 0 ≤ _; omega))
    rw [hr]
    clear hr hn hf hws hb hls
    go_enter Tryz.func170, Tryz.ntmps170
    go_wp2_with fail
    refine y1.out.mono ?_
    rintro _ w1 ⟨A1, c1, l1, rfl, hv, hfl, hs, hw, hB⟩
    obtain ⟨V, hV, hVb, hV1, hVs, hat⟩ := looked_box 151 hv hs hw (by have := H.out.2.2; show wtF fs + 0 ≤ _; omega) hB
    have hw1 : w.heap.size ≤ w1.heap.size := hB.size
    have HV := Lib.hid (And.intro hat (And.intro hfl (And.intro hw (And.intro hVb (And.intro hVs hw1)))))
    clear hat hfl hw hVb hV1 hVs hv hs hB y1
    go_upto_region 4 with fail
    rw [← hV]
    clear hV
    go_wp2_with fail
    go_loopw [15] (fun i wr => ∃ k : Nat, i = .int .i64 (k : Int) ∧ k ≤ ws.length ∧ SeeInv V w.heap.size w1.heap.size 151 [.slice A1 l1.length c1, .int .i64 (szF (flV l1) : Int)] (Fp A1 l1) wr ((ws.take k).foldl appF (baseF fs)) (wtF fs + wtW (ws.take k)) ∧ okW (baseF fs) (ws.take k) = true) (fun i _ => ws.length - (intOf i).toNat)
    case atStart => exact ⟨0, rfl, by omega, ⟨A1, c1, l1, VisTo.refl HV.out.1 (Below.refl _ _), HV.out.2.1, HV.out.2.2.1⟩, rfl⟩
    case round =>
      obtain ⟨k, rfl, hk, ⟨A', c', l', hv, hfl, hwl⟩, hok⟩ := hrel
      have hbw : Below w.heap.size w wr := hv.below HV.out.2.2.2.1 (by have := HV.out.2.2.2.2.2; omega) (fun k e => (HV.out.1.vis.lt k e).1) (HV.out.2.2.2.1).size
      by_cases hlt : k < ws.length
      · have hx : ws[k]? = some ws[k] := List.getElem?_eq_getElem hlt
        obtain ⟨b, o, rfl, hB, hxs⟩ := H.out.2.1 (by omega)
        have x0 := (hbw.cell (p := ⟨b, o + k * 4 + 0, none⟩) hB).trans (hxs k _ hx 0 _ rfl)
        have x1 := (hbw.cell (p := ⟨b, o + k * 4 + 1, none⟩) hB).trans (hxs k _ hx 1 _ rfl)
        have x2 := (hbw.cell (p := ⟨b, o + k * 4 + 2, none⟩) hB).trans (hxs k _ hx 2 _ rfl)
        have x3 := (hbw.cell (p := ⟨b, o + k * 4 + 3, none⟩) hB).trans (hxs k _ hx 3 _ rfl)
        have hft := fold_takeK (l := baseF fs) hx
        have hnx := okW_next hx hok
        have hbad := fun h => okW_bad (l := baseF fs) (ws := ws) (k := k + 1) h
        have hwk := wtW_take hx
        have hle := wtW_le ws (k + 1)
        generalize ws[k] = f at *
        obtain ⟨W, hW, bW, sW, oW⟩ := wrbox wr f
        have d0 := oW.at_ 0
        have d1 := oW.at_ 1
        have d2 := oW.at_ 2
        have d3 := oW.at_ 3
        simp only [Wr.cells, List.getElem?_cons_zero, List.getElem?_cons_succ, Nat.add_zero] at d0 d1 d2 d3 x0 x1 x2 x3
        have y2 := Lib.hid (rightW_any f W)
        unfold Wr.val at y2
        have HX := Lib.hid (And.intro hv (And.intro hfl (And.intro bW (And.intro hft (And.intro hwk (And.intro hwl (And.intro hnx (And.intro hbad (And.intro oW (And.intro (hbw.trans (bW.mono hbw.size)) (by have := H.out.2.2; omega : wtV l' + 2 + f.d.size ≤ 1099511627776)))))))))))
        clear hv hfl hwl bW sW oW hft hnx hbad hwk hle hx hxs hbw hok
        generalize hr : rightW f = r at *
        go_upto_region 7 with fail
        rw [← hW]
        clear hW
        go_wp2_with fail
        refine y2.out.mono ?_
        rintro _ w2 ⟨rfl, b2⟩
        have oW2 := HX.out.2.2.2.2.2.2.2.2.1.past b2 HX.out.2.2.2.2.2.2.2.2.1.inside
        have HY := Lib.hid (And.intro b2 (HX.out.2.2.2.2.2.2.2.2.2.1.trans (b2.mono (HX.out.2.2.2.2.2.2.2.2.2.1).size)))
        clear x0 x1 x2 x3 d0 d1 d2 d3 y2 b2
        cases r
        · have hz := HX.out.2.2.2.2.2.2.2.1 (by rw [HX.out.2.2.2.2.2.2.1]; rfl)
          have HZ := Lib.hid hz
          clear hz oW2
          go_wp2_with fail
          go_ret
          exact ⟨by rw [HZ.out]; rfl, HY.out.2⟩
        · have d0 := oW2.at_ 0
          have d1 := oW2.at_ 1
          have d2 := oW2.at_ 2
          have d3 := oW2.at_ 3
          simp only [Wr.cells, List.getElem?_cons_zero, List.getElem?_cons_succ] at d0 d1 d2 d3
          have hbl : Below wr.heap.size wr w2 := HX.out.2.2.1.trans (HY.out.1.mono HX.out.2.2.1.size)
          have y3 := Lib.hid (apply_any _ _ 0 _ _ A' c' l' f w2 (HX.out.1.at_.below hbl) HX.out.2.2.2.2.2.2.2.2.2.2)
          unfold Wr.val at y3
          have HB2 := Lib.hid hbl
          clear oW2 hbl
          go_wp2_with fail
          refine y3.out.mono ?_
          rintro _ w3 ⟨rfl, hs⟩
          have hs2 := see_next (g := fun m => appF m f) (b' := wtV l' + 2 + f.d.size) HX.out.1 HX.out.2.1 HB2.out hs
          obtain ⟨A2, c2, l2, hv2, hfl2, hwl2⟩ := hs2
          have hb3 : Below w.heap.size w w3 := hv2.below HV.out.2.2.2.1 (by have := HV.out.2.2.2.2.2; omega) (fun k e => (HV.out.1.vis.lt k e).1) (HV.out.2.2.2.1).size
          have y4 := Lib.hid (many_any w1.heap.size 0 _ _ A2 c2 l2.length w3 hv2.at_.own hv2.at_.c0)
          have hln : l2.length = (appF ((ws.take k).foldl appF (baseF fs)) f).length := by rw [← hfl2]; unfold flV; simp
          have HS := Lib.hid (And.intro hv2 (And.intro hfl2 (And.intro hwl2 (And.intro hb3 hln))))
          clear hv2 hfl2 hwl2 hs y3 d0 d1 d2 d3 hb3 hln
          go_wp2_with fail
          refine y4.out.mono ?_
          rintro _ _ ⟨rfl, rfl⟩
          by_cases hm : 256 < l2.length
          · have t2 : decide ((256 : Int) < (l2.length : Int)) = true := by simp; omega
            have hz := HX.out.2.2.2.2.2.2.2.1 (by rw [HX.out.2.2.2.2.2.2.1, decide_eq_false (by rw [← HS.out.2.2.2.2]; omega)]; rfl)
            have HZ := Lib.hid hz
            clear hz hm y4
            go_wp2_with fail
            go_ret
            exact ⟨by rw [HZ.out]; rfl, HS.out.2.2.2.1⟩
          · have t2 : decide ((256 : Int) < (l2.length : Int)) = false := by simp; omega
            have hz := HX.out.2.2.2.2.2.2.1
            rw [decide_eq_true (by rw [← HS.out.2.2.2.2]; omega)] at hz
            have HZ := Lib.hid hz
            clear hz hm y4
            go_wp2_with fail
            go_roundw
            case rel =>
              refine ⟨k + 1, by go_num, by omega, ⟨A2, c2, l2, HS.out.1, ?_, ?_⟩, by rw [HZ.out]; rfl⟩
              · rw [HX.out.2.2.2.1]; exact HS.out.2.1
              · have := HX.out.2.2.2.2.1; have := HX.out.2.2.2.2.2.1; have := HS.out.2.2.1; omega
            case measure => simp [intOf]; omega
      · have hk3 : k = ws.length := by omega
        subst hk3
        rw [List.take_length] at hok
        have HX := Lib.hid (And.intro hok hbw)
        clear hok hbw hv hfl hwl HV
        go_wp2_with fail
        go_ret
        exact ⟨by rw [HX.out.1]; rfl, HX.out.2⟩
end Go.Proofs.YtllpfngmnccejaaGreat
namespace Go.Proofs.YtllpfngmnccejaaGreat
open Go Go.RowKit

theorem infoWr : (Tryz.prog.info? 95).map (fun i => (i.zero, i.size, i.bytes)) = some (some (.agg #[.int .u8 0, .string ⟨#[]⟩, .string ⟨#[]⟩, .string ⟨#[]⟩]), 4, 56) := by kernel_rfl
theorem lies_news {α : Type} {size : Nat} {cells : α → List Value} {w : World} {B : Nat} {ad : Addr} {l : List α} (hpos : 0 < size) (hcl : ∀ x, (cells x).length = size) (h : Lies size cells w B (some ad) l) : ∀ j u, (l.flatMap cells)[j]? = some u → w.cell? (ad.add j) = some u := by
  intro j u hu
  obtain ⟨i, r, y, rfl, hi, hr⟩ := flat_back hpos hcl l j u hu
  have hp : 0 < l.length := by have := (List.getElem?_eq_some_iff.1 hi).1; omega
  obtain ⟨b, o, e, _, hc⟩ := h hp
  obtain rfl : ad = ⟨b, o, none⟩ := by injection e
  have ea : (⟨b, o, none⟩ : Addr).add (i * size + r) = ⟨b, o + i * size + r, none⟩ := by unfold Addr.add; split <;> simp_all <;> omega
  rw [ea]
  exact hc i y hi r u hr
set_option maxRecDepth 100000 in
set_option maxHeartbeats 800000 in
theorem cloneFl_any (A : Option Addr) (c : Nat) (l : List Fl) (w : World) (hl : Lies 2 Fl.cells w w.heap.size A l) (hn : l.length ≤ 1099511627776) :
    Calls Tryz.prog 140 #[.slice A l.length c] w fun e w' => ∃ A' c', e = .returned (.slice A' l.length c') ∧ w'.ownsRow w.heap.size 199 2 (.slice A' l.length c') l.length (l.flatMap Fl.cells) ∧ Below w.heap.size w w' := by
  have q26 := fun (w : World) (a : Option Addr) (n c n' c' : Nat) => Lib.run_eql_slice_nil (P := Tryz.prog) w _ _ a n c n' c' Tryz.underlying87
  have hU := Tryz.underlying87
  obtain ⟨i0, hi, hz0, hz1, hz2⟩ := info_parts infoFl
  cases A with
  | none =>
    have h0 : l = [] := by
      cases l with
      | nil => rfl
      | cons x l => obtain ⟨_, _, e, _⟩ := hl (by simp); cases e
    subst h0
    clear hl
    go_enter Tryz.func140, Tryz.ntmps140
    go_wp2_with fail
    go_ret
    exact ⟨none, 0, rfl, World.ownsRow_nil _ _ _ _, Below.refl _ _⟩
  | some ad =>
    have HN := Lib.hid (lies_news (size := 2) (cells := Fl.cells) (by decide) (fun _ => rfl) hl)
    have hone : ∀ u ∈ l.flatMap Fl.cells, u.oneCell' = true := fun u hu => by obtain ⟨x, _, hx⟩ := List.mem_flatMap.1 hu; exact fl_one x u hx
    have hlen : (l.flatMap Fl.cells).length = l.length * 2 := flat_size (size := 2) (cells := Fl.cells) (fun _ => rfl) l
    have HO := Lib.hid (And.intro hone hlen)
    clear hl hone hlen
    go_enter Tryz.func140, Tryz.ntmps140
    go_wp2_with (at_builtin; refine wpList_append_own_at _ rfl _ _ 87 rfl w.heap.size 199 i0 _ 2 32 hU hi hz0 hz1 hz2 rfl (by decide) _ _ _ rfl (World.ownsRow_made w #[] 0 (Nat.le_refl _) (Nat.zero_le _) rfl) ad l.length c (l.flatMap Fl.cells) rfl ?c1 ?c2 ?c3 ?c4 ?c5 ?c6 ?_)
    case c1 => exact HO.out.2
    case c2 => exact fun j u hu => (World.cell?_alloc_some _ _ _ (by rw [HN.out j u hu]; rfl)).trans (HN.out j u hu)
    case c3 => exact HO.out.1
    case c4 => unfold maxLen; omega
    case c5 => omega
    case c6 => simp
    intro v' w' ho' hg' _ _
    have hb : Below w.heap.size w w' := ((Below.refl _ _).alloc (Nat.le_refl _) _).grown hg' (by simp) (by simp [Value.ownBlock])
    obtain ⟨A', c', rfl⟩ := row_slice ho'
    have HX := Lib.hid (And.intro ho' hb)
    clear ho' hg' hb
    go_wp2
    go_ret
    exact ⟨A', c', rfl, HX.out.1, HX.out.2⟩

set_option maxRecDepth 100000 in
set_option maxHeartbeats 800000 in
theorem cloneWr_any (A : Option Addr) (c : Nat) (l : List Wr) (w : World) (hl : Lies 4 Wr.cells w w.heap.size A l) (hn : l.length ≤ 1099511627776) :
    Calls Tryz.prog 141 #[.slice A l.length c] w fun e w' => ∃ A' c', e = .returned (.slice A' l.length c') ∧ w'.ownsRow w.heap.size 95 4 (.slice A' l.length c') l.length (l.flatMap Wr.cells) ∧ Below w.heap.size w w' := by
  have q26 := fun (w : World) (a : Option Addr) (n c n' c' : Nat) => Lib.run_eql_slice_nil (P := Tryz.prog) w _ _ a n c n' c' Tryz.underlying88
  have hU := Tryz.underlying88
  obtain ⟨i0, hi, hz0, hz1, hz2⟩ := info_parts infoWr
  cases A with
  | none =>
    have h0 : l = [] := by
      cases l with
      | nil => rfl
      | cons x l => obtain ⟨_, _, e, _⟩ := hl (by simp); cases e
    subst h0
    clear hl
    go_enter Tryz.func141, Tryz.ntmps141
    go_wp2_with fail
    go_ret
    exact ⟨none, 0, rfl, World.ownsRow_nil _ _ _ _, Below.refl _ _⟩
  | some ad =>
    have HN := Lib.hid (lies_news (size := 4) (cells := Wr.cells) (by decide) (fun _ => rfl) hl)
    have hone : ∀ u ∈ l.flatMap Wr.cells, u.oneCell' = true := fun u hu => by obtain ⟨x, _, hx⟩ := List.mem_flatMap.1 hu; exact wr_one x u hx
    have hlen : (l.flatMap Wr.cells).length = l.length * 4 := flat_size (size := 4) (cells := Wr.cells) (fun _ => rfl) l
    have HO := Lib.hid (And.intro hone hlen)
    clear hl hone hlen
    go_enter Tryz.func141, Tryz.ntmps141
    go_wp2_with (at_builtin; refine wpList_append_own_at _ rfl _ _ 88 rfl w.heap.size 95 i0 _ 4 56 hU hi hz0 hz1 hz2 rfl (by decide) _ _ _ rfl (World.ownsRow_made w #[] 0 (Nat.le_refl _) (Nat.zero_le _) rfl) ad l.length c (l.flatMap Wr.cells) rfl ?c1 ?c2 ?c3 ?c4 ?c5 ?c6 ?_)
    case c1 => exact HO.out.2
    case c2 => exact fun j u hu => (World.cell?_alloc_some _ _ _ (by rw [HN.out j u hu]; rfl)).trans (HN.out j u hu)
    case c3 => exact HO.out.1
    case c4 => unfold maxLen; omega
    case c5 => omega
    case c6 => simp
    intro v' w' ho' hg' _ _
    have hb : Below w.heap.size w w' := ((Below.refl _ _).alloc (Nat.le_refl _) _).grown hg' (by simp) (by simp [Value.ownBlock])
    obtain ⟨A', c', rfl⟩ := row_slice ho'
    have HX := Lib.hid (And.intro ho' hb)
    clear ho' hg' hb
    go_wp2
    go_ret
    exact ⟨A', c', rfl, HX.out.1, HX.out.2⟩
/-- a disk as it lies -/
structure Dl where
  fA : Option Addr
  fc : Nat
  files : List Fl
  wA : Option Addr
  wc : Nat
  waits : List Wr
  room : Int
  down : Bool
  fuse : Int
namespace Dl
def d (x : Dl) : Dk := ⟨x.files, x.waits, x.room, x.down, x.fuse⟩
def cells (x : Dl) : List Value := [.slice x.fA x.files.length x.fc, .slice x.wA x.waits.length x.wc, .int .i64 x.room, .bool x.down, .int .i64 x.fuse]
def val (x : Dl) : Value := .agg #[.slice x.fA x.files.length x.fc, .slice x.wA x.waits.length x.wc, .int .i64 x.room, .bool x.down, .int .i64 x.fuse]
end Dl
structure DIn (w : World) (B : Nat) (x : Dl) : Prop where
  files : Lies 2 Fl.cells w B x.fA x.files
  waits : Lies 4 Wr.cells w B x.wA x.waits
  cap : x.waits.length ≤ x.wc
theorem DIn.past {w w' : World} {B B' : Nat} {x : Dl} (h : DIn w B x) (hb : Below B' w w') (hB : B ≤ B') : DIn w' B x := ⟨h.files.past hb hB, h.waits.past hb hB, h.cap⟩
theorem DIn.wide {w : World} {B B' : Nat} {x : Dl} (h : DIn w B x) (hB : B ≤ B') : DIn w B' x := ⟨h.files.wide hB, h.waits.wide hB, h.cap⟩
theorem DIn.keep {w w' : World} {x : Dl} (h : DIn w w.heap.size x) (hb : Below w.heap.size w w') : DIn w' w'.heap.size x := (h.past hb (Nat.le_refl _)).wide hb.size
def wtD (d : Dk) : Nat := wtF d.files + wtW d.waits
structure DOk (x : Dl) : Prop where
  wt : wtD x.d ≤ 1099511627776
  fuse : -9223372036854775808 ≤ x.fuse ∧ x.fuse ≤ 9223372036854775807
theorem dbox (w : World) (x : Dl) : ∃ W, W = w.alloc (.cells #[.slice x.fA x.files.length x.fc, .slice x.wA x.waits.length x.wc, .int .i64 x.room, .bool x.down, .int .i64 x.fuse] 90) ∧ Below w.heap.size w W ∧ W.heap.size = w.heap.size + 1 ∧ Own W w.heap.size 90 x.cells :=
  ⟨_, rfl, (Below.refl _ _).alloc (Nat.le_refl _) _, by simp, Own.made w _ _⟩
theorem own5 {w : World} {P : Nat} {t : TypeId} {a0 a1 a2 a3 a4 : Value} (h : Own w P t [a0, a1, a2, a3, a4]) :
    w.cell? ⟨P, 0, none⟩ = some a0 ∧ w.cell? ⟨P, 1, none⟩ = some a1 ∧ w.cell? ⟨P, 2, none⟩ = some a2 ∧ w.cell? ⟨P, 3, none⟩ = some a3 ∧ w.cell? ⟨P, 4, none⟩ = some a4 :=
  ⟨h.at_ 0, h.at_ 1, h.at_ 2, h.at_ 3, h.at_ 4⟩
set_option maxRecDepth 100000 in
set_option maxHeartbeats 3200000 in
theorem dcheck_anyK (x : Dl) (w : World) (h : DIn w w.heap.size x) (ok : DOk x) :
    Calls Tryz.prog 138 #[x.val] w fun e w' => e = .returned (.int .i64 (chkD x.d)) ∧ Below w.heap.size w w' := by
  obtain ⟨V, hV, hVb, hVs, oV⟩ := dbox w x
  have hk := h.keep hVb
  have y1 := Lib.hid (rightFs_any x.fA x.fc x.files V hk.files)
  have y2 := fun W (hb : Below V.heap.size V W) => Lib.hid (rightWs_any x.fA x.wA x.fc x.wc x.files x.waits W (hk.keep hb).files (hk.keep hb).waits ok.wt)
  have HB := Lib.hid (And.intro hVb oV)
  obtain ⟨d0, d1, d2, d3, d4⟩ := own5 oV
  have hres : Hid (chkD x.d = if decide (x.room < 0) = true then 8 else if rightFs x.files = false then 8 else if rightWs x.files x.waits = false then 8 else 0) := by
    refine Lib.hid ?_
    unfold chkD goodD Dl.d
    dsimp only
    by_cases hr : x.room < 0
    · rw [decide_eq_true hr, decide_eq_false (by omega)]; rfl
    · rw [decide_eq_false hr, decide_eq_true (by omega)]
      cases rightFs x.files <;> cases rightWs x.files x.waits <;> rfl
  unfold Dl.val
  clear h ok hVb hVs hk oV
  generalize chkD x.d = r at *
  generalize rightFs x.files = r1 at *
  generalize rightWs x.files x.waits = r2 at *
  cases hr : decide (x.room < 0)
  · rw [hr] at hres
    simp only [Bool.false_eq_true, if_false] at hres
    cases r1
    · simp only [if_true] at hres
      go_enter Tryz.func138, Tryz.ntmps138
      go_upto_region 1 with fail
      rw [← hV]
      clear hV
      go_wp2_with fail
      refine y1.out.mono ?_
      rintro _ w1 ⟨rfl, b1⟩
      have HX := Lib.hid (HB.out.1.trans (b1.mono HB.out.1.size))
      clear b1
      go_wp2_with fail
      go_ret
      exact ⟨by rw [hres.out]; rfl, HX.out⟩
    · simp only [Bool.true_eq_false, if_false] at hres
      go_enter Tryz.func138, Tryz.ntmps138
      go_upto_region 1 with fail
      rw [← hV]
      clear hV
      go_wp2_with fail
      refine y1.out.mono ?_
      rintro _ w1 ⟨rfl, b1⟩
      have HX := Lib.hid (And.intro b1 (HB.out.1.trans (b1.mono HB.out.1.size)))
      have oW := HB.out.2.past b1 HB.out.2.inside
      clear d0 d1 d2 d3 d4
      obtain ⟨d0, d1, d2, d3, d4⟩ := own5 oW
      clear b1 oW
      go_wp2_with fail
      refine (y2 _ HX.out.1).out.mono ?_
      rintro _ w2 ⟨rfl, b2⟩
      have HY := Lib.hid (HX.out.2.trans (b2.mono HX.out.2.size))
      clear b2
      cases r2
      · simp only [if_true] at hres
        go_wp2_with fail
        go_ret
        exact ⟨by rw [hres.out]; rfl, HY.out⟩
      · simp only [Bool.true_eq_false, if_false] at hres
        go_wp2_with fail
        go_ret
        exact ⟨by rw [hres.out]; rfl, HY.out⟩
  · rw [hr] at hres
    simp only [if_true] at hres
    go_enter Tryz.func138, Tryz.ntmps138
    go_upto_region 1 with fail
    rw [← hV]
    clear hV
    go_wp2_with fail
    go_ret
    exact ⟨by rw [hres.out]; rfl, HB.out.1⟩
end Go.Proofs.YtllpfngmnccejaaGreat
namespace Go.Proofs.YtllpfngmnccejaaGreat
open Go Go.RowKit

theorem row_lower {w : World} {base b : Nat} {e : TypeId} {size n : Nat} {v : Value} {xs : List Value} (h : w.ownsRow base e size v n xs) (hb : b ≤ base) : w.ownsRow b e size v n xs := by
  obtain ⟨h1, h2 | ⟨g, cap, cur, h3, h4, h5⟩⟩ := h
  · exact ⟨h1, .inl h2⟩
  · exact ⟨h1, .inr ⟨g, cap, cur, h3, by omega, h5⟩⟩
def OpenMid (w1 : World) (D : Nat) (x : Dl) (wx : World) : Prop :=
  ∃ Af cf Aw cw, Own wx D 90 [.slice Af x.files.length cf, .slice Aw x.waits.length cw, .int .i64 x.room, .bool x.down, .int .i64 x.fuse] ∧
    wx.ownsRow w1.heap.size 199 2 (.slice Af x.files.length cf) x.files.length (x.files.flatMap Fl.cells) ∧
    wx.ownsRow w1.heap.size 95 4 (.slice Aw x.waits.length cw) x.waits.length (x.waits.flatMap Wr.cells) ∧ KeptK w1 wx (fun k => k = D)
theorem open_mid {w1 wx : World} {D b b' : Nat} {x : Dl} {Af Aw : Option Addr} {cf cw : Nat} (hD : D < w1.heap.size) (hb : Below w1.heap.size w1 wx) (oD : Own wx D 90 x.cells)
    (rf : wx.ownsRow b 199 2 (.slice Af x.files.length cf) x.files.length (x.files.flatMap Fl.cells)) (rw_ : wx.ownsRow b' 95 4 (.slice Aw x.waits.length cw) x.waits.length (x.waits.flatMap Wr.cells)) (h1 : w1.heap.size ≤ b) (h2 : w1.heap.size ≤ b') :
    OpenMid w1 D x ((wx.setCell ⟨D, 0, none⟩ (.slice Af x.files.length cf)).setCell ⟨D, 1, none⟩ (.slice Aw x.waits.length cw)) := by
  have kk : KeptK wx ((wx.setCell ⟨D, 0, none⟩ (.slice Af x.files.length cf)).setCell ⟨D, 1, none⟩ (.slice Aw x.waits.length cw)) (fun k => k = D) := ((KeptK.refl wx (fun k => k = D)).set_ (.inl rfl) _).set_ (.inl rfl) _
  refine ⟨Af, cf, Aw, cw, (oD.set_ 0 _).set_ 1 _, row_lower (kk.row rf (fun k e he => ?_)) h1, row_lower (kk.row rw_ (fun k e he => ?_)) h2, (KeptK.of_below hb (Nat.le_refl _) (fun k => k = D)).trans kk (fun _ _ h => h)⟩
  · have := (rf.lt k e).1; omega
  · have := (rw_.lt k e).1; omega
def Opened (w w' : World) (x : Dl) (e : Ending) : Prop :=
  ∃ Af cf Aw cw A c l, e = .returned (.tuple #[.agg #[.slice Af x.files.length cf, .slice Aw x.waits.length cw, .int .i64 x.room, .bool x.down, .int .i64 x.fuse, .slice A l.length c, .int .i64 (szF (flV l) : Int)], .int .i64 0]) ∧
    w'.ownsRow w.heap.size 199 2 (.slice Af x.files.length cf) x.files.length (x.files.flatMap Fl.cells) ∧ w'.ownsRow w.heap.size 95 4 (.slice Aw x.waits.length cw) x.waits.length (x.waits.flatMap Wr.cells) ∧
    Vis w' w.heap.size A c l ∧ flV l = seen x.d ∧ SortedN (namesV l) ∧ wtV l ≤ wtD x.d
def zeroWk : Value := .agg #[.slice none 0 0, .slice none 0 0, .int .i64 0, .bool false, .int .i64 0, .slice none 0 0, .int .i64 0]
theorem own7K {w : World} {P : Nat} {t : TypeId} {a0 a1 a2 a3 a4 a5 a6 : Value} (h : Own w P t [a0, a1, a2, a3, a4, a5, a6]) :
    w.cell? ⟨P, 0, none⟩ = some a0 ∧ w.cell? ⟨P, 1, none⟩ = some a1 ∧ w.cell? ⟨P, 2, none⟩ = some a2 ∧ w.cell? ⟨P, 3, none⟩ = some a3 ∧ w.cell? ⟨P, 4, none⟩ = some a4 ∧ w.cell? ⟨P, 5, none⟩ = some a5 ∧ w.cell? ⟨P, 6, none⟩ = some a6 :=
  ⟨h.at_ 0, h.at_ 1, h.at_ 2, h.at_ 3, h.at_ 4, h.at_ 5, h.at_ 6⟩
theorem open7 {w : World} {P : Nat} {t : TypeId} {l : List Value} (h : Own w P t l) :
    w.frozen? ⟨P, 0, none⟩ = false ∧ w.frozen? ⟨P, 1, none⟩ = false ∧ w.frozen? ⟨P, 2, none⟩ = false ∧ w.frozen? ⟨P, 3, none⟩ = false ∧ w.frozen? ⟨P, 4, none⟩ = false ∧ w.frozen? ⟨P, 5, none⟩ = false ∧ w.frozen? ⟨P, 6, none⟩ = false :=
  ⟨h.open_ 0, h.open_ 1, h.open_ 2, h.open_ 3, h.open_ 4, h.open_ 5, h.open_ 6⟩
def set7 (w : World) (P : Nat) (a0 a1 a2 a3 a4 a5 a6 : Value) : World := ((((((w.setCell ⟨P, 0, none⟩ a0).setCell ⟨P, 1, none⟩ a1).setCell ⟨P, 2, none⟩ a2).setCell ⟨P, 3, none⟩ a3).setCell ⟨P, 4, none⟩ a4).setCell ⟨P, 5, none⟩ a5).setCell ⟨P, 6, none⟩ a6
theorem set7_own {w : World} {P : Nat} {t : TypeId} {b0 b1 b2 b3 b4 b5 b6 : Value} (h : Own w P t [b0, b1, b2, b3, b4, b5, b6]) (a0 a1 a2 a3 a4 a5 a6 : Value) : Own (set7 w P a0 a1 a2 a3 a4 a5 a6) P t [a0, a1, a2, a3, a4, a5, a6] :=
  ((((((h.set_ 0 a0).set_ 1 a1).set_ 2 a2).set_ 3 a3).set_ 4 a4).set_ 5 a5).set_ 6 a6
theorem set7_kept (w : World) (P : Nat) (a0 a1 a2 a3 a4 a5 a6 : Value) : KeptK w (set7 w P a0 a1 a2 a3 a4 a5 a6) (fun k => k = P) :=
  (((((((KeptK.refl w (fun k => k = P)).set_ (.inl rfl) a0).set_ (.inl rfl) a1).set_ (.inl rfl) a2).set_ (.inl rfl) a3).set_ (.inl rfl) a4).set_ (.inl rfl) a5).set_ (.inl rfl) a6
/-- the boxes with which open begins -/
theorem open_box (w : World) (x : Dl) : ∃ W, W = (w.alloc (.cells #[.slice x.fA x.files.length x.fc, .slice x.wA x.waits.length x.wc, .int .i64 x.room, .bool x.down, .int .i64 x.fuse] 90)).alloc (.cells #[.slice none 0 0, .slice none 0 0, .int .i64 0, .bool false, .int .i64 0, .slice none 0 0, .int .i64 0] 153) ∧
    Below w.heap.size w W ∧ W.heap.size = w.heap.size + 2 ∧ Own W w.heap.size 90 x.cells ∧ Own W (w.heap.size + 1) 153 [.slice none 0 0, .slice none 0 0, .int .i64 0, .bool false, .int .i64 0, .slice none 0 0, .int .i64 0] := by
  refine ⟨_, rfl, ((Below.refl _ _).alloc (Nat.le_refl _) _).alloc (by simp) _, by simp, (Own.made w _ _).more _, ?_⟩
  have := Own.made (w.alloc (.cells #[.slice x.fA x.files.length x.fc, .slice x.wA x.waits.length x.wc, .int .i64 x.room, .bool x.down, .int .i64 x.fuse] 90)) 153 [.slice none 0 0, .slice none 0 0, .int .i64 0, .bool false, .int .i64 0, .slice none 0 0, .int .i64 0]
  rw [show (w.alloc (.cells #[.slice x.fA x.files.length x.fc, .slice x.wA x.waits.length x.wc, .int .i64 x.room, .bool x.down, .int .i64 x.fuse] 90)).heap.size = w.heap.size + 1 by simp] at this
  exact this
theorem open_last {w V W wc : World} {R : Nat} {x : Dl} {Af Aw A : Option Addr} {cf cw c : Nat} {l : List Vf} {wE : World} (hv : Vis W R A c l) (hVW : Below V.heap.size V W) (hwV : Below w.heap.size w V) (hR : R = R) (hVs : V.heap.size = w.heap.size + 2)
    (rf : wc.ownsRow W.heap.size 199 2 (.slice Af x.files.length cf) x.files.length (x.files.flatMap Fl.cells)) (rw_ : wc.ownsRow W.heap.size 95 4 (.slice Aw x.waits.length cw) x.waits.length (x.waits.flatMap Wr.cells))
    (kD : KeptK W wc (fun k => k = w.heap.size)) (kE : KeptK wc wE (fun k => k = w.heap.size + 1)) (hww : w.heap.size + 2 ≤ R) :
    Below w.heap.size w wE ∧ wE.ownsRow w.heap.size 199 2 (.slice Af x.files.length cf) x.files.length (x.files.flatMap Fl.cells) ∧ wE.ownsRow w.heap.size 95 4 (.slice Aw x.waits.length cw) x.waits.length (x.waits.flatMap Wr.cells) ∧ Vis wE w.heap.size A c l := by
  have hs := hVW.size
  refine ⟨?_, row_lower (kE.row rf fun k e he => ?_) (by omega), row_lower (kE.row rw_ fun k e he => ?_) (by omega), ((hv.kept kD (fun k e he => ?_)).kept kE (fun k e he => ?_)).lower (by omega)⟩
  · have b1 : Below w.heap.size w W := hwV.trans (hVW.mono (by omega))
    have b2 : Below w.heap.size W wc := kD.below (fun k e => by omega) (by omega)
    have b3 : Below w.heap.size wc wE := kE.below (fun k e => by omega) (by have := kD.size; omega)
    exact b1.trans (b2.trans b3)
  · have := (rf.lt k e).1; omega
  · have := (rw_.lt k e).1; omega
  · have := (hv.lt k e).1; omega
  · have := (hv.lt k e).1; omega
set_option maxRecDepth 100000 in
set_option maxHeartbeats 3200000 in
theorem open_any (x : Dl) (w : World) (h : DIn w w.heap.size x) (ok : DOk x) :
    Calls Tryz.prog 93 #[x.val] w fun e w' => Below w.heap.size w w' ∧ if goodD x.d then Opened w w' x e else e = .returned (.tuple #[zeroWk, .int .i64 8]) := by
  obtain ⟨V, hV, hVb, hVs, oD, oR⟩ := open_box w x
  have hk := h.keep hVb
  have y1 := Lib.hid (dcheck_anyK x V hk ok)
  have H := Lib.hid (And.intro hk (And.intro hVb (And.intro hVs (And.intro oD (And.intro oR ok)))))
  obtain ⟨d0, d1, d2, d3, d4⟩ := own5 oD
  unfold Dl.val at y1
  unfold Dl.val
  unfold chkD at y1
  clear h ok hk hVb hVs oD oR
  cases hg : goodD x.d
  · rw [hg] at y1
    simp only [Bool.false_eq_true, if_false] at y1 ⊢
    unfold zeroWk
    clear hg
    go_enter Tryz.func93, Tryz.ntmps93
    go_upto_region 1 with fail
    rw [← hV]
    clear hV
    go_wp2_with fail
    refine y1.out.mono ?_
    rintro _ w1 ⟨rfl, b1⟩
    have oR1 := H.out.2.2.2.2.1.past b1 H.out.2.2.2.2.1.inside
    obtain ⟨r0, r1, r2, r3, r4, r5, r6⟩ := own7K oR1
    obtain ⟨f0, f1, f2, f3, f4, f5, f6⟩ := open7 oR1
    have oE := set7_own oR1 (.slice none 0 0) (.slice none 0 0) (.int .i64 0) (.bool false) (.int .i64 0) (.slice none 0 0) (.int .i64 0)
    unfold set7 at oE
    obtain ⟨e0, e1, e2, e3, e4, e5, e6⟩ := own7K oE
    have hb1 := H.out.2.1.trans (b1.mono H.out.2.1.size)
    have HX := Lib.hid ((((((((hb1.setCell (p := ⟨w.heap.size + 1, 0, none⟩) (by simp) (.slice none 0 0)).setCell (p := ⟨w.heap.size + 1, 1, none⟩) (by simp) (.slice none 0 0)).setCell (p := ⟨w.heap.size + 1, 2, none⟩) (by simp) (.int .i64 0)).setCell (p := ⟨w.heap.size + 1, 3, none⟩) (by simp) (.bool false)).setCell (p := ⟨w.heap.size + 1, 4, none⟩) (by simp) (.int .i64 0)).setCell (p := ⟨w.heap.size + 1, 5, none⟩) (by simp) (.slice none 0 0)).setCell (p := ⟨w.heap.size + 1, 6, none⟩) (by simp) (.int .i64 0)))
    clear oR1 oE hb1 b1 y1 d0 d1 d2 d3 d4
    go_wp2_with fail
    exact bodyPost_ret (v := .tuple #[.agg #[.slice none 0 0, .slice none 0 0, .int .i64 0, .bool false, .int .i64 0, .slice none 0 0, .int .i64 0], .int .i64 8]) (by simp [results, Tryz.results93, go_sem, e0, e1, e2, e3, e4, e5, e6]) rfl ⟨HX.out, rfl⟩
  · rw [hg] at y1
    simp only [if_true] at y1 ⊢
    clear hg
    go_enter Tryz.func93, Tryz.ntmps93
    go_upto_region 1 with fail
    rw [← hV]
    clear hV
    go_wp2_with fail
    refine y1.out.mono ?_
    rintro _ w1 ⟨rfl, b1⟩
    have k1 := H.out.1.keep b1
    have y2 := Lib.hid (look_any x.fA x.wA x.fc x.wc x.files x.waits w1 k1.files k1.waits H.out.2.2.2.2.2.wt)
    have oD1 := H.out.2.2.2.1.past b1 H.out.2.2.2.1.inside
    have HB1 := Lib.hid (And.intro b1 k1)
    clear d0 d1 d2 d3 d4 y1 b1 k1
    obtain ⟨d0, d1, d2, d3, d4⟩ := own5 oD1
    clear oD1
    go_wp2_with fail
    refine y2.out.mono ?_
    rintro _ w2 ⟨A, c, l, rfl, hv, hfl, hs, hw, hB⟩
    obtain ⟨W, hW, hWb, hW1, hWs, hat⟩ := looked_box 151 hv hs hw H.out.2.2.2.2.2.wt hB
    have HL := Lib.hid (And.intro hat (And.intro hfl (And.intro hw (And.intro hs (And.intro (HB1.out.1.trans (hWb.mono HB1.out.1.size)) (And.intro (HB1.out.2.keep hWb) hWs))))))
    clear y2 hv hfl hs hw hB hWb hW1 hat d0 d1 d2 d3 d4 hWs
    go_upto_region 5 with fail
    rw [← hW]
    clear hW
    have hDW : w.heap.size < W.heap.size := by have := HL.out.2.2.2.2.1.size; have := H.out.2.2.1; omega
    have oDW := H.out.2.2.2.1.past HL.out.2.2.2.2.1 H.out.2.2.2.1.inside
    have lf : x.files.length ≤ 1099511627776 := by have := len_le_wtF x.files; have := H.out.2.2.2.2.2.wt; unfold wtD Dl.d at this; dsimp only at this; omega
    have lw : x.waits.length ≤ 1099511627776 := by have := len_le_wtW x.waits; have := H.out.2.2.2.2.2.wt; unfold wtD Dl.d at this; dsimp only at this; omega
    have y51 := fun W' (hb : Below W.heap.size W W') => Lib.hid (cloneFl_any x.fA x.fc x.files W' (HL.out.2.2.2.2.2.1.keep hb).files lf)
    have y52 := fun W' (hb : Below W.heap.size W W') => Lib.hid (cloneWr_any x.wA x.wc x.waits W' (HL.out.2.2.2.2.2.1.keep hb).waits lw)
    have hself : Below W.heap.size W W.drew := Below.drew (Below.refl _ _)
    obtain ⟨d0, d1, d2, d3, d4⟩ := own5 oDW
    have HD := Lib.hid (And.intro oDW hDW)
    clear oDW hDW lf lw
    go_cut [3] (fun s3 wx => s3 = .int .i64 0 ∧ OpenMid W w.heap.size x wx)
    case first =>
      go_wp2_with fail
      go_region_with (first | (go_at_call 140; refine (y51 _ (by first | exact hbb | exact hself)).out.mono ?_; rintro _ wa ⟨Af, cf, rfl, rf, bf⟩; have hba : Below W.heap.size W wa := (by first | exact belows hbb bf | exact belows hself bf); have oa := HD.out.1.past hba HD.out.1.inside; obtain ⟨p0, p1, p2, p3, p4⟩ := own5 oa; have pz0 := oa.open_ 0; have pz1 := oa.open_ 1) | (go_at_call 141; refine (y52 _ (by first | exact hba | exact hself)).out.mono ?_; rintro _ wb ⟨Aw, cw, rfl, rw_, bw⟩; have hbb : Below W.heap.size W wb := (by first | exact belows hba bw | exact belows hself bw); have ob := HD.out.1.past hbb HD.out.1.inside; obtain ⟨q0, q1, q2, q3, q4⟩ := own5 ob; have qz0 := ob.open_ 0; have qz1 := ob.open_ 1))
      all_goals
        go_wp2_with fail
        go_meet
        first
          | exact ⟨rfl, open_mid HD.out.2 hbb ob (own_below rf bw) rw_ (Nat.le_refl _) hba.size⟩
          | exact ⟨rfl, open_mid HD.out.2 hba oa rf (own_below rw_ bf) hbb.size (Nat.le_refl _)⟩
    case rest =>
      obtain ⟨rfl, Af, cf, Aw, cw, oD, rf, rw_, kD⟩ := hcut
      have oR1 := kD.own (H.out.2.2.2.2.1.past HL.out.2.2.2.2.1 H.out.2.2.2.2.1.inside) (by omega)
      have hww : w.heap.size < w2.heap.size := by have := HD.out.2; have := HL.out.2.2.2.2.2.2; have := HB1.out.1.size; have := H.out.2.2.1; have := HL.out.1.own.inside; have := HL.out.1.le; omega
      have oS := kD.own HL.out.1.own (by omega)
      obtain ⟨q0, q1, q2, q3, q4⟩ := own5 oD
      have s0 := oS.at_ 0
      have s1 := oS.at_ 1
      simp only [List.getElem?_cons_zero, List.getElem?_cons_succ] at s0 s1
      obtain ⟨r0, r1, r2, r3, r4, r5, r6⟩ := own7K oR1
      obtain ⟨f0, f1, f2, f3, f4, f5, f6⟩ := open7 oR1
      have oE := set7_own oR1 (.slice Af x.files.length cf) (.slice Aw x.waits.length cw) (.int .i64 x.room) (.bool x.down) (.int .i64 x.fuse) (.slice A l.length c) (.int .i64 (szF (flV l) : Int))
      have kE := set7_kept wc (w.heap.size + 1) (.slice Af x.files.length cf) (.slice Aw x.waits.length cw) (.int .i64 x.room) (.bool x.down) (.int .i64 x.fuse) (.slice A l.length c) (.int .i64 (szF (flV l) : Int))
      have HX := Lib.hid (open_last (R := w1.heap.size) HL.out.1.vis HL.out.2.2.2.2.1 H.out.2.1 rfl H.out.2.2.1 rf rw_ kD kE (by have := HB1.out.1.size; have := H.out.2.2.1; omega))
      unfold set7 at oE HX
      obtain ⟨e0, e1, e2, e3, e4, e5, e6⟩ := own7K oE
      clear oR1 oS oD rf rw_ kD oE kE d0 d1 d2 d3 d4
      go_wp2_with fail
      exact bodyPost_ret (v := .tuple #[.agg #[.slice Af x.files.length cf, .slice Aw x.waits.length cw, .int .i64 x.room, .bool x.down, .int .i64 x.fuse, .slice A l.length c, .int .i64 (szF (flV l) : Int)], .int .i64 0]) (by simp [results, Tryz.results93, go_sem, e0, e1, e2, e3, e4, e5, e6]) rfl ⟨HX.out.1, Af, cf, Aw, cw, A, c, l, rfl, HX.out.2.1, HX.out.2.2.1, HX.out.2.2.2, HL.out.2.1, HL.out.2.2.2.1, HL.out.2.2.1⟩
end Go.Proofs.YtllpfngmnccejaaGreat
namespace Go.Proofs.YtllpfngmnccejaaGreat
open Go Go.RowKit

theorem own_row_ne {w : World} {K b s n : Nat} {t e : TypeId} {cs xs : List Value} {v : Value} (h : Own w K t cs) (r : w.ownsRow b e s v n xs) (hne : t ≠ e) : ∀ k, v.ownBlock = some k → k ≠ K := by
  intro k hk hkK
  rcases r.2 with ⟨rfl, _⟩ | ⟨g, cap, cur, rfl, _, hg, _⟩
  · cases hk
  · have e1 : g = k := Option.some.inj hk
    subst e1
    subst hkK
    unfold Own at h
    rw [h] at hg
    injection hg with hg
    injection hg with _ h2 _
    exact hne h2
theorem row_row_ne {w : World} {b s n b' s' n' : Nat} {t e : TypeId} {xs xs' : List Value} {v v' : Value} (h : w.ownsRow b t s v n xs) (r : w.ownsRow b' e s' v' n' xs') (hne : t ≠ e) : ∀ k, v.ownBlock = some k → v'.ownBlock ≠ some k := by
  intro k hk hk'
  rcases h.2 with ⟨rfl, _⟩ | ⟨g, cap, cur, rfl, _, hg, _⟩
  · cases hk
  · have e1 : g = k := Option.some.inj hk
    subst e1
    have ho : Own w g t cur.toList := by unfold Own; simpa using hg
    exact own_row_ne ho r hne g hk' rfl
/-- a row of another type lies apart from what is seen -/
theorem vis_row_ne {w : World} {base b s n : Nat} {e : TypeId} {xs : List Value} {v : Value} {A : Option Addr} {c : Nat} {l : List Vf} (h : Vis w base A c l) (r : w.ownsRow b e s v n xs) (h1 : e ≠ 210) (h2 : e ≠ 9) : ∀ k, v.ownBlock = some k → ¬ Fp A l k := by
  intro k hk hx
  rcases hx with hx | ⟨f, hf, hx⟩
  · exact row_row_ne r h.row h1 k hk (by rw [blk_own]; exact hx)
  · exact row_row_ne r (h.parts f hf) h2 k hk (by rw [blk_own]; exact hx)
def wkC (x : Dl) (A : Option Addr) (c : Nat) (l : List Vf) : List Value := [.slice x.fA x.files.length x.fc, .slice x.wA x.waits.length x.wc, .int .i64 x.room, .bool x.down, .int .i64 x.fuse, .slice A l.length c, .int .i64 (szF (flV l) : Int)]
structure Wk (w : World) (base K : Nat) (x : Dl) (A : Option Addr) (c : Nat) (l : List Vf) : Prop where
  at_ : VisAt w base K 5 153 (wkC x A c l) A c l
  files : w.ownsRow base 199 2 (.slice x.fA x.files.length x.fc) x.files.length (x.files.flatMap Fl.cells)
  waits : w.ownsRow base 95 4 (.slice x.wA x.waits.length x.wc) x.waits.length (x.waits.flatMap Wr.cells)
  hK : base ≤ K
theorem Wk.cells {w : World} {base K : Nat} {x : Dl} {A : Option Addr} {c : Nat} {l : List Vf} (h : Wk w base K x A c l) : w.cell? ⟨K, 0, none⟩ = some (.slice x.fA x.files.length x.fc) ∧ w.cell? ⟨K, 1, none⟩ = some (.slice x.wA x.waits.length x.wc) ∧ w.cell? ⟨K, 2, none⟩ = some (.int .i64 x.room) ∧ w.cell? ⟨K, 3, none⟩ = some (.bool x.down) ∧ w.cell? ⟨K, 4, none⟩ = some (.int .i64 x.fuse) ∧ w.cell? ⟨K, 5, none⟩ = some (.slice A l.length c) ∧ w.cell? ⟨K, 6, none⟩ = some (.int .i64 (szF (flV l) : Int)) := own7K h.at_.own
theorem Wk.opens {w : World} {base K : Nat} {x : Dl} {A : Option Addr} {c : Nat} {l : List Vf} (h : Wk w base K x A c l) : w.frozen? ⟨K, 0, none⟩ = false ∧ w.frozen? ⟨K, 1, none⟩ = false ∧ w.frozen? ⟨K, 2, none⟩ = false ∧ w.frozen? ⟨K, 3, none⟩ = false ∧ w.frozen? ⟨K, 4, none⟩ = false ∧ w.frozen? ⟨K, 5, none⟩ = false ∧ w.frozen? ⟨K, 6, none⟩ = false := open7 h.at_.own
theorem Wk.below {w w' : World} {base K : Nat} {x : Dl} {A : Option Addr} {c : Nat} {l : List Vf} (h : Wk w base K x A c l) (hb : Below w.heap.size w w') : Wk w' base K x A c l :=
  ⟨h.at_.below hb, own_below h.files hb, own_below h.waits hb, h.hK⟩
theorem Wk.fne {w : World} {base K : Nat} {x : Dl} {A : Option Addr} {c : Nat} {l : List Vf} (h : Wk w base K x A c l) : ∀ k, blk x.fA = some k → k ≠ K ∧ ¬ Fp A l k ∧ blk x.wA ≠ some k := fun k e => by
  have e' : (Value.slice x.fA x.files.length x.fc).ownBlock = some k := by rw [blk_own]; exact e
  refine ⟨own_row_ne h.at_.own h.files (by decide) k e', vis_row_ne h.at_.vis h.files (by decide) (by decide) k e', fun he => ?_⟩
  exact row_row_ne h.files h.waits (by decide) k e' (by rw [blk_own]; exact he)
theorem Wk.wne {w : World} {base K : Nat} {x : Dl} {A : Option Addr} {c : Nat} {l : List Vf} (h : Wk w base K x A c l) : ∀ k, blk x.wA = some k → k ≠ K ∧ ¬ Fp A l k := fun k e => by
  have e' : (Value.slice x.wA x.waits.length x.wc).ownBlock = some k := by rw [blk_own]; exact e
  exact ⟨own_row_ne h.at_.own h.waits (by decide) k e', vis_row_ne h.at_.vis h.waits (by decide) (by decide) k e'⟩
/-- a cell of the disk itself turned -/
theorem Wk.turn {w : World} {base K i : Nat} {x y : Dl} {A : Option Addr} {c : Nat} {l : List Vf} {u : Value} (h : Wk w base K x A c l) (hi : i < 5) (hc : (wkC x A c l).set i u = wkC y A c l) (hf : y.fA = x.fA ∧ y.fc = x.fc ∧ y.files = x.files) (hw : y.wA = x.wA ∧ y.wc = x.wc ∧ y.waits = x.waits) :
    Wk (w.setCell ⟨K, i, none⟩ u) base K y A c l ∧ KeptK w (w.setCell ⟨K, i, none⟩ u) (fun k => k = K) := by
  have kk : KeptK w (w.setCell ⟨K, i, none⟩ u) (fun k => k = K) := (KeptK.refl w (fun k => k = K)).set_ (.inl rfl) u
  obtain ⟨f1, f2, f3⟩ := hf
  obtain ⟨w1, w2, w3⟩ := hw
  refine ⟨⟨⟨by rw [← hc]; exact h.at_.own.set_ i u, rfl, rfl, h.at_.vis.kept kk (fun k hk e => h.at_.out (by rw [← e]; exact hk)), h.at_.out, h.at_.sorted, h.at_.wt, Nat.le_trans h.at_.le kk.size⟩, ?_, ?_, h.hK⟩, kk⟩
  · rw [f1, f2, f3]; exact kk.row h.files (fun k e he => (h.fne k (by rw [← blk_own x.fA]; exact e)).1 he)
  · rw [w1, w2, w3]; exact kk.row h.waits (fun k e he => (h.wne k (by rw [← blk_own x.wA]; exact e)).1 he)
def burnL (x : Dl) : Dl := if x.fuse = 0 then ⟨x.fA, x.fc, x.files, x.wA, x.wc, x.waits, x.room, true, x.fuse⟩ else ⟨x.fA, x.fc, x.files, x.wA, x.wc, x.waits, x.room, x.down, lessN x.fuse⟩
set_option maxRecDepth 100000 in
set_option maxHeartbeats 1600000 in
theorem burn_any (base K : Nat) (x : Dl) (A : Option Addr) (c : Nat) (l : List Vf) (w : World) (h : Wk w base K x A c l) (ok : -9223372036854775808 ≤ x.fuse ∧ x.fuse ≤ 9223372036854775807) :
    Calls Tryz.prog 146 #[.pointer (some ⟨K, 0, none⟩)] w fun e w' => e = .returned (.bool (decide (x.fuse ≠ 0))) ∧ Wk w' base K (burnL x) A c l ∧ KeptK w w' (fun k => k = K) := by
  obtain ⟨d0, d1, d2, d3, d4, d5, d6⟩ := h.cells
  obtain ⟨f0, f1, f2, f3, f4, f5, f6⟩ := h.opens
  unfold burnL
  by_cases h0 : x.fuse = 0
  · have HX := Lib.hid (h.turn (i := 3) (u := .bool true) (y := ⟨x.fA, x.fc, x.files, x.wA, x.wc, x.waits, x.room, true, x.fuse⟩) (by decide) rfl ⟨rfl, rfl, rfl⟩ ⟨rfl, rfl, rfl⟩)
    rw [if_pos h0]
    rw [h0] at d4
    have hd : decide (x.fuse ≠ 0) = false := by rw [h0]; rfl
    rw [hd]
    clear h ok h0 hd
    go_enter Tryz.func146, Tryz.ntmps146
    go_wp2_with fail
    go_ret
    exact ⟨rfl, HX.out.1, HX.out.2⟩
  · rw [if_neg h0]
    have hd : decide (x.fuse ≠ 0) = true := decide_eq_true h0
    rw [hd]
    have t1 : (x.fuse == 0) = false := beq_eq_false_iff_ne.2 h0
    have hl : lessN x.fuse = if 0 < x.fuse then x.fuse - 1 else x.fuse := rfl
    by_cases hp : 0 < x.fuse
    · have t2 : decide (0 < x.fuse) = true := decide_eq_true hp
      rw [if_pos hp] at hl
      have HX := Lib.hid (h.turn (i := 4) (u := .int .i64 (x.fuse - 1)) (y := ⟨x.fA, x.fc, x.files, x.wA, x.wc, x.waits, x.room, x.down, lessN x.fuse⟩) (by decide) (by rw [hl]; rfl) ⟨rfl, rfl, rfl⟩ ⟨rfl, rfl, rfl⟩)
      have hw : IntKind.i64.wrap (x.fuse - 1) = x.fuse - 1 := by rw [IntKind.wrap_i64]; omega
      clear h ok h0 hd hl hp
      go_enter Tryz.func146, Tryz.ntmps146
      go_wp2_with fail
      go_ret
      exact ⟨rfl, HX.out.1, HX.out.2⟩
    · have t2 : decide (0 < x.fuse) = false := decide_eq_false hp
      rw [if_neg hp] at hl
      rw [hl]
      have HX := Lib.hid h
      clear h ok h0 hd hl hp
      go_enter Tryz.func146, Tryz.ntmps146
      go_wp2_with fail
      go_ret
      exact ⟨rfl, HX.out, KeptK.refl _ _⟩
end Go.Proofs.YtllpfngmnccejaaGreat
namespace Go.Proofs.YtllpfngmnccejaaGreat
open Go Go.RowKit

/-- behind what turned what is seen -/
theorem wk_sees {w w' : World} {base K : Nat} {x : Dl} {A A' : Option Addr} {c c' : Nat} {l l' : List Vf} (h : Wk w base K x A c l) (k : VisTo w w' base K 5 153 (wkC x A c l) (Fp A l) A' c' l') : Wk w' base K x A' c' l' ∧ Below base w w' := by
  refine ⟨⟨k.at_, k.kept.row h.files (fun b e he => ?_), k.kept.row h.waits (fun b e he => ?_), h.hK⟩, k.kept.below (fun b e => ?_) h.at_.le⟩
  · rw [blk_own] at e
    obtain ⟨h1, h2, _⟩ := h.fne b e
    rcases he with he | he
    · exact h1 he
    · exact h2 he
  · rw [blk_own] at e
    obtain ⟨h1, h2⟩ := h.wne b e
    rcases he with he | he
    · exact h1 he
    · exact h2 he
  · rcases e with e | e
    · have := h.hK; omega
    · exact (h.at_.vis.lt b e).1
/-- a write more that waits -/
def moreL (x : Dl) (Aw : Option Addr) (cw : Nat) (r : Wr) : Dl := ⟨x.fA, x.fc, x.files, Aw, cw, x.waits ++ [r], x.room, x.down, x.fuse⟩
theorem wk_append {w W w2 : World} {base K : Nat} {x : Dl} {A : Option Addr} {c : Nat} {l : List Vf} {r : Wr} {Aw : Option Addr} {cw : Nat} (h : Wk w base K x A c l) (bW : Below w.heap.size w W) (hg : W.grownBy w2 (Value.slice x.wA x.waits.length x.wc).ownBlock)
    (ho : w2.ownsRow base 95 4 (.slice Aw (x.waits.length + [r].length) cw) (x.waits.length + [r].length) (x.waits.flatMap Wr.cells ++ [r].flatMap Wr.cells)) :
    Wk (w2.setCell ⟨K, 1, none⟩ (.slice Aw (x.waits.length + 1) cw)) base K (moreL x Aw cw r) A c l ∧ Below base w (w2.setCell ⟨K, 1, none⟩ (.slice Aw (x.waits.length + 1) cw)) := by
  rw [blk_own] at hg
  have kg : KeptK w w2 (fun k => blk x.wA = some k) := (KeptK.of_below bW (Nat.le_refl _) (fun k => blk x.wA = some k)).trans (KeptK.of_grown hg (fun _ e => e)) (fun _ _ e => e)
  have o2 := kg.own h.at_.own (fun e => (h.wne K e).1 rfl)
  have v2 := h.at_.vis.kept kg (fun k hk e => (h.wne k e).2 hk)
  have f2 := kg.row h.files (fun k e he => (h.fne k (by rw [← blk_own x.fA]; exact e)).2.2 he)
  have kk : KeptK w2 (w2.setCell ⟨K, 1, none⟩ (.slice Aw (x.waits.length + 1) cw)) (fun k => k = K) := (KeptK.refl w2 (fun k => k = K)).set_ (.inl rfl) _
  have k3 : KeptK w (w2.setCell ⟨K, 1, none⟩ (.slice Aw (x.waits.length + 1) cw)) (fun k => k = K ∨ blk x.wA = some k) := (kg.more (fun k e => .inr e)).trans kk (fun k _ e => .inl e)
  have hl : (x.waits ++ [r]).length = x.waits.length + 1 := by simp
  refine ⟨⟨⟨?_, rfl, rfl, v2.kept kk (fun k hk e => h.at_.out (by rw [← e]; exact hk)), h.at_.out, h.at_.sorted, h.at_.wt, Nat.le_trans h.at_.le k3.size⟩, kk.row f2 (fun k e he => (h.fne k (by rw [← blk_own x.fA]; exact e)).1 he), ?_, h.hK⟩, k3.below (fun k e => ?_) h.at_.le⟩
  · have := o2.set_ 1 (.slice Aw (x.waits.length + 1) cw)
    unfold wkC moreL
    rw [hl]
    exact this
  · unfold moreL
    dsimp only
    rw [hl, List.flatMap_append]
    exact kk.row ho (own_row_ne o2 ho (by decide))
  · rcases e with e | e
    · have := h.hK; omega
    · exact (h.waits.lt k (by rw [blk_own]; exact e)).1
theorem wk_mid {w W w2 : World} {base K : Nat} {x : Dl} {A : Option Addr} {c : Nat} {l : List Vf} (h : Wk w base K x A c l) (bW : Below w.heap.size w W) (hg : W.grownBy w2 (Value.slice x.wA x.waits.length x.wc).ownBlock) :
    w2.cell? ⟨K, 1, none⟩ = some (.slice x.wA x.waits.length x.wc) ∧ w2.frozen? ⟨K, 1, none⟩ = false := by
  rw [blk_own] at hg
  have kg : KeptK w w2 (fun k => blk x.wA = some k) := (KeptK.of_below bW (Nat.le_refl _) (fun k => blk x.wA = some k)).trans (KeptK.of_grown hg (fun _ e => e)) (fun _ _ e => e)
  have o2 := kg.own h.at_.own (fun e => (h.wne K e).1 rfl)
  exact ⟨o2.at_ 1, o2.open_ 1⟩
theorem wr_made (w : World) (x : Wr) : Lies 4 Wr.cells (w.alloc (.cells #[.int .u8 x.k, .string x.n, .string x.t, .string x.d] 95)) (w.heap.size + 1) (some ⟨w.heap.size, 0, none⟩) [x] := fun _ => by
  refine ⟨w.heap.size, 0, rfl, by omega, fun i y hy j u hu => ?_⟩
  match i, hy with
  | 0, hy =>
    obtain rfl : x = y := by simpa using hy
    have := (Own.made w 95 x.cells).at_ j
    rw [show 0 + 0 * 4 + j = j by omega]
    exact this.trans hu
theorem own4 {w : World} {P : Nat} {t : TypeId} {a0 a1 a2 a3 : Value} (h : Own w P t [a0, a1, a2, a3]) :
    w.cell? ⟨P, 0, none⟩ = some a0 ∧ w.cell? ⟨P, 1, none⟩ = some a1 ∧ w.cell? ⟨P, 2, none⟩ = some a2 ∧ w.cell? ⟨P, 3, none⟩ = some a3 :=
  ⟨h.at_ 0, h.at_ 1, h.at_ 2, h.at_ 3⟩
/-- a write that is right, on a disk that is on -/
def writeD2 (d : Dk) (l : List Fl) (w : Wr) : Dk × List Fl × Int :=
  if w.k ≠ 1 ∧ hasF l w.n = false then (d, l, 5) else
  if 4096 ≤ d.waits.length ∨ 256 < (appF l w).length ∨ d.room < (szF (appF l w) : Int) then (d, appF l w, 9) else
  if d.fuse = 0 then (⟨d.files, if w.k = 1 then d.waits ++ [w] else d.waits, d.room, true, d.fuse⟩, appF l w, 7)
  else (⟨d.files, d.waits ++ [w], d.room, d.down, lessN d.fuse⟩, appF l w, 0)
theorem writeD_two (d : Dk) (l : List Fl) (w : Wr) : writeD d l w = if d.down = true then (d, l, 7) else if rightW w = false then (d, l, 4) else writeD2 d l w := rfl
/-- what a write comes to -/
def Wrote (w w' : World) (base K : Nat) (l : List Vf) (r : Wr) (e : Ending) (s : Dk × List Fl × Int) : Prop :=
  ∃ y A' c' l', e = .returned (.int .i64 s.2.2) ∧ Wk w' base K y A' c' l' ∧ y.d = s.1 ∧ flV l' = s.2.1 ∧ wtV l' ≤ wtV l + 2 + r.d.size ∧ Below base w w'
set_option maxRecDepth 100000 in
set_option maxHeartbeats 3200000 in
theorem write_any (base K : Nat) (x : Dl) (A : Option Addr) (c : Nat) (l : List Vf) (r : Wr) (w : World) (h : Wk w base K x A c l) (ok : -9223372036854775808 ≤ x.fuse ∧ x.fuse ≤ 9223372036854775807) (hw : wtV l + 2 + r.d.size ≤ 1099511627776) (hlw : x.waits.length ≤ 1099511627776) :
    Calls Tryz.prog 94 #[.pointer (some ⟨K, 0, none⟩), r.val] w fun e w' => Wrote w w' base K l r e (writeD x.d (flV l) r) := by
  obtain ⟨V, hV, hVb, hVs, oV⟩ := wrbox w r
  have hk := h.below hVb
  have hbl := h.at_.le
  obtain ⟨d0, d1, d2, d3, d4, d5, d6⟩ := hk.cells
  obtain ⟨b0, b1, b2, b3⟩ := own4 oV
  have HV := Lib.hid (And.intro h (And.intro (below_then (Below.refl base w) hbl hVb) (And.intro oV (And.intro hk ok))))
  unfold Wr.val
  rw [writeD_two]
  have hdn : x.d.down = x.down := rfl
  rw [hdn]
  clear h ok hVb hVs oV hk hdn
  by_cases hd : x.down = true
  · rw [if_pos hd]
    rw [hd] at d3
    clear hd
    go_enter Tryz.func94, Tryz.ntmps94
    go_upto_region 1 with fail
    rw [← hV]
    clear hV
    go_wp2_with fail
    go_ret
    exact ⟨x, A, c, l, rfl, HV.out.2.2.2.1, rfl, rfl, by omega, HV.out.2.1⟩
  rw [if_neg hd]
  have hd' : x.down = false := by simpa using hd
  rw [hd'] at d3
  have y1 := Lib.hid (rightW_any r V)
  unfold Wr.val at y1
  clear hd
  by_cases hr : rightW r = false
  · rw [if_pos hr]
    rw [hr] at y1
    clear hr hd'
    go_enter Tryz.func94, Tryz.ntmps94
    go_upto_region 1 with fail
    rw [← hV]
    clear hV
    go_wp2_with fail
    refine y1.out.mono ?_
    rintro _ w1 ⟨rfl, b1'⟩
    have HX := Lib.hid (And.intro (HV.out.2.2.2.1.below b1') (HV.out.2.1.trans (b1'.mono HV.out.2.2.2.1.at_.le)))
    clear b1'
    go_wp2_with fail
    go_ret
    exact ⟨x, A, c, l, rfl, HX.out.1, rfl, rfl, by omega, HX.out.2⟩
  rw [if_neg hr]
  have hr' : rightW r = true := by simpa using hr
  rw [hr'] at y1
  have HD := Lib.hid hd'
  clear hr hr' hd'
  go_enter Tryz.func94, Tryz.ntmps94
  go_upto_region 1 with fail
  rw [← hV]
  clear hV
  go_wp2_with fail
  refine y1.out.mono ?_
  rintro _ w1 ⟨rfl, b1'⟩
  have k1 := HV.out.2.2.2.1.below b1'
  have o1 := HV.out.2.2.1.past b1' HV.out.2.2.1.inside
  have HX := Lib.hid (And.intro k1 (And.intro o1 (HV.out.2.1.trans (b1'.mono HV.out.2.2.2.1.at_.le))))
  have yh := fun (p : Past w1) => let q := k1.below p.h; Lib.hid (has_any K 5 base _ _ A c l r.n p.w q.at_.own q.at_.c0 q.at_.vis.row q.at_.sorted (by have := len_le_wt l; have := q.at_.wt; omega))
  clear d0 d1 d2 d3 d4 d5 d6 b0 b1 b2 b3 b1' y1
  obtain ⟨b0, b1, b2, b3⟩ := own4 o1
  have p0 : ∀ p : Past w1, p.w.cell? ⟨w.heap.size, 0, none⟩ = some (.int .u8 r.k) := fun p => (p.h.cell (p := ⟨w.heap.size, 0, none⟩) o1.inside).trans b0
  have p1 : ∀ p : Past w1, p.w.cell? ⟨w.heap.size, 1, none⟩ = some (.string r.n) := fun p => (p.h.cell (p := ⟨w.heap.size, 1, none⟩) o1.inside).trans b1
  clear k1 o1
  obtain ⟨hh, hhe⟩ : ∃ hh, hh = hasN (namesV l) r.n := ⟨_, rfl⟩
  rw [← hhe] at yh
  have HHE := Lib.hid (show hasF (flV l) r.n = hh by rw [has_fl, hhe])
  clear hhe
  obtain ⟨b5, hb5⟩ : ∃ b5, b5 = decide (r.k ≠ 1 ∧ hh = false) := ⟨_, rfl⟩
  have HB5 := Lib.hid hb5
  clear hb5
  go_upto_region 5 with fail
  go_cut [25] (fun s25 wx => s25 = .bool b5 ∧ Below w1.heap.size w1 wx)
  case first =>
    by_cases hk1 : r.k = 1
    · have t1 : (r.k != 1) = false := by simp [hk1]
      have hz := Lib.hid (show b5 = false by rw [HB5.out]; exact decide_eq_false (fun e => e.1 hk1))
      clear hk1
      refine wp_region_past w1 (by kernel_rfl) (by kernel_rfl) (Below.refl _ _) ?_
      repeat (first | go_big_quiet_step (fail) | quiet_step (fail))
      refine wpQuiet_nil ?_
      intro wz hw'
      obtain ⟨⟨wy, hbz⟩, hw''⟩ := hw'
      dsimp only at hw''
      subst hw''
      go_wp2_with fail
      go_meet
      exact ⟨by rw [hz.out], hbz⟩
    · have t1 : (r.k != 1) = true := bne_iff_ne.2 hk1
      have hz := Lib.hid (show b5 = !hh by rw [HB5.out]; cases hh <;> simp [hk1])
      clear hk1
      refine wp_region_past w1 (by kernel_rfl) (by kernel_rfl) (Below.refl _ _) ?_
      repeat (first | go_big_quiet_step ((go_at_call 143; exact calls_past (yh _).out)) | quiet_step ((go_at_call 143; exact calls_past (yh _).out)))
      refine wpQuiet_nil ?_
      intro wz hw'
      obtain ⟨⟨wy, hbz⟩, hw''⟩ := hw'
      dsimp only at hw''
      subst hw''
      go_wp2_with fail
      go_meet
      exact ⟨by rw [hz.out], hbz⟩
  case rest =>
    obtain ⟨rfl, bc⟩ := hcut
    have kc := HX.out.1.below bc
    have oc := HX.out.2.1.past bc HX.out.2.1.inside
    have hbc : Below base w wc := HX.out.2.2.trans (bc.mono HX.out.1.at_.le)
    clear yh b0 b1 b2 b3 bc p0 p1
    by_cases h5 : r.k ≠ 1 ∧ hh = false
    · have e5 := Lib.hid (show writeD2 x.d (flV l) r = (x.d, flV l, 5) by unfold writeD2; rw [if_pos ⟨h5.1, by rw [HHE.out]; exact h5.2⟩])
      have hz5 : b5 = true := by rw [HB5.out]; exact decide_eq_true h5
      subst hz5
      have HC := Lib.hid (And.intro kc hbc)
      clear kc oc hbc h5
      go_wp2_with fail
      go_ret
      rw [e5.out]
      exact ⟨x, A, c, l, rfl, HC.out.1, rfl, rfl, by omega, HC.out.2⟩
    have e5 := Lib.hid (show writeD2 x.d (flV l) r = _ by unfold writeD2; rw [if_neg (fun e => h5 ⟨e.1, by rw [← HHE.out]; exact e.2⟩)])
    have hz5 : b5 = false := by rw [HB5.out]; exact decide_eq_false h5
    subst hz5
    clear h5 HB5
    have y3 := fun W (hb : Below wc.heap.size wc W) => Lib.hid (apply_any base K 5 _ _ A c l r W (kc.at_.below hb) hw)
    have HC := Lib.hid (And.intro kc (And.intro oc hbc))
    obtain ⟨b0, b1, b2, b3⟩ := own4 oc
    unfold Wr.val at y3
    clear kc oc hbc
    go_wp2_with fail
    go_region_with (go_at_call 144; refine (y3 _ (Below.drew (Below.refl _ _))).out.mono ?_; rintro _ w3 ⟨rfl, hs⟩)
    all_goals
      obtain ⟨A', c', l', hv, hfl, hwl⟩ := hs
      obtain ⟨k3, hb3⟩ := wk_sees (HC.out.1.below (Below.drew (Below.refl _ _))) hv
      have o3 := hv.kept.own (own_drewK HC.out.2.1) (fun e => by
        rcases e with e | e
        · have := HV.out.1.at_.own.inside; omega
        · have := (HV.out.1.at_.vis.lt _ e).2; omega)
      have hb4 : Below base w w3 := HC.out.2.2.trans (below_undrew hb3)
      have HS := Lib.hid (And.intro k3 (And.intro o3 (And.intro hb4 (And.intro hfl hwl))))
      have hfl : flV l' = appF (flV l) r := hfl
      have hln : (appF (flV l) r).length = l'.length := by rw [← hfl]; unfold flV; simp
      have hsz : szF (appF (flV l) r) = szF (flV l') := by rw [hfl]
      have HE := Lib.hid (And.intro hln hsz)
      have ym := fun (p : Past w3) => let q := k3.below p.h; Lib.hid ((many_any K 5 _ _ A' c' l'.length p.w q.at_.own q.at_.c0).mono fun e w' (h : e = _ ∧ p.w = w') => (⟨h.1, by rw [← h.2]; exact Below.refl _ _⟩ : e = .returned (.bool (decide ((256 : Int) < (l'.length : Int)))) ∧ Below p.w.heap.size p.w w'))
      obtain ⟨d0, d1, d2, d3, d4, d5, d6⟩ := k3.cells
      clear b0 b1 b2 b3 y3 hv hfl hwl k3 hb3 o3 hb4 hln hsz
      obtain ⟨Z, hZ⟩ : ∃ Z, Z = szF (flV l') := ⟨_, rfl⟩
      have HZ := Lib.hid hZ
      rw [← hZ] at d6
      clear hZ
      have q1 : x.waits.length < 9223372036854775808 := by omega
      rw [HE.out.1, HE.out.2, ← HZ.out] at e5
      obtain ⟨b8, hb8⟩ : ∃ b8, b8 = decide (4096 ≤ x.waits.length ∨ 256 < l'.length ∨ x.room < (Z : Int)) := ⟨_, rfl⟩
      have HB8 := Lib.hid hb8
      clear hb8
      have p1 := fun p : Past w3 => (p.h.cell (p := ⟨K, 1, none⟩) HS.out.1.at_.own.inside).trans d1
      have p2 := fun p : Past w3 => (p.h.cell (p := ⟨K, 2, none⟩) HS.out.1.at_.own.inside).trans d2
      have p6 := fun p : Past w3 => (p.h.cell (p := ⟨K, 6, none⟩) HS.out.1.at_.own.inside).trans d6
      clear d0 d1 d2 d3 d4 d5 d6
      go_upto_region 8 with fail
      go_cut [56] (fun s56 wx => s56 = .bool b8 ∧ Below w3.heap.size w3 wx)
      case first =>
        have hm1 : decide ((256 : Int) < (l'.length : Int)) = decide (256 < l'.length) := by rw [Bool.eq_iff_iff]; simp; omega
        rw [hm1] at ym
        by_cases g1 : 4096 ≤ x.waits.length
        · have t1 : decide (4096 ≤ x.waits.length) = true := decide_eq_true g1
          have t2 : decide ((4096 : Int) ≤ (x.waits.length : Int)) = true := decide_eq_true (by omega)
          have hz := Lib.hid (show b8 = true by rw [HB8.out]; exact decide_eq_true (.inl g1))
          clear g1
          refine wp_region_past w3 (by kernel_rfl) (by kernel_rfl) (Below.refl _ _) ?_
          repeat (first | go_big_quiet_step ((go_at_call 145; exact calls_past (ym _).out)) | quiet_step ((go_at_call 145; exact calls_past (ym _).out)))
          refine wpQuiet_nil ?_
          intro wz hw'
          obtain ⟨⟨wy, hbz⟩, hw''⟩ := hw'
          dsimp only at hw''
          subst hw''
          go_wp2_with fail
          go_meet
          exact ⟨by rw [hz.out], hbz⟩
        have t1 : decide (4096 ≤ x.waits.length) = false := decide_eq_false g1
        have t2 : decide ((4096 : Int) ≤ (x.waits.length : Int)) = false := decide_eq_false (by omega)
        by_cases g2 : 256 < l'.length
        · rw [decide_eq_true g2] at ym
          have hz := Lib.hid (show b8 = true by rw [HB8.out]; exact decide_eq_true (.inr (.inl g2)))
          clear g1 g2 hm1
          refine wp_region_past w3 (by kernel_rfl) (by kernel_rfl) (Below.refl _ _) ?_
          repeat (first | go_big_quiet_step ((go_at_call 145; exact calls_past (ym _).out)) | quiet_step ((go_at_call 145; exact calls_past (ym _).out)))
          refine wpQuiet_nil ?_
          intro wz hw'
          obtain ⟨⟨wy, hbz⟩, hw''⟩ := hw'
          dsimp only at hw''
          subst hw''
          go_wp2_with fail
          go_meet
          exact ⟨by rw [hz.out], hbz⟩
        · rw [decide_eq_false g2] at ym
          have hz := Lib.hid (show b8 = decide (x.room < (Z : Int)) by rw [HB8.out, Bool.eq_iff_iff]; simp; omega)
          clear g1 g2 hm1
          refine wp_region_past w3 (by kernel_rfl) (by kernel_rfl) (Below.refl _ _) ?_
          repeat (first | go_big_quiet_step ((go_at_call 145; exact calls_past (ym _).out)) | quiet_step ((go_at_call 145; exact calls_past (ym _).out)))
          refine wpQuiet_nil ?_
          intro wz hw'
          obtain ⟨⟨wy, hbz⟩, hw''⟩ := hw'
          dsimp only at hw''
          subst hw''
          go_wp2_with fail
          go_meet
          exact ⟨by rw [hz.out], hbz⟩
      case rest =>
        obtain ⟨rfl, bz⟩ := hcut
        have kz := HS.out.1.below bz
        have oz := HS.out.2.1.past bz HS.out.2.1.inside
        have hbz : Below base w wc := HS.out.2.2.1.trans (bz.mono HS.out.1.at_.le)
        clear p1 p2 p6 ym bz
        by_cases g8 : 4096 ≤ x.waits.length ∨ 256 < l'.length ∨ x.room < (Z : Int)
        · have e6 := Lib.hid (e5.out.trans (if_pos g8))
          have hz8 : b8 = true := by rw [HB8.out]; exact decide_eq_true g8
          subst hz8
          have HC2 := Lib.hid (And.intro kz hbz)
          clear kz oz hbz g8 HB8 e5
          go_wp2_with fail
          go_ret
          rw [e6.out]
          exact ⟨x, A', c', l', rfl, HC2.out.1, rfl, HS.out.2.2.2.1, HS.out.2.2.2.2, HC2.out.2⟩
        have e6 := Lib.hid (e5.out.trans (if_neg g8))
        have hz8 : b8 = false := by rw [HB8.out]; exact decide_eq_false g8
        subst hz8
        have y4 := Lib.hid (burn_any base K x A' c' l' wc kz HV.out.2.2.2.2)
        have HC2 := Lib.hid (And.intro kz (And.intro oz (And.intro hbz g8)))
        have hbK := kz.at_.own.inside
        clear kz oz hbz g8 HB8 e5
        go_wp2_with fail
        refine y4.out.mono ?_
        rintro _ w5 ⟨rfl, k5, hb5⟩
        have o5 := hb5.own HC2.out.2.1 (fun e => by have := HV.out.1.at_.own.inside; omega)
        have hbw5 : Below base w w5 := HC2.out.2.2.1.trans (hb5.below (fun k e => by have := k5.hK; omega) HC2.out.1.at_.le)
        have H5 := Lib.hid (And.intro k5 (And.intro o5 hbw5))
        obtain ⟨b0, b1, b2, b3⟩ := own4 o5
        obtain ⟨d0, d1, d2, d3, d4, d5, d6⟩ := k5.cells
        have z1 := k5.opens.2.1
        obtain ⟨pw, hpw⟩ : ∃ pw, pw = decide (x.fuse ≠ 0) := ⟨_, rfl⟩
        have HPW := Lib.hid hpw
        rw [← hpw]
        obtain ⟨ap, hap⟩ : ∃ ap, ap = (pw || decide (r.k = 1)) := ⟨_, rfl⟩
        have HAP := Lib.hid hap
        clear hpw hap k5 o5 hbw5 hb5 y4
        go_upto_region 11 with fail
        go_cut [64] (fun s64 wx => s64 = .bool ap ∧ w5 = wx)
        case first =>
          cases pw
          · by_cases hk1 : r.k = 1
            · have hz := Lib.hid (show ap = true by rw [HAP.out]; simp [hk1])
              rw [hk1] at b0
              clear hk1
              go_wp2_with fail
              go_meet
              exact ⟨by rw [hz.out], rfl⟩
            · have t1 : (r.k == 1) = false := beq_eq_false_iff_ne.2 hk1
              have hz := Lib.hid (show ap = false by rw [HAP.out]; simp [hk1])
              clear hk1
              go_wp2_with fail
              go_meet
              exact ⟨by rw [hz.out], rfl⟩
          · have hz := Lib.hid (show ap = true by rw [HAP.out]; rfl)
            go_wp2_with fail
            go_meet
            exact ⟨by rw [hz.out], rfl⟩
        case rest =>
          obtain ⟨rfl, rfl⟩ := hcut
          cases ap
          · have h1 : pw = false ∧ r.k ≠ 1 := by
              have := HAP.out
              cases pw
              · exact ⟨rfl, by simpa using this⟩
              · cases this
            obtain ⟨rfl, hk1⟩ := h1
            have hf0 : x.fuse = 0 := by have := HPW.out; simpa using this
            have e7 : writeD2 x.d (flV l) r = (⟨x.files, x.waits, x.room, true, x.fuse⟩, appF (flV l) r, 7) := by
              rw [e6.out]
              show (if x.fuse = 0 then _ else _) = _
              rw [if_pos hf0, if_neg hk1]; rfl
            have E7 := Lib.hid e7
            have hbu : (burnL x).d = ⟨x.files, x.waits, x.room, true, x.fuse⟩ := by unfold burnL; rw [if_pos hf0]; rfl
            have HBU := Lib.hid hbu
            clear e6 e7 hk1 hf0 hbu
            go_wp2_with fail
            go_ret
            rw [E7.out]
            exact ⟨burnL x, A', c', l', rfl, H5.out.1, HBU.out, HS.out.2.2.2.1, HS.out.2.2.2.2, H5.out.2.2⟩
          · have hyl : (burnL x).waits = x.waits ∧ (burnL x).wA = x.wA := by unfold burnL; split <;> exact ⟨rfl, rfl⟩
            have hbd : (burnL x).d = if x.fuse = 0 then ⟨x.files, x.waits, x.room, true, x.fuse⟩ else ⟨x.files, x.waits, x.room, x.down, lessN x.fuse⟩ := by unfold burnL; split <;> rfl
            have HBD := Lib.hid hbd
            clear hbd
            generalize burnL x = y at *
            obtain ⟨i0, hi, hz0, hz1, hz2⟩ := info_parts infoWr
            have hU := Tryz.underlying88
            have hwl : y.waits.length ≤ 4096 := by rw [hyl.1]; have := HC2.out.2.2.2; omega
            have bW : Below w5.heap.size w5 (w5.alloc (.cells #[.int .u8 r.k, .string r.n, .string r.t, .string r.d] 95)).drew := Below.drew ((Below.refl _ _).alloc (Nat.le_refl _) _)
            have d1' : (w5.alloc (.cells #[.int .u8 r.k, .string r.n, .string r.t, .string r.d] 95)).cell? ⟨K, 1, none⟩ = some (.slice y.wA y.waits.length y.wc) := (bW.cell (p := ⟨K, 1, none⟩) H5.out.1.at_.own.inside).trans d1
            have hb5 := H5.out.1.at_.le
            have HW := Lib.hid H5.out.1.waits
            have HM := Lib.hid (fun w2 hg => wk_mid H5.out.1 bW (w2 := w2) hg)
            have HAA := Lib.hid (fun w2 (Aw : Option Addr) (cw : Nat) hg ho => wk_append (r := r) (Aw := Aw) (cw := cw) H5.out.1 bW (w2 := w2) hg ho)
            have HYL := Lib.hid hyl
            clear bW hyl
            go_upto_region 12 with fail
            go_cut [5] (fun s5 wx => s5 = .bool pw ∧ ∃ Aw cw, Wk wx base K (moreL y Aw cw r) A' c' l' ∧ Below base w5 wx)
            case first =>
              go_region_law (refine step_append_lies (size := 4) (cells := Wr.cells) (l := [r]) (B := w5.heap.size + 1) _ rfl (.tmp 70) (.tmp 72) 88 95 rfl i0 _ 56 hU hi hz0 hz1 hz2 rfl (by decide) (fun _ => rfl) wr_one base (.slice y.wA y.waits.length y.wc) y.waits.length _ rfl (HW.out.alloc _).drew 1 w5.heap.size 0 (by simp [Act.eval, Act.put]) (wr_made _ r) (by unfold maxLen; simp; omega) (by simp; omega) (by simp; omega) ?_; intro v2 w2 ho2 hb2 hv2 hg2; obtain ⟨A2, c2, rfl⟩ := row_slice ho2; obtain ⟨m1, m2⟩ := HM.out w2 hg2)
              all_goals
                go_wp2_with fail
                go_meet
                exact ⟨rfl, A2, c2, HAA.out w2 A2 c2 hg2 ho2⟩
            case rest =>
              obtain ⟨rfl, Aw, cw, k6, hb6⟩ := hcut
              have H6 := Lib.hid (And.intro k6 (H5.out.2.2.trans hb6))
              have hym : (moreL y Aw cw r).d = ⟨x.files, x.waits ++ [r], x.room, (if x.fuse = 0 then true else x.down), (if x.fuse = 0 then x.fuse else lessN x.fuse)⟩ := by
                have e1 := HBD.out
                have e2 := HYL.out.1
                by_cases hf0 : x.fuse = 0
                · rw [if_pos hf0] at e1
                  rw [if_pos hf0, if_pos hf0]
                  have := congrArg Dk.files e1; have := congrArg Dk.room e1; have := congrArg Dk.down e1; have := congrArg Dk.fuse e1
                  simp only [Dl.d] at *
                  simp_all [moreL]
                · rw [if_neg hf0] at e1
                  rw [if_neg hf0, if_neg hf0]
                  have := congrArg Dk.files e1; have := congrArg Dk.room e1; have := congrArg Dk.down e1; have := congrArg Dk.fuse e1
                  simp only [Dl.d] at *
                  simp_all [moreL]
              have HYM := Lib.hid hym
              clear k6 hb6 hym
              cases pw
              · have h1 := HAP.out
                have hk1 : r.k = 1 := by simpa using h1
                have hf0 : x.fuse = 0 := by have := HPW.out; simpa using this
                have e7 : writeD2 x.d (flV l) r = (⟨x.files, x.waits ++ [r], x.room, true, x.fuse⟩, appF (flV l) r, 7) := by
                  rw [e6.out]
                  show (if x.fuse = 0 then _ else _) = _
                  rw [if_pos hf0, if_pos hk1]; rfl
                have E7 := Lib.hid e7
                have EY := Lib.hid (show (moreL y Aw cw r).d = ⟨x.files, x.waits ++ [r], x.room, true, x.fuse⟩ by rw [HYM.out, if_pos hf0, if_pos hf0])
                clear e6 e7 hk1 hf0 h1
                go_wp2_with fail
                go_ret
                rw [E7.out]
                exact ⟨moreL y Aw cw r, A', c', l', rfl, H6.out.1, EY.out, HS.out.2.2.2.1, HS.out.2.2.2.2, H6.out.2⟩
              · have hf0 : x.fuse ≠ 0 := by have := HPW.out; simpa using this
                have e7 : writeD2 x.d (flV l) r = (⟨x.files, x.waits ++ [r], x.room, x.down, lessN x.fuse⟩, appF (flV l) r, 0) := by
                  rw [e6.out]
                  show (if x.fuse = 0 then _ else _) = _
                  rw [if_neg hf0]; rfl
                have E7 := Lib.hid e7
                have EY := Lib.hid (show (moreL y Aw cw r).d = ⟨x.files, x.waits ++ [r], x.room, x.down, lessN x.fuse⟩ by rw [HYM.out, if_neg hf0, if_neg hf0])
                clear e6 e7 hf0
                go_wp2_with fail
                go_ret
                rw [E7.out]
                exact ⟨moreL y Aw cw r, A', c', l', rfl, H6.out.1, EY.out, HS.out.2.2.2.1, HS.out.2.2.2.2, H6.out.2⟩
end Go.Proofs.YtllpfngmnccejaaGreat
namespace Go.Proofs.YtllpfngmnccejaaGreat
open Go Go.RowKit

theorem row_lies {α : Type} {size : Nat} {cells : α → List Value} {w : World} {base c : Nat} {e : TypeId} {A : Option Addr} {l : List α} (hpos : 0 < size) (hcl : ∀ x, (cells x).length = size) (h : w.ownsRow base e size (.slice A l.length c) l.length (l.flatMap cells)) : Lies size cells w w.heap.size A l := by
  obtain ⟨A', c', hv, _, _, hl⟩ := lies_of_own (size := size) (cells := cells) hpos hcl rfl h
  injection hv with h1 h2 h3
  rw [h1]; exact hl
theorem row_cap {w : World} {base c n size : Nat} {e : TypeId} {A : Option Addr} {xs : List Value} (h : w.ownsRow base e size (.slice A n c) n xs) : n ≤ c := by
  rcases row_ownK h with ⟨_, h0, _⟩ | ⟨_, _, _, _, _, h0, _⟩ <;> omega
theorem Wk.din {w : World} {base K : Nat} {x : Dl} {A : Option Addr} {c : Nat} {l : List Vf} (h : Wk w base K x A c l) : DIn w w.heap.size x :=
  ⟨row_lies (size := 2) (cells := Fl.cells) (by decide) (fun _ => rfl) h.files, row_lies (size := 4) (cells := Wr.cells) (by decide) (fun _ => rfl) h.waits, row_cap h.waits⟩
/-- what open answered, laid in a box -/
theorem opened_box {w w1 : World} {x : Dl} {e : Ending} (h : Opened w w1 x e) (hb : Below w.heap.size w w1) (ok : DOk x) :
    ∃ Af cf Aw cw A c l V, e = .returned (.tuple #[.agg #[.slice Af x.files.length cf, .slice Aw x.waits.length cw, .int .i64 x.room, .bool x.down, .int .i64 x.fuse, .slice A l.length c, .int .i64 (szF (flV l) : Int)], .int .i64 0]) ∧
      V = w1.alloc (.cells #[.slice Af x.files.length cf, .slice Aw x.waits.length cw, .int .i64 x.room, .bool x.down, .int .i64 x.fuse, .slice A l.length c, .int .i64 (szF (flV l) : Int)] 153) ∧
      Below w.heap.size w V ∧ V.heap.size = w1.heap.size + 1 ∧ w.heap.size ≤ w1.heap.size ∧ Wk V w.heap.size w1.heap.size ⟨Af, cf, x.files, Aw, cw, x.waits, x.room, x.down, x.fuse⟩ A c l ∧ flV l = seen x.d ∧ wtV l ≤ wtD x.d := by
  obtain ⟨Af, cf, Aw, cw, A, c, l, rfl, rf, rw_, hv, hfl, hs, hw⟩ := h
  have b1 : Below w1.heap.size w1 (w1.alloc (.cells #[.slice Af x.files.length cf, .slice Aw x.waits.length cw, .int .i64 x.room, .bool x.down, .int .i64 x.fuse, .slice A l.length c, .int .i64 (szF (flV l) : Int)] 153)) := (Below.refl _ _).alloc (Nat.le_refl _) _
  refine ⟨Af, cf, Aw, cw, A, c, l, _, rfl, rfl, hb.alloc hb.size _, by simp, hb.size, ⟨⟨Own.made w1 _ _, rfl, rfl, hv.kept (KeptK.of_below b1 (Nat.le_refl _) (fun _ => False)) (fun _ _ h => h), fun e => by have := (hv.lt _ e).2; omega, hs, by have := ok.wt; omega, by have := hb.size; simp; omega⟩, rf.alloc _, rw_.alloc _, hb.size⟩, hfl, hw⟩
def zeroDl : Dl := ⟨none, 0, [], none, 0, [], 0, false, 0⟩
/-- a disk and an error, handed back -/
def Gives (w w' : World) (e : Ending) (s : Dk × Int) : Prop :=
  Below w.heap.size w w' ∧ ∃ y : Dl, e = .returned (.tuple #[y.val, .int .i64 s.2]) ∧ y.d = s.1 ∧ DIn w' w'.heap.size y
/-- its lists lie in new memory -/
structure NewD (B : Nat) (y : Dl) : Prop where
  files : ∀ b q, y.fA = some (⟨b, q, none⟩ : Addr) → B ≤ b
  waits : ∀ b q, y.wA = some (⟨b, q, none⟩ : Addr) → B ≤ b
theorem zero_new (B : Nat) : NewD B zeroDl := ⟨fun _ _ h => (by cases h), fun _ _ h => (by cases h)⟩
def GivesN (w w' : World) (e : Ending) (s : Dk × Int) : Prop :=
  Below w.heap.size w w' ∧ ∃ y : Dl, e = .returned (.tuple #[y.val, .int .i64 s.2]) ∧ y.d = s.1 ∧ DIn w' w'.heap.size y ∧ NewD w.heap.size y
theorem GivesN.gives {w w' : World} {e : Ending} {s : Dk × Int} (h : GivesN w w' e s) : Gives w w' e s := by
  obtain ⟨h1, y, h2, h3, h4, _⟩ := h
  exact ⟨h1, y, h2, h3, h4⟩
def set5 (w : World) (P : Nat) (a0 a1 a2 a3 a4 : Value) : World := ((((w.setCell ⟨P, 0, none⟩ a0).setCell ⟨P, 1, none⟩ a1).setCell ⟨P, 2, none⟩ a2).setCell ⟨P, 3, none⟩ a3).setCell ⟨P, 4, none⟩ a4
theorem set5_own {w : World} {P : Nat} {t : TypeId} {b0 b1 b2 b3 b4 : Value} (h : Own w P t [b0, b1, b2, b3, b4]) (a0 a1 a2 a3 a4 : Value) : Own (set5 w P a0 a1 a2 a3 a4) P t [a0, a1, a2, a3, a4] :=
  ((((h.set_ 0 a0).set_ 1 a1).set_ 2 a2).set_ 3 a3).set_ 4 a4
theorem set5_kept (w : World) (P : Nat) (a0 a1 a2 a3 a4 : Value) : KeptK w (set5 w P a0 a1 a2 a3 a4) (fun k => k = P) :=
  (((((KeptK.refl w (fun k => k = P)).set_ (.inl rfl) a0).set_ (.inl rfl) a1).set_ (.inl rfl) a2).set_ (.inl rfl) a3).set_ (.inl rfl) a4
theorem open5 {w : World} {P : Nat} {t : TypeId} {l : List Value} (h : Own w P t l) :
    w.frozen? ⟨P, 0, none⟩ = false ∧ w.frozen? ⟨P, 1, none⟩ = false ∧ w.frozen? ⟨P, 2, none⟩ = false ∧ w.frozen? ⟨P, 3, none⟩ = false ∧ w.frozen? ⟨P, 4, none⟩ = false :=
  ⟨h.open_ 0, h.open_ 1, h.open_ 2, h.open_ 3, h.open_ 4⟩
def zero5 : List Value := [.slice none 0 0, .slice none 0 0, .int .i64 0, .bool false, .int .i64 0]
/-- the boxes with which Do and Sync begin -/
theorem do_box (w : World) (x : Dl) : ∃ W, W = (w.alloc (.cells #[.slice x.fA x.files.length x.fc, .slice x.wA x.waits.length x.wc, .int .i64 x.room, .bool x.down, .int .i64 x.fuse] 90)).alloc (.cells #[.slice none 0 0, .slice none 0 0, .int .i64 0, .bool false, .int .i64 0] 90) ∧
    Below w.heap.size w W ∧ W.heap.size = w.heap.size + 2 ∧ Own W w.heap.size 90 x.cells ∧ Own W (w.heap.size + 1) 90 zero5 := by
  refine ⟨_, rfl, ((Below.refl _ _).alloc (Nat.le_refl _) _).alloc (by simp) _, by simp, (Own.made w _ _).more _, ?_⟩
  have := Own.made (w.alloc (.cells #[.slice x.fA x.files.length x.fc, .slice x.wA x.waits.length x.wc, .int .i64 x.room, .bool x.down, .int .i64 x.fuse] 90)) 90 zero5
  rw [show (w.alloc (.cells #[.slice x.fA x.files.length x.fc, .slice x.wA x.waits.length x.wc, .int .i64 x.room, .bool x.down, .int .i64 x.fuse] 90)).heap.size = w.heap.size + 1 by simp] at this
  exact this
/-- the disk in use handed back by way of the result's box R -/
theorem hand_back {w V wr : World} {K : Nat} {y : Dl} {A : Option Addr} {c : Nat} {l : List Vf} (hs : V.heap.size = w.heap.size + 2) (hwV : Below w.heap.size w V) (hb : Below V.heap.size V wr) (h : Wk wr V.heap.size K y A c l) :
    Below w.heap.size w (set5 wr (w.heap.size + 1) (.slice y.fA y.files.length y.fc) (.slice y.wA y.waits.length y.wc) (.int .i64 y.room) (.bool y.down) (.int .i64 y.fuse)) ∧
      DIn (set5 wr (w.heap.size + 1) (.slice y.fA y.files.length y.fc) (.slice y.wA y.waits.length y.wc) (.int .i64 y.room) (.bool y.down) (.int .i64 y.fuse)) (set5 wr (w.heap.size + 1) (.slice y.fA y.files.length y.fc) (.slice y.wA y.waits.length y.wc) (.int .i64 y.room) (.bool y.down) (.int .i64 y.fuse)).heap.size y := by
  have k := set5_kept wr (w.heap.size + 1) (.slice y.fA y.files.length y.fc) (.slice y.wA y.waits.length y.wc) (.int .i64 y.room) (.bool y.down) (.int .i64 y.fuse)
  have bw : Below w.heap.size w wr := hwV.trans (hb.mono (by omega))
  refine ⟨bw.trans (k.below (fun b e => by omega) bw.size), ?_, ?_, row_cap h.waits⟩
  · exact row_lies (size := 2) (cells := Fl.cells) (by decide) (fun _ => rfl) (k.row h.files (fun b e he => by have := (h.files.lt b e).1; omega))
  · exact row_lies (size := 4) (cells := Wr.cells) (by decide) (fun _ => rfl) (k.row h.waits (fun b e he => by have := (h.waits.lt b e).1; omega))
theorem hand_back2 {w V wr : World} {K : Nat} {y : Dl} {A : Option Addr} {c : Nat} {l : List Vf} (hs : V.heap.size = w.heap.size + 2) (hwV : Below w.heap.size w V) (hb : Below V.heap.size V wr) (h : Wk wr V.heap.size K y A c l) :
    Below w.heap.size w (set5 wr (w.heap.size + 1) (.slice y.fA y.files.length y.fc) (.slice y.wA y.waits.length y.wc) (.int .i64 y.room) (.bool y.down) (.int .i64 y.fuse)) ∧
      (DIn (set5 wr (w.heap.size + 1) (.slice y.fA y.files.length y.fc) (.slice y.wA y.waits.length y.wc) (.int .i64 y.room) (.bool y.down) (.int .i64 y.fuse)) (set5 wr (w.heap.size + 1) (.slice y.fA y.files.length y.fc) (.slice y.wA y.waits.length y.wc) (.int .i64 y.room) (.bool y.down) (.int .i64 y.fuse)).heap.size y ∧ NewD w.heap.size y) := by
  obtain ⟨h1, h2⟩ := hand_back hs hwV hb h
  refine ⟨h1, h2, ⟨fun b q e => ?_, fun b q e => ?_⟩⟩
  · have := (h.files.lt b (by rw [e]; rfl)).1; omega
  · have := (h.waits.lt b (by rw [e]; rfl)).1; omega
end Go.Proofs.YtllpfngmnccejaaGreat
namespace Go.Proofs.YtllpfngmnccejaaGreat
open Go Go.RowKit

theorem write_fuse (d : Dk) (l : List Fl) (r : Wr) : (writeD d l r).1.fuse = d.fuse ∨ (writeD d l r).1.fuse = lessN d.fuse := by
  unfold writeD
  repeat' split
  all_goals first | exact .inl rfl | exact .inr rfl
theorem write_len (d : Dk) (l : List Fl) (r : Wr) : (writeD d l r).1.waits.length ≤ d.waits.length + 1 := by
  unfold writeD
  repeat' split
  all_goals first | (dsimp only; omega) | (dsimp only; split <;> simp) | (dsimp only; simp)
theorem lessN_fit {n : Int} (h : -9223372036854775808 ≤ n ∧ n ≤ 9223372036854775807) : -9223372036854775808 ≤ lessN n ∧ lessN n ≤ 9223372036854775807 := by
  unfold lessN; split <;> omega
theorem doS_drop {d : Dk} {l : List Fl} {ws : List Wr} {k : Nat} {r : Wr} (h : ws[k]? = some r) : doS d l (ws.drop k) = if (writeD d l r).2.2 = 0 then doS (writeD d l r).1 (writeD d l r).2.1 (ws.drop (k + 1)) else ((writeD d l r).1, (writeD d l r).2.2) := by
  have hlt := (List.getElem?_eq_some_iff.1 h).1
  have e := (List.getElem?_eq_some_iff.1 h).2
  rw [List.drop_eq_getElem_cons hlt, e]
  rfl
theorem z7box (w : World) : ∃ W, W = w.alloc (.cells #[.slice none 0 0, .slice none 0 0, .int .i64 0, .bool false, .int .i64 0, .slice none 0 0, .int .i64 0] 153) ∧ Below w.heap.size w W :=
  ⟨_, rfl, (Below.refl _ _).alloc (Nat.le_refl _) _⟩
theorem zero_din (w : World) : DIn w w.heap.size zeroDl := ⟨fun h => absurd h (by decide), fun h => absurd h (by decide), Nat.le_refl _⟩
/-- how far Do has come -/
def DoInv (V wr : World) (K : Nat) (y : Dl) (l : List Vf) (ws : List Wr) (k b : Nat) (s : Dk × Int) : Prop :=
  ∃ A c, Wk wr V.heap.size K y A c l ∧ doS y.d (flV l) (ws.drop k) = s ∧ wtV l ≤ b + wtW (ws.take k) ∧ (-9223372036854775808 ≤ y.fuse ∧ y.fuse ≤ 9223372036854775807) ∧ y.waits.length ≤ b + k ∧ Below V.heap.size V wr
set_option maxRecDepth 100000 in
set_option maxHeartbeats 3200000 in
theorem do_anyN (x : Dl) (B : Option Addr) (cb : Nat) (ws : List Wr) (w : World) (h : DIn w w.heap.size x) (hws : Lies 4 Wr.cells w w.heap.size B ws) (ok : DOk x) (hb : wtD x.d + wtW ws ≤ 1099511627776) :
    Calls Tryz.prog 52 #[x.val, .slice B ws.length cb] w fun e w' => GivesN w w' e (doD x.d ws) := by
  obtain ⟨V, hV, hVb, hVs, oD, oR⟩ := do_box w x
  have hk := h.keep hVb
  have y1 := Lib.hid (open_any x V hk ok)
  have H := Lib.hid (And.intro hVb (And.intro hVs (And.intro oR (And.intro ok (And.intro hb hws)))))
  obtain ⟨d0, d1, d2, d3, d4⟩ := own5 oD
  have hlw := len_le_wtW ws
  have hll : ws.length ≤ 1099511627776 := by omega
  unfold Dl.val at y1
  unfold Dl.val doD
  clear h hws ok hb hk hVb hVs oD oR hlw
  cases hg : goodD x.d
  · rw [hg] at y1
    simp only [Bool.false_eq_true, if_false] at y1 ⊢
    unfold zeroWk at y1
    clear hg
    go_enter Tryz.func52, Tryz.ntmps52
    go_upto_region 1 with fail
    rw [← hV]
    clear hV
    go_wp2_with fail
    refine y1.out.mono ?_
    rintro _ w1 ⟨b1, rfl⟩
    obtain ⟨W, hW, bW⟩ := z7box w1
    have oR1 := (H.out.2.2.1.past b1 H.out.2.2.1.inside).past bW (H.out.2.2.1.past b1 H.out.2.2.1.inside).inside
    obtain ⟨r0, r1, r2, r3, r4⟩ := own5 oR1
    obtain ⟨f0, f1, f2, f3, f4⟩ := open5 oR1
    have oE := set5_own oR1 (.slice none 0 0) (.slice none 0 0) (.int .i64 0) (.bool false) (.int .i64 0)
    have kE := set5_kept W (w.heap.size + 1) (.slice none 0 0) (.slice none 0 0) (.int .i64 0) (.bool false) (.int .i64 0)
    have hbw : Below w.heap.size w W := H.out.1.trans ((b1.trans (bW.mono b1.size)).mono H.out.1.size)
    have HX := Lib.hid (hbw.trans (kE.below (fun k e => by omega) hbw.size))
    unfold set5 at oE HX
    obtain ⟨e0, e1, e2, e3, e4⟩ := own5 oE
    clear oR1 oE kE hbw b1 y1 d0 d1 d2 d3 d4
    go_upto_region 2 with fail
    rw [← hW]
    clear hW
    go_wp2_with fail
    exact bodyPost_ret (v := .tuple #[.agg #[.slice none 0 0, .slice none 0 0, .int .i64 0, .bool false, .int .i64 0], .int .i64 8]) (by simp [results, Tryz.results52, go_sem, e0, e1, e2, e3, e4]) rfl ⟨HX.out, zeroDl, rfl, rfl, zero_din _, zero_new _⟩
  · rw [hg] at y1
    simp only [if_true] at y1 ⊢
    clear hg
    go_enter Tryz.func52, Tryz.ntmps52
    go_upto_region 1 with fail
    rw [← hV]
    clear hV
    go_wp2_with fail
    refine y1.out.mono ?_
    rintro _ w1 ⟨b1, ho⟩
    obtain ⟨Af, cf, Aw, cw, A, c, l, W, rfl, hW, bW, sW, hVw, kW, hfl, hwl⟩ := opened_box ho b1 H.out.2.2.2.1
    have HI : DoInv V W w1.heap.size ⟨Af, cf, x.files, Aw, cw, x.waits, x.room, x.down, x.fuse⟩ l ws 0 (wtD x.d) (doS x.d (seen x.d) ws) := ⟨A, c, kW, by rw [hfl]; rfl, by omega, H.out.2.2.2.1.fuse, by
      have := len_le_wtW x.waits; unfold wtD Dl.d; dsimp only; omega, bW⟩
    have HII := Lib.hid (And.intro HI (And.intro hVw sW))
    clear HI kW hfl hwl ho b1 y1 d0 d1 d2 d3 d4 bW sW hVw
    go_upto_region 2 with fail
    rw [← hW]
    clear hW
    go_wp2_with fail
    go_loopw [22] (fun i wr => ∃ k : Nat, i = .int .i64 (k : Int) ∧ k ≤ ws.length ∧ ∃ y l', DoInv V wr w1.heap.size y l' ws k (wtD x.d) (doS x.d (seen x.d) ws)) (fun i _ => ws.length - (intOf i).toNat)
    case atStart => exact ⟨0, rfl, by omega, _, _, HII.out.1⟩
    case round =>
      obtain ⟨k, rfl, hk, y, l', A', c', kW, hds, hwt, hfz, hln, hbw⟩ := hrel
      by_cases hlt : k < ws.length
      · have hx : ws[k]? = some ws[k] := List.getElem?_eq_getElem hlt
        obtain ⟨b, o, rfl, hB, hxs⟩ := H.out.2.2.2.2.2 (by omega)
        have hbw2 : Below w.heap.size w wr := H.out.1.trans (hbw.mono H.out.1.size)
        have x0 := (hbw2.cell (p := ⟨b, o + k * 4 + 0, none⟩) hB).trans (hxs k _ hx 0 _ rfl)
        have x1 := (hbw2.cell (p := ⟨b, o + k * 4 + 1, none⟩) hB).trans (hxs k _ hx 1 _ rfl)
        have x2 := (hbw2.cell (p := ⟨b, o + k * 4 + 2, none⟩) hB).trans (hxs k _ hx 2 _ rfl)
        have x3 := (hbw2.cell (p := ⟨b, o + k * 4 + 3, none⟩) hB).trans (hxs k _ hx 3 _ rfl)
        have hdr := doS_drop (d := y.d) (l := flV l') hx
        have hwk := wtW_take hx
        have hle := wtW_le ws (k + 1)
        have hfu := write_fuse y.d (flV l') ws[k]
        have hwl := write_len y.d (flV l') ws[k]
        generalize ws[k] = f at *
        obtain ⟨W2, hW2, bW2, sW2, oW2⟩ := wrbox wr f
        have d0 := oW2.at_ 0
        have d1 := oW2.at_ 1
        have d2 := oW2.at_ 2
        have d3 := oW2.at_ 3
        simp only [Wr.cells, List.getElem?_cons_zero, List.getElem?_cons_succ, Nat.add_zero] at d0 d1 d2 d3 x0 x1 x2 x3
        have hxl : wtD x.d ≤ 1099511627776 := H.out.2.2.2.1.wt
        have yw := Lib.hid (write_any V.heap.size w1.heap.size y A' c' l' f W2 (kW.below bW2) hfz (by have := H.out.2.2.2.2.1; omega) (by have := len_le_wtW ws; have := H.out.2.2.2.2.1; omega))
        rw [hds] at hdr
        have HX := Lib.hid (And.intro hdr (And.intro hwk (And.intro hwt (And.intro hfu (And.intro hwl (And.intro hfz (And.intro hln (And.intro (hbw.trans (bW2.mono hbw.size)) hbw2))))))))
        unfold Wr.val at yw
        clear kW hds hwt hfz hln hbw hdr hwk hle hfu hwl bW2 sW2 oW2 hx hxs hbw2 HII
        go_upto_region 7 with fail
        rw [← hW2]
        clear hW2
        go_wp2_with fail
        refine yw.out.mono ?_
        rintro _ w3 ⟨z, A2, c2, l2, rfl, kz, hzd, hzl, hzw, hzb⟩
        generalize hs : writeD y.d (flV l') f = s at *
        obtain ⟨sd, sl, se⟩ := s
        dsimp only at *
        have hb3 : Below V.heap.size V w3 := HX.out.2.2.2.2.2.2.2.1.trans hzb
        have H3 := Lib.hid (And.intro kz (And.intro hzd (And.intro hzl (And.intro hzw hb3))))
        by_cases he : se = 0
        · subst he
          clear kz hzd hzl hzw hzb hb3 yw x0 x1 x2 x3 d0 d1 d2 d3
          go_wp2_with fail
          go_roundw
          case rel =>
            refine ⟨k + 1, by go_num, by omega, z, l2, A2, c2, H3.out.1, ?_, ?_, ?_, ?_, H3.out.2.2.2.2⟩
            · rw [H3.out.2.1, H3.out.2.2.1]
              have := HX.out.1
              simp only [if_true] at this
              exact this.symm
            · have := HX.out.2.1; have := HX.out.2.2.1; have := H3.out.2.2.2.1; omega
            · have e1 := congrArg Dk.fuse H3.out.2.1
              have e2 := HX.out.2.2.2.1
              have e3 : z.fuse = sd.fuse := e1
              rw [e3]
              rcases e2 with e2 | e2
              · rw [e2]; exact HX.out.2.2.2.2.2.1
              · rw [e2]; exact lessN_fit HX.out.2.2.2.2.2.1
            · have e1 : z.waits = sd.waits := congrArg Dk.waits H3.out.2.1
              rw [e1]
              have := HX.out.2.2.2.2.1
              have := HX.out.2.2.2.2.2.2.1
              have e4 : y.d.waits.length = y.waits.length := rfl
              omega
          case measure => simp [intOf]; omega
        · have t1 : (se != 0) = true := bne_iff_ne.2 he
          have hres := HX.out.1
          rw [if_neg he] at hres
          have HRES := Lib.hid hres
          obtain ⟨c0, c1, c2', c3, c4, _, _⟩ := kz.cells
          have hfin := hand_back2 H.out.2.1 H.out.1 hb3 kz
          have oR1 := H.out.2.2.1.past hb3 (by have := H.out.2.1; omega)
          obtain ⟨r0, r1, r2, r3, r4⟩ := own5 oR1
          obtain ⟨f0, f1, f2, f3, f4⟩ := open5 oR1
          have oE := set5_own oR1 (.slice z.fA z.files.length z.fc) (.slice z.wA z.waits.length z.wc) (.int .i64 z.room) (.bool z.down) (.int .i64 z.fuse)
          have HF := Lib.hid hfin
          unfold set5 at oE HF
          obtain ⟨e0, e1, e2, e3, e4⟩ := own5 oE
          clear kz hzd hzl hzw hzb hb3 yw x0 x1 x2 x3 d0 d1 d2 d3 he hres hfin oR1 oE
          go_wp2_with fail
          exact bodyPost_ret (v := .tuple #[z.val, .int .i64 se]) (by simp [results, Tryz.results52, go_sem, e0, e1, e2, e3, e4, Dl.val]) rfl ⟨HF.out.1, z, by rw [HRES.out], by rw [HRES.out]; exact H3.out.2.1, HF.out.2⟩
      · have hk3 : k = ws.length := by omega
        subst hk3
        rw [List.drop_length] at hds
        have HRES := Lib.hid (show doS x.d (seen x.d) ws = (y.d, 0) from hds.symm)
        obtain ⟨c0, c1, c2', c3, c4, _, _⟩ := kW.cells
        have hfin := hand_back2 H.out.2.1 H.out.1 hbw kW
        have oR1 := H.out.2.2.1.past hbw (by have := H.out.2.1; omega)
        obtain ⟨r0, r1, r2, r3, r4⟩ := own5 oR1
        obtain ⟨f0, f1, f2, f3, f4⟩ := open5 oR1
        have oE := set5_own oR1 (.slice y.fA y.files.length y.fc) (.slice y.wA y.waits.length y.wc) (.int .i64 y.room) (.bool y.down) (.int .i64 y.fuse)
        have HF := Lib.hid hfin
        unfold set5 at oE HF
        obtain ⟨e0, e1, e2, e3, e4⟩ := own5 oE
        clear kW hds hwt hfz hln hbw hfin oR1 oE HII
        go_wp2_with fail
        exact bodyPost_ret (v := .tuple #[y.val, .int .i64 0]) (by simp [results, Tryz.results52, go_sem, e0, e1, e2, e3, e4, Dl.val]) rfl ⟨HF.out.1, y, by rw [HRES.out], by rw [HRES.out], HF.out.2⟩
theorem do_any (x : Dl) (B : Option Addr) (cb : Nat) (ws : List Wr) (w : World) (h : DIn w w.heap.size x) (hws : Lies 4 Wr.cells w w.heap.size B ws) (ok : DOk x) (hb : wtD x.d + wtW ws ≤ 1099511627776) :
    Calls Tryz.prog 52 #[x.val, .slice B ws.length cb] w fun e w' => Gives w w' e (doD x.d ws) := (do_anyN x B cb ws w h hws ok hb).mono fun _ _ h => h.gives
end Go.Proofs.YtllpfngmnccejaaGreat
namespace Go.Proofs.YtllpfngmnccejaaGreat
open Go Go.RowKit

theorem row_keep_types {w w' : World} {S : Nat → Prop} (k : KeptK w w' S) : w.heap.size ≤ w'.heap.size := k.size
/-- a box of the disk alone -/
theorem d1box (w : World) (x : Dl) : ∃ W, W = w.alloc (.cells #[.slice x.fA x.files.length x.fc, .slice x.wA x.waits.length x.wc, .int .i64 x.room, .bool x.down, .int .i64 x.fuse] 90) ∧ Below w.heap.size w W ∧ W.heap.size = w.heap.size + 1 ∧ Own W w.heap.size 90 x.cells := dbox w x
set_option maxRecDepth 100000 in
set_option maxHeartbeats 3200000 in
theorem dread_any (x : Dl) (n : ByteArray) (w : World) (h : DIn w w.heap.size x) (ok : DOk x) :
    Calls Tryz.prog 53 #[x.val, .string n] w fun e w' => e = .returned (.tuple #[.string (readD x.d n).1, .int .i64 (readD x.d n).2]) ∧ Below w.heap.size w w' := by
  obtain ⟨V, hV, hVb, hVs, oD⟩ := dbox w x
  have hk := h.keep hVb
  have y1 := Lib.hid (open_any x V hk ok)
  have H := Lib.hid (And.intro hVb (And.intro hVs ok))
  obtain ⟨d0, d1, d2, d3, d4⟩ := own5 oD
  unfold Dl.val at y1
  unfold Dl.val readD
  clear h ok hk hVb hVs oD
  cases hg : goodD x.d
  · rw [hg] at y1
    simp only [Bool.false_eq_true, if_false] at y1 ⊢
    unfold zeroWk at y1
    clear hg
    go_enter Tryz.func53, Tryz.ntmps53
    go_upto_region 1 with fail
    rw [← hV]
    clear hV
    go_wp2_with fail
    refine y1.out.mono ?_
    rintro _ w1 ⟨b1, rfl⟩
    obtain ⟨W, hW, bW⟩ := z7box w1
    have HX := Lib.hid (H.out.1.trans ((b1.trans (bW.mono b1.size)).mono H.out.1.size))
    clear b1 bW y1 d0 d1 d2 d3 d4
    go_upto_region 2 with fail
    rw [← hW]
    clear hW
    go_wp2_with fail
    go_ret2
    exact ⟨rfl, HX.out⟩
  · rw [hg] at y1
    simp only [if_true] at y1 ⊢
    have hdn : x.d.down = x.down := rfl
    rw [hdn]
    clear hg hdn
    generalize hrd : (if x.down = true then ((⟨#[]⟩ : ByteArray), (7 : Int)) else readF (seen x.d) n) = rd
    have HRD := Lib.hid hrd
    clear hrd
    go_enter Tryz.func53, Tryz.ntmps53
    go_upto_region 1 with fail
    rw [← hV]
    clear hV
    go_wp2_with fail
    refine y1.out.mono ?_
    rintro _ w1 ⟨b1, ho⟩
    obtain ⟨Af, cf, Aw, cw, A, c, l, W, rfl, hW, bW, sW, hVw, kW, hfl, hwl⟩ := opened_box ho b1 H.out.2.2
    obtain ⟨c0, c1, c2, c3, c4, c5, c6⟩ := kW.cells
    have y2 := Lib.hid (read_any V.heap.size w1.heap.size 5 _ _ A c l n W kW.at_)
    rw [hfl] at y2
    have HX := Lib.hid (H.out.1.trans (bW.mono H.out.1.size))
    dsimp only at c0 c1 c2 c3 c4
    clear ho b1 y1 d0 d1 d2 d3 d4 bW sW hVw kW hfl hwl
    go_upto_region 2 with fail
    rw [← hW]
    clear hW
    cases hd : x.down
    · rw [hd] at c3
      have hz := HRD.out
      rw [hd] at hz
      simp only [Bool.false_eq_true, if_false] at hz
      rw [hz] at y2
      clear hz hd
      go_wp2_with fail
      refine y2.out.mono ?_
      rintro _ w2 ⟨rfl, b2⟩
      go_wp2_with fail
      go_ret2
      exact ⟨rfl, HX.out.trans (b2.mono HX.out.size)⟩
    · rw [hd] at c3
      have hz := HRD.out
      rw [hd] at hz
      simp only [if_true] at hz
      have HZ := Lib.hid hz
      clear hz hd
      go_wp2_with fail
      go_ret2
      refine ⟨?_, HX.out⟩
      rw [← HZ.out]
      rfl
/-- files and an error, handed back -/
def TellsK (w w' : World) (e : Ending) (s : List Fl × Int) : Prop :=
  Below w.heap.size w w' ∧ ∃ A c, e = .returned (.tuple #[.slice A s.1.length c, .int .i64 s.2]) ∧ Lies 2 Fl.cells w' w'.heap.size A s.1
end Go.Proofs.YtllpfngmnccejaaGreat
namespace Go.Proofs.YtllpfngmnccejaaGreat
open Go Go.RowKit

theorem lies_take {w : World} {B : Nat} {A : Option Addr} {l : List Wr} {q : Nat} (h : Lies 4 Wr.cells w B A l) : Lies 4 Wr.cells w B A (l.take q) := fun hp => by
  have hl : 0 < l.length := by rw [List.length_take] at hp; omega
  obtain ⟨b, o, e, hb, hc⟩ := h hl
  refine ⟨b, o, e, hb, fun i x hi j u hj => hc i x ?_ j u hj⟩
  rw [List.getElem?_take] at hi
  split at hi
  · exact hi
  · cases hi
theorem visbox (w : World) : Below w.heap.size w (w.alloc (.cells #[.slice none 0 0, .int .i64 0] 151)).drew ∧ Own (w.alloc (.cells #[.slice none 0 0, .int .i64 0] 151)).drew w.heap.size 151 [.slice none 0 0, .int .i64 0] :=
  ⟨Below.drew ((Below.refl _ _).alloc (Nat.le_refl _) _), Own.made w _ _⟩
def CrashMid (w1 wx : World) (G : Nat) (m : List Fl) (b : Nat) : Prop :=
  ∃ A c l, VisAt wx w1.heap.size G 0 151 [.slice A l.length c, .int .i64 (szF (flV l) : Int)] A c l ∧ flV l = m ∧ wtV l ≤ b ∧ Below w1.heap.size w1 wx ∧ w1.heap.size ≤ G
theorem left_eq {x : Dl} {keep tear : Int} {q : Nat} (hq : q = keepN keep x.waits.length) : leftD x.d keep tear = tornF (lookF x.files (x.waits.take q)) x.waits[q]? tear := by
  rw [hq]; rfl
def CrashEnd (w wx w1 : World) (G : Nat) (x : Dl) (keep tear : Int) : Prop :=
  ∃ A c l cs, VisAt wx w1.heap.size G 0 151 cs A c l ∧ flV l = leftD x.d keep tear ∧ Own wx w.heap.size 90 x.cells ∧ Own wx (w.heap.size + 1) 90 zero5 ∧ Below w.heap.size w wx ∧ w1.heap.size ≤ G
theorem crash_mid1 {w1 W w2 : World} {A : Option Addr} {c b b' : Nat} {l : List Vf} {m : List Fl} (bW : Below w1.heap.size w1 W) (ob : Own w2 w1.heap.size 151 [.slice none 0 0, .int .i64 0]) (hv : Vis w2 W.heap.size A c l) (hfl : flV l = m) (hs : SortedN (namesV l)) (hwt : wtV l ≤ b') (hB : Below W.heap.size W w2) (hb : b ≤ 1099511627776) (hbb : b' ≤ b) (hin : w1.heap.size < W.heap.size := by simp) :
    CrashMid w1 ((w2.setCell ⟨w1.heap.size, 0, none⟩ (.slice A l.length c)).setCell ⟨w1.heap.size, 1, none⟩ (.int .i64 (szF (flV l) : Int))) w1.heap.size m b := by
  have kk : KeptK w2 ((w2.setCell ⟨w1.heap.size, 0, none⟩ (.slice A l.length c)).setCell ⟨w1.heap.size, 1, none⟩ (.int .i64 (szF (flV l) : Int))) (fun k => k = w1.heap.size) := ((KeptK.refl w2 (fun k => k = w1.heap.size)).set_ (.inl rfl) _).set_ (.inl rfl) _
  have hb2 : Below w1.heap.size w1 w2 := bW.trans (hB.mono bW.size)
  refine ⟨A, c, l, ⟨(ob.set_ 0 _).set_ 1 _, rfl, rfl, (hv.kept kk (fun k e he => by have := (hv.lt k e).1; omega)).lower (by omega), fun e => by have := (hv.lt _ e).1; omega, hs, by omega, Nat.le_trans hb2.size kk.size⟩, hfl, by omega, hb2.trans (kk.below (fun k e => by omega) hb2.size), Nat.le_refl _⟩
theorem crash_mid2 {w1 w2 : World} {A : Option Addr} {c b b' : Nat} {l : List Vf} {m : List Fl} (hv : Vis w2 w1.heap.size A c l) (hfl : flV l = m) (hs : SortedN (namesV l)) (hwt : wtV l ≤ b') (hB : Below w1.heap.size w1 w2) (hb : b ≤ 1099511627776) (hbb : b' ≤ b) :
    CrashMid w1 (w2.alloc (.cells #[.slice A l.length c, .int .i64 (szF (flV l) : Int)] 151)) w2.heap.size m b := by
  obtain ⟨V, hV, h1, h2, h3, h4⟩ := looked_box 151 hv hs hwt (by omega) hB
  rw [← hV]
  exact ⟨A, c, l, h4, hfl, by omega, h1, hB.size⟩
end Go.Proofs.YtllpfngmnccejaaGreat
