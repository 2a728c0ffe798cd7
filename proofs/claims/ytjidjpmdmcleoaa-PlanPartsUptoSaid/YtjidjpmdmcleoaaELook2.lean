/- The program's look at an expression and at those in it. -/
import Derived.Test.YtjidjpmdmcleoaaELook
import Derived.Deep.CutRange
import Derived.Deep.DeepCutAuto
namespace Go.Proofs.Ytjidjpmdmcleoaa
open Go Go.RowKit

/-- what the block of one that looks holds -/
def stL (s : St) : List Value := [.int .i64 s.why, .int .i64 s.nodes, .bool s.deep]
theorem past_lx {V : World} {b o : Nat} {e : Lx} (h : LxAt V b o e) (hb : b < V.heap.size) :
    (∀ p : Past V, p.w.cell? ⟨b, o, none⟩ = some (.int .u8 e.op)) ∧ (∀ p : Past V, p.w.cell? ⟨b, o + 1, none⟩ = some (.int .i64 e.col)) ∧ (∀ p : Past V, p.w.cell? ⟨b, o + 2, none⟩ = some (.bool e.c.t)) ∧
      (∀ p : Past V, p.w.cell? ⟨b, o + 3, none⟩ = some (.int .i64 e.c.n)) ∧ (∀ p : Past V, p.w.cell? ⟨b, o + 4, none⟩ = some (.string e.c.s)) ∧ (∀ p : Past V, p.w.cell? ⟨b, o + 5, none⟩ = some (.slice e.A e.kids.length e.cap)) :=
  ⟨fun p => ((h.past p.h hb).six).1, fun p => ((h.past p.h hb).six).2.1, fun p => ((h.past p.h hb).six).2.2.1, fun p => ((h.past p.h hb).six).2.2.2.1, fun p => ((h.past p.h hb).six).2.2.2.2.1, fun p => ((h.past p.h hb).six).2.2.2.2.2⟩
theorem wrap_w64 (x : Int) : wrap64 x = w64 x := by unfold wrap64 w64; omega
def LookC (n : Nat) : Prop := ∀ (e : Lx) (s : St) (b o g : Nat) (w : World), LxOk n e → LxIn w g n e → LxAt w b o e → b < g → Own w g 74 (stL s) →
  Calls Try.prog 29 #[.pointer (some ⟨g, 0, none⟩), .pointer (some ⟨b, o, none⟩), .int .i64 (17 - (n : Int))] w fun x w' => x = .returned (.tuple #[]) ∧ Upd w w' g 74 (stL (lk n e s))

set_option maxRecDepth 100000 in
set_option maxHeartbeats 3200000 in
theorem look_zero : LookC 0 := by
  intro e s b o g w _ _ _ _ h
  have c0 := h.at_ 0
  simp only [stL, List.getElem?_cons_zero] at c0
  have HO := Lib.hid h
  clear h
  go_enter Try.func29, Try.ntmps29
  go_wp2_with fail
  exact bodyPost_ret (results_none rfl _ _ _) rfl ⟨rfl, Upd.same HO.out⟩

set_option maxRecDepth 100000 in
set_option maxHeartbeats 6400000 in
theorem look_next {n : Nat} (hn : n ≤ 16) (ih : LookC n) : LookC (n + 1) := by
  intro e s b o g w hok hin hat hbg h
  have hg := h.inside
  have f0 := h.open_ 0
  have f1 := h.open_ 1
  have f2 := h.open_ 2
  have c0 := h.at_ 0
  have c1 := h.at_ 1
  have c2 := h.at_ 2
  simp only [stL, List.getElem?_cons_zero, List.getElem?_cons_succ] at c0 c1 c2
  have t0 : decide ((16 : Int) < 17 - ((n + 1 : Nat) : Int)) = false := by simp; omega
  have e0 : (17 - ((n + 1 : Nat) : Int)) = 16 - (n : Int) := by omega
  rw [e0] at t0 ⊢
  by_cases hs : s.why = 0
  case neg =>
    have t1 : (s.why != 0) = true := by simpa using hs
    have HH := Lib.hid (And.intro h hs)
    clear h hs hok hin hat ih
    go_enter Try.func29, Try.ntmps29
    go_wp2_with fail
    exact bodyPost_ret (results_none rfl _ _ _) rfl ⟨rfl, (Upd.same HH.out.1).as (by unfold lk; rw [if_pos HH.out.2])⟩
  case pos =>
    have t1 : (s.why != 0) = false := by simpa using hs
    have HH := Lib.hid (And.intro hok (And.intro hin (And.intro hat hs)))
    have HO := Lib.hid h
    have IH := Lib.hid ih
    clear h hok hin hat ih
    have hz : ∀ d, s.deep = d → Hid (s.deep = d) := fun d h => Lib.hid h
    go_enter Try.func29, Try.ntmps29
    go_upto_region 1 with fail
    go_cut [] (fun wx => Upd w wx g 74 (stL ⟨0, s.nodes, s.deep || n == 0⟩))
    case first =>
      cases hd : s.deep with
      | true =>
        rw [hd] at c2
        have HD := Lib.hid hd
        clear hd
        go_wp2_with fail
        go_meet
        exact ((Upd.same HO.out).set_ 2 _).as (by simp [stL, HH.out.2.2.2, HD.out])
      | false =>
        rw [hd] at c2
        have HD := Lib.hid hd
        clear hd
        by_cases h0 : n = 0
        · subst h0
          go_wp2_with fail
          go_meet
          exact ((Upd.same HO.out).set_ 2 _).as (by simp [stL, HH.out.2.2.2, HD.out])
        · have t2 : (16 - (n : Int) == 16) = false := by simp; omega
          go_wp2_with fail
          go_meet
          exact ((Upd.same HO.out).set_ 2 _).as (by simp [stL, HH.out.2.2.2, h0, HD.out])
    case rest =>
      clear c0 c1 c2 f0 f1 f2
      have c1 := hcut.own.at_ 1
      have f1 := hcut.own.open_ 1
      have f0 := hcut.own.open_ 0
      have f2 := hcut.own.open_ 2
      simp only [stL, List.getElem?_cons_zero, List.getElem?_cons_succ] at c1
      have H1 := Lib.hid hcut
      clear hcut
      go_upto_region 3 with fail
      obtain ⟨V, hV⟩ : ∃ V, wc.setCell ⟨g, 1, none⟩ (.int .i64 (wrap64 (s.nodes + 1))) = V := ⟨_, rfl⟩
      rw [hV]
      have hU : Upd w V g 74 (stL ⟨0, w64 (s.nodes + 1), s.deep || n == 0⟩) := hV ▸ (H1.out.set_ 1 _).as (by simp [stL, wrap_w64])
      have hsz := hU.grow.size
      have hat := HH.out.2.2.1.past (hU.below (Nat.le_refl _) (by omega)) hbg
      obtain ⟨d0, d1, d2, d3, d4, d5⟩ := past_lx hat (by omega)
      have hok := HH.out.1
      have hk := fun p : Past V => Lib.hid (kids_any e.op p.w)
      have hc := fun p : Past V => Lib.hid (constant_any e.op e.c p.w hok.1)
      unfold Vl.val at hc
      have hno := Lib.hid (show nodeOk e = (((e.kids.length : Int) == kidsOf e.op) && ((e.col == 0 || e.op == 1) && constOk e.op e.c)) from rfl)
      have HU := Lib.hid (And.intro hU hat)
      clear hU hat hok hV hz t0 t1 hs H1 c1 f0 f1 f2
      go_cut [71] (fun v wx => v = .bool (!nodeOk e) ∧ Below V.heap.size V wx)
      case first =>
        generalize e.kids.length = L at *
        generalize kidsOf e.op = K at *
        generalize constOk e.op e.c = C at *
        generalize e.op = O at *
        generalize e.col = M at *
        by_cases q1 : (L : Int) = K
        case neg =>
          have s1 : ((L : Int) != K) = true := by simpa using q1
          have r1 : ((L : Int) == K) = false := by simpa using q1
          rw [r1] at hno
          clear q1 r1
          refine wp_region_past V (by kernel_rfl) (by kernel_rfl) (Below.refl _ _) ?_
          repeat (first | go_big_quiet_step ((first | (go_at_call 43; refine (hk _).out.mono ?_; rintro _ _ ⟨rfl, rfl⟩; exact ⟨rfl, _, rfl⟩) | (go_at_call 44; exact calls_past (hc _).out))) | quiet_step ((first | (go_at_call 43; refine (hk _).out.mono ?_; rintro _ _ ⟨rfl, rfl⟩; exact ⟨rfl, _, rfl⟩) | (go_at_call 44; exact calls_past (hc _).out))))
          refine wpQuiet_nil ?_
          intro _ hw'
          obtain ⟨⟨wz, hbz⟩, hw''⟩ := hw'
          dsimp only at hw''
          obtain rfl := hw''
          go_wp2_with fail
          go_meet
          exact ⟨by rw [hno.out]; rfl, hbz⟩
        case pos =>
          have s1 : ((L : Int) != K) = false := by simpa using q1
          have r1 : ((L : Int) == K) = true := by simpa using q1
          rw [r1] at hno
          clear q1 r1
          by_cases q2 : M = 0
          case pos =>
            have s2 : (M != 0) = false := by simpa using q2
            have r2 : (M == 0) = true := by simpa using q2
            rw [r2] at hno
            clear q2 r2
            cases C
            all_goals
              refine wp_region_past V (by kernel_rfl) (by kernel_rfl) (Below.refl _ _) ?_
              repeat (first | go_big_quiet_step ((first | (go_at_call 43; refine (hk _).out.mono ?_; rintro _ _ ⟨rfl, rfl⟩; exact ⟨rfl, _, rfl⟩) | (go_at_call 44; exact calls_past (hc _).out))) | quiet_step ((first | (go_at_call 43; refine (hk _).out.mono ?_; rintro _ _ ⟨rfl, rfl⟩; exact ⟨rfl, _, rfl⟩) | (go_at_call 44; exact calls_past (hc _).out))))
              refine wpQuiet_nil ?_
              intro _ hw'
              obtain ⟨⟨wz, hbz⟩, hw''⟩ := hw'
              dsimp only at hw''
              obtain rfl := hw''
              go_wp2_with fail
              go_meet
              exact ⟨by rw [hno.out]; rfl, hbz⟩
          case neg =>
            have s2 : (M != 0) = true := by simpa using q2
            have r2 : (M == 0) = false := by simpa using q2
            rw [r2] at hno
            clear q2 r2
            by_cases q3 : O = 1
            case pos =>
              have s3 : (O != 1) = false := by simpa using q3
              have r3 : (O == 1) = true := by simpa using q3
              rw [r3] at hno
              clear q3 r3
              cases C
              all_goals
                refine wp_region_past V (by kernel_rfl) (by kernel_rfl) (Below.refl _ _) ?_
                repeat (first | go_big_quiet_step ((first | (go_at_call 43; refine (hk _).out.mono ?_; rintro _ _ ⟨rfl, rfl⟩; exact ⟨rfl, _, rfl⟩) | (go_at_call 44; exact calls_past (hc _).out))) | quiet_step ((first | (go_at_call 43; refine (hk _).out.mono ?_; rintro _ _ ⟨rfl, rfl⟩; exact ⟨rfl, _, rfl⟩) | (go_at_call 44; exact calls_past (hc _).out))))
                refine wpQuiet_nil ?_
                intro _ hw'
                obtain ⟨⟨wz, hbz⟩, hw''⟩ := hw'
                dsimp only at hw''
                obtain rfl := hw''
                go_wp2_with fail
                go_meet
                exact ⟨by rw [hno.out]; rfl, hbz⟩
            case neg =>
              have s3 : (O != 1) = true := by simpa using q3
              have r3 : (O == 1) = false := by simpa using q3
              rw [r3] at hno
              clear q3 r3
              refine wp_region_past V (by kernel_rfl) (by kernel_rfl) (Below.refl _ _) ?_
              repeat (first | go_big_quiet_step ((first | (go_at_call 43; refine (hk _).out.mono ?_; rintro _ _ ⟨rfl, rfl⟩; exact ⟨rfl, _, rfl⟩) | (go_at_call 44; exact calls_past (hc _).out))) | quiet_step ((first | (go_at_call 43; refine (hk _).out.mono ?_; rintro _ _ ⟨rfl, rfl⟩; exact ⟨rfl, _, rfl⟩) | (go_at_call 44; exact calls_past (hc _).out))))
              refine wpQuiet_nil ?_
              intro _ hw'
              obtain ⟨⟨wz, hbz⟩, hw''⟩ := hw'
              dsimp only at hw''
              obtain rfl := hw''
              go_wp2_with fail
              go_meet
              exact ⟨by rw [hno.out]; rfl, hbz⟩
      case rest =>
        obtain ⟨rfl, hcb⟩ := hcut
        have hU := HU.out.1.quiet hcb
        have hat := HU.out.2.past hcb (by omega)
        have HU2 := Lib.hid (And.intro hU hat)
        clear hU hat hcb HU hk hc hno d0 d1 d2 d3 d4 d5
        go_upto_if 71 with fail
        go_cut [] (fun wx => Upd w wx g 74 (stL ⟨if nodeOk e then 0 else 4, w64 (s.nodes + 1), s.deep || n == 0⟩))
        case first =>
          cases hn : nodeOk e with
          | true =>
            go_wp2_with fail
            go_meet
            exact HU2.out.1.as (by simp [hn])
          | false =>
            go_wp2_with fail
            refine (fail_any g _ _ 4 _ _ HU2.out.1.own).mono ?_
            rintro _ w2 ⟨rfl, u2⟩
            have U2 := Lib.hid u2
            clear u2
            go_wp2_with fail
            go_meet
            exact (HU2.out.1.trans U2.out).as (by simp [stL, fl, hn])
        case rest =>
          have hat := HU2.out.2
          have hU := hcut
          have hsz2 := hU.grow.size
          have hcw : LxAt wc b o e := HH.out.2.2.1.past (hU.below (Nat.le_refl _) (by omega)) hbg
          obtain ⟨d0, d1, d2, d3, d4, d5⟩ := hcw.six
          have hlen : e.kids.length ≤ 9223372036854775807 := by have := HH.out.1.2.2.2.1; unfold maxLen at this; omega
          have HW := Lib.hid (And.intro hU hcw)
          clear hat hU hcut HU2 HO hsz hsz2 hcw d0 d1 d2 d3 d4
          go_wp2_with fail
          go_loopw [81] (fun i wr => ∃ k : Nat, i = .int .i64 (k : Int) ∧ k ≤ e.kids.length ∧ Upd w wr g 74 (stL ((e.kids.take k).foldl (fun s k => lk n k s) ⟨if nodeOk e then 0 else 4, w64 (s.nodes + 1), s.deep || n == 0⟩)))
            (fun i _ => e.kids.length - (intOf i).toNat)
          case atStart => exact ⟨0, rfl, by omega, HW.out.1⟩
          case round =>
            obtain ⟨k, rfl, hk, hu⟩ := hrel
            by_cases hlt : k < e.kids.length
            · have hx : e.kids[k]? = some e.kids[k] := List.getElem?_eq_getElem hlt
              obtain ⟨b', o', hA, hB', hxs⟩ := lies_lx HH.out.2.1.1 (by omega)
              have hbw := hu.below (Nat.le_refl _) (Nat.le_of_lt hg)
              have hxa := (hxs k _ hx).past hbw hB'
              have hmem := List.mem_of_getElem? hx
              have hxi := (HH.out.2.1.2 _ hmem).past hbw (Nat.le_refl _)
              have hxo := HH.out.1.2.2.2.2 _ hmem
              have c5 := ((HH.out.2.2.1.past hbw hbg).six).2.2.2.2.2
              rw [hA] at c5
              have hst : (e.kids.take (k + 1)).foldl (fun s k => lk n k s) ⟨if nodeOk e then 0 else 4, w64 (s.nodes + 1), s.deep || n == 0⟩ = lk n e.kids[k] ((e.kids.take k).foldl (fun s k => lk n k s) ⟨if nodeOk e then 0 else 4, w64 (s.nodes + 1), s.deep || n == 0⟩) := by
                rw [List.take_add_one, hx, List.foldl_append]; rfl
              have hm : 16 - (n : Int) + 1 = 17 - (n : Int) := by omega
              have HX := Lib.hid (And.intro hu (And.intro hxa (And.intro hxi (And.intro hxo (And.intro hst hm)))))
              clear hu hx hxs hbw hxa hmem hxi hxo hst hm hA
              go_wp2_with fail
              rw [HX.out.2.2.2.2.2]
              refine (IH.out e.kids[k] _ b' (o' + k * 6) g _ HX.out.2.2.2.1 HX.out.2.2.1 HX.out.2.1 hB' HX.out.1.own).mono ?_
              rintro _ w2 ⟨rfl, u2⟩
              have U2 := Lib.hid u2
              clear u2
              go_wp2_with fail
              go_roundw
              case rel => exact ⟨k + 1, by go_num, by omega, (HX.out.1.trans U2.out).as (by rw [HX.out.2.2.2.2.1])⟩
              case measure => simp [intOf]; omega
            · have hk2 : k = e.kids.length := by omega
              subst hk2
              rw [List.take_length] at hu
              have HX := Lib.hid hu
              clear hu
              go_wp2_with fail
              exact bodyPost_end (results_none rfl _ _ _) rfl ⟨rfl, HX.out.as (by rw [lk_next HH.out.2.2.2])⟩
theorem look_any : ∀ n, n ≤ 17 → LookC n
  | 0, _ => look_zero
  | n + 1, h => look_next (by omega) (look_any n (by omega))
end Go.Proofs.Ytjidjpmdmcleoaa
