/- Facts and contracts on which DiffThere rests besides. -/
import Derived.Test.YtbccdmpnojdldaaDiffListsM6
import Derived.BigQuiet
import Derived.Handy
namespace Go.Proofs.Ytbccdmpnojdldaa
open Go Go.RowKit

theorem bsC0 (w' : World) : (Instr.buildSlice 41 0 #[]).run Try.prog w' = .ok (.slice (some ⟨w'.heap.size, 0, none⟩) 0 0) (w'.alloc (.cells #[] 64)) := by kernel_rfl
theorem bsC1 (u : Ct) (w' : World) : (Instr.buildSlice 41 1 #[(0, .agg u.cells.toArray)]).run Try.prog w' = .ok (.slice (some ⟨w'.heap.size, 0, none⟩) 1 1) (w'.alloc (.cells u.cells.toArray 64)) := by kernel_rfl
/-- what lies in the two rows, of the first counts -/
structure Ref2C (w : World) (base : Nat) (v8 v9 : Value) (P : List (Ln Ct)) : Prop where
  outs : w.ownsRow base 64 2 v8 P.length ((P.map Ln.u).flatMap Ct.cells)
  sums : w.ownsRow base 57 2 v9 P.length ((P.map Ln.S).flatMap wcells)
  apart : ∀ b, v8.ownBlock = some b → v9.ownBlock ≠ some b
/-- those that are left -/
def cvn (P : List (Ln Ct)) : List (List Vl × Int) := (P.map (pL Ct.k)).filter fun x => x.2 != 0
theorem cvn_snoc {P : List (Ln Ct)} {k : Nat} {x : Ln Ct} (h : P[k]? = some x) : cvn (P.take (k + 1)) = cvn (P.take k) ++ (if x.S = 0 then [] else [(x.u.row, x.S)]) := by
  unfold cvn
  rw [List.take_add_one, h, List.map_append, List.filter_append]
  congr 1
  by_cases h0 : x.S = 0
  · rw [if_pos h0]; simp [pL, h0]
  · rw [if_neg h0]; simp [pL, h0, Ct.k]
/-- whether a count has no place yet -/
def needsC (P : List (Ln Ct)) (i : Nat) (u : Ct) : Bool := match P[i]? with | none => true | some y => decide (0 < cmpRows y.u.row u.row)
/-- what is told of counts -/
def CtsR (l : List (List Vl × Int)) (e : Int) (w : World) (x : Ending) (w' : World) : Prop :=
  ∃ A c, ∃ outL : List Ct, x = .returned (.tuple #[.slice A outL.length c, .int .i64 e]) ∧ outL.map Ct.p = l ∧ Cts w' w'.heap.size A outL ∧ (∀ u ∈ outL, COk u) ∧ Below w.heap.size w w'
set_option maxRecDepth 100000 in
set_option maxHeartbeats 16000000 in
theorem radd_any (A : Option Addr) (c : Nat) (all : List Ct) (w : World) (hl : Cts w w.heap.size A all) (hok : ∀ u ∈ all, COk u) (hck : ∀ u ∈ all, chkRow u.row = 0) (hn : all.length ≤ 1048576) :
    Calls Try.prog 40 #[.slice A all.length c] w (CtsR (resL cmpRows (all.map Ct.p)) (resE cmpRows (all.map Ct.p)) w) := by
  obtain ⟨i0, hi, hz0, hz1, hz2⟩ := info_parts infoCt
  have HI := Lib.hid (And.intro Try.underlying41 (And.intro hi (And.intro hz0 (And.intro hz1 hz2))))
  obtain ⟨j0, hi, hz0, hz1, hz2⟩ := info_parts infoWd
  have HJ0 := Lib.hid (And.intro Try.underlying55 (And.intro hi (And.intro hz0 (And.intro hz1 hz2))))
  have HW := Lib.hid (And.intro hl.head (fun (u : Ct) (hu : u ∈ all) => And.intro (hck u hu) (And.intro (hok u hu) (hl.each_ u hu))))
  clear hl hok hck hi hz0 hz1 hz2
  obtain ⟨RL, hRL⟩ : ∃ RL, resL cmpRows (all.map Ct.p) = RL := ⟨_, rfl⟩
  obtain ⟨RE, hRE⟩ : ∃ RE, resE cmpRows (all.map Ct.p) = RE := ⟨_, rfl⟩
  rw [hRL, hRE]
  have HRR := Lib.hid (And.intro hRL hRE)
  clear hRL hRE
  go_enter Try.func40, Try.ntmps40
  go_wp2_with fail
  go_loopw [4, 5, 16] (fun v8 v9 v35 wr => ∃ (j : Nat) (P : List (Ln Ct)), v35 = .int .i64 (j : Int) ∧ j ≤ all.length ∧ P.length ≤ j ∧ Ref2C wr w.heap.size v8 v9 P ∧ P.map (pL Ct.k) = asm cmpRows ((all.take j).map Ct.p) ∧ (∀ x ∈ P, x.u ∈ all ∧ -(9223372036854775808 * (j : Int)) ≤ x.S ∧ x.S ≤ 9223372036854775808 * (j : Int)) ∧ Below w.heap.size w wr)
    (fun _ _ v35 _ => all.length - (intOf v35).toNat)
  case atStart => exact ⟨0, [], rfl, by omega, by simp, ⟨World.ownsRow_nil _ _ _ _, World.ownsRow_nil _ _ _ _, fun b e => (by cases e)⟩, rfl, fun x hx => (by cases hx), Below.refl _ _⟩
  case round =>
    obtain ⟨j, P, rfl, hj, hPj, hrf, hasm, hin, hbj⟩ := hrel
    obtain ⟨wi, hwi⟩ : ∃ wi, wi = wr := ⟨_, rfl⟩
    subst hwi
    by_cases hjt : j < all.length
    · have hy : all[j]? = some all[j] := List.getElem?_eq_getElem hjt
      have hym := List.mem_of_getElem? hy
      generalize all[j] = u at *
      obtain ⟨g, o, rfl, hB, hys⟩ := lies_ct HW.out.1 (by omega)
      obtain ⟨e0, e1⟩ := ((hys j u hy).past_ hbj hB).two
      obtain ⟨V, hV, hvb, hvs, hvo⟩ := ctbox wi u
      have hbV := hbj.trans (hvb.mono hbj.size)
      have hrfV : Ref2C V w.heap.size u4 u5 P := ⟨own_below hrf.outs hvb, own_below hrf.sums hvb, hrf.apart⟩
      obtain ⟨A8, c8, hv8, hc8, hm8, hl8⟩ := lies_of_own (size := 2) (cells := Ct.cells) (l := P.map Ln.u) (by decide) ccells_len (by rw [List.length_map]) hrfV.outs
      obtain ⟨A9, c9, hv9, hc9, hm9, hl9⟩ := lies_of_own (size := 2) (cells := wcells) (l := P.map Ln.S) (by decide) wcells_len (by rw [List.length_map]) hrfV.sums
      rw [List.length_map] at hv8 hc8 hv9 hc9
      subst hv8 hv9
      have HJ := Lib.hid (And.intro hy (And.intro hym (And.intro hasm (And.intro hin (And.intro hbV (And.intro hvo (And.intro hrfV (And.intro hl8 hl9))))))))
      have q3 : (0 : Int) ≤ (j : Int) := by omega
      have q4 : (j : Int) < (all.length : Int) := by omega
      have q5 : decide ((j : Int) < (all.length : Int)) = true := decide_eq_true q4
      clear hy hym hys hvb hvs hrf hasm hin hbj hbV hrfV hl8 hl9 hvo
      go_upto_region 6 with fail
      rw [← hV]
      clear hV e0 e1
      go_upto_block 2 with fail
      go_cut [8] (fun v12 wx => ∃ i : Nat, v12 = .int .i64 (i : Int) ∧ i ≤ P.length ∧ (∀ z ∈ P.take i, cmpRows z.u.row u.row < 0) ∧ (∀ y, P[i]? = some y → 0 ≤ cmpRows y.u.row u.row) ∧ Below V.heap.size V wx)
      case first =>
        go_wp2_with fail
        go_loopw [8] (fun v12 wx => ∃ i : Nat, v12 = .int .i64 (i : Int) ∧ i ≤ P.length ∧ (∀ z ∈ P.take i, cmpRows z.u.row u.row < 0) ∧ Below V.heap.size V wx) (fun v12 _ => P.length - (intOf v12).toNat)
        case atStart => exact ⟨0, rfl, by omega, fun z hz => (by cases hz), Below.refl _ _⟩
        case round =>
          obtain ⟨i, rfl, hi, hlow, hbi⟩ := hrel
          obtain ⟨wx, hwx⟩ : ∃ wx, wx = wr := ⟨_, rfl⟩
          subst hwx
          by_cases hit : i < P.length
          · have hz : P[i]? = some P[i] := List.getElem?_eq_getElem hit
            generalize P[i] = y at *
            have hzm := List.mem_of_getElem? hz
            have hzu : (P.map Ln.u)[i]? = some y.u := by rw [List.getElem?_map, hz]; rfl
            obtain ⟨g8, o8, rfl, hB8, hx8⟩ := lies_ct HJ.out.2.2.2.2.2.2.2.1 (by rw [List.length_map]; omega)
            have hyg := HW.out.2 y.u (HJ.out.2.2.2.1 y hzm).1
            have hug := HW.out.2 u HJ.out.2.1
            have hbw2 : Below w.heap.size w V := HJ.out.2.2.2.2.1
            have hin := fun (z : Ct) (hz : CIn w w.heap.size z) (p : Past wx) => ((hz.past hbw2 (Nat.le_refl _)).wide hbw2.size).keep (hbi.trans (p.h.mono hbi.size))
            have u1 : ∀ p : Past wx, Calls Try.prog 35 #[.slice y.u.rA y.u.row.length y.u.rc, .slice u.rA u.row.length u.rc] p.w fun e w'' => e = .returned (.int .i64 (cmpRows y.u.row u.row)) ∧ ∃ q : Past wx, w'' = q.w := fun p =>
              calls_past (refRows_any y.u.rA u.rA y.u.rc u.rc y.u.row u.row p.w (hin y.u hyg.2.2 p).row (hin u hug.2.2 p).row (maxn hyg.2.1.rn) (maxn hug.2.1.rn))
            have u3 := fun p : Past wx => own2 (HJ.out.2.2.2.2.2.1.past (hbi.trans (p.h.mono hbi.size)) HJ.out.2.2.2.2.2.1.inside)
            have u4 := fun p : Past wx => ((hx8 i y.u hzu).past_ (hbi.trans (p.h.mono hbi.size)) hB8).two
            obtain ⟨r, hr⟩ : ∃ r, cmpRows y.u.row u.row = r := ⟨_, rfl⟩
            rw [hr] at u1
            have HR := Lib.hid (And.intro hr (And.intro hz (And.intro hlow hbi)))
            have q6 : (0 : Int) ≤ (i : Int) := by omega
            have q7 : (i : Int) < (P.length : Int) := by omega
            have q8 : decide ((i : Int) < (P.length : Int)) = true := decide_eq_true q7
            by_cases hr0 : r < 0
            · have t1 : decide (r < 0) = true := decide_eq_true hr0
              have HR0 := Lib.hid hr0
              clear hr0 hr hz hzm hzu hx8 hyg hug hin hlow hbi hbw2
              go_upto_region 7 with fail
              refine wp_region_past wx (by kernel_rfl) (by kernel_rfl) (Below.refl _ _) ?_
              repeat (first | go_big_quiet_step ((go_at_call 35; exact u1 _)) | quiet_step ((go_at_call 35; exact u1 _)))
              refine wpQuiet_nil ?_
              intro wz hw'
              obtain ⟨⟨wy, hbz⟩, hw''⟩ := hw'
              dsimp only at hw''
              subst hw''
              have HZ := Lib.hid (HR.out.2.2.2.trans (hbz.mono HR.out.2.2.2.size))
              clear u1 u3 u4 hbz t1
              go_wp2_with fail
              go_roundw
              case rel =>
                refine ⟨i + 1, by go_num, by omega, fun z hz => ?_, HZ.out⟩
                rw [List.take_add_one, HR.out.2.1] at hz
                rcases List.mem_append.1 hz with hz | hz
                · exact HR.out.2.2.1 z hz
                · obtain rfl : z = y := by simpa using hz
                  rw [HR.out.1]
                  exact HR0.out
              case measure => simp [intOf]; omega
            · have t1 : decide (r < 0) = false := decide_eq_false hr0
              have HR0 := Lib.hid hr0
              clear hr0 hr hz hzm hzu hx8 hyg hug hin hlow hbi hbw2
              go_upto_region 7 with fail
              refine wp_region_past wx (by kernel_rfl) (by kernel_rfl) (Below.refl _ _) ?_
              repeat (first | go_big_quiet_step ((go_at_call 35; exact u1 _)) | quiet_step ((go_at_call 35; exact u1 _)))
              refine wpQuiet_nil ?_
              intro wz hw'
              obtain ⟨⟨wy, hbz⟩, hw''⟩ := hw'
              dsimp only at hw''
              subst hw''
              have HZ := Lib.hid (HR.out.2.2.2.trans (hbz.mono HR.out.2.2.2.size))
              clear u1 u3 u4 hbz t1
              go_wp2_with fail
              go_meet
              exact ⟨i, rfl, by omega, HR.out.2.2.1, fun z hz => by
                rw [HR.out.2.1] at hz
                obtain rfl := Option.some.inj hz
                rw [HR.out.1]
                have := HR0.out
                omega, HZ.out⟩
          · have q8 : decide ((i : Int) < (P.length : Int)) = false := decide_eq_false (by omega)
            have HR := Lib.hid (And.intro hlow hbi)
            clear hlow hbi
            go_upto_region 7 with fail
            go_quiet (fail)
            go_wp2_with fail
            go_meet
            exact ⟨i, rfl, hi, HR.out.1, fun z hz => by
              have := (List.getElem?_eq_some_iff.1 hz).1
              omega, below_draws HR.out.2 _⟩
      case rest =>
        obtain ⟨i, rfl, hi, hlow, hup, hbi⟩ := hcut
        obtain ⟨wx, hwx⟩ : ∃ wx, wx = wc := ⟨_, rfl⟩
        subst hwx
        have HX := Lib.hid (And.intro hlow (And.intro hup hbi))
        clear hlow hup hbi
        go_upto_region 9 with fail
        go_cut [51] (fun v66 wz => v66 = .bool (needsC P i u) ∧ Below V.heap.size V wz)
        case first =>
          by_cases hit : i < P.length
          · have hz : P[i]? = some P[i] := List.getElem?_eq_getElem hit
            generalize P[i] = y at *
            have hbi := HX.out.2.2
            have hzm := List.mem_of_getElem? hz
            have hzu : (P.map Ln.u)[i]? = some y.u := by rw [List.getElem?_map, hz]; rfl
            obtain ⟨g8, o8, rfl, hB8, hx8⟩ := lies_ct HJ.out.2.2.2.2.2.2.2.1 (by rw [List.length_map]; omega)
            have hyg := HW.out.2 y.u (HJ.out.2.2.2.1 y hzm).1
            have hug := HW.out.2 u HJ.out.2.1
            have hbw2 : Below w.heap.size w V := HJ.out.2.2.2.2.1
            have hin := fun (z : Ct) (hz : CIn w w.heap.size z) (p : Past wx) => ((hz.past hbw2 (Nat.le_refl _)).wide hbw2.size).keep (hbi.trans (p.h.mono hbi.size))
            have u1 : ∀ p : Past wx, Calls Try.prog 35 #[.slice y.u.rA y.u.row.length y.u.rc, .slice u.rA u.row.length u.rc] p.w fun e w'' => e = .returned (.int .i64 (cmpRows y.u.row u.row)) ∧ ∃ q : Past wx, w'' = q.w := fun p =>
              calls_past (refRows_any y.u.rA u.rA y.u.rc u.rc y.u.row u.row p.w (hin y.u hyg.2.2 p).row (hin u hug.2.2 p).row (maxn hyg.2.1.rn) (maxn hug.2.1.rn))
            have u3 := fun p : Past wx => own2 (HJ.out.2.2.2.2.2.1.past (hbi.trans (p.h.mono hbi.size)) HJ.out.2.2.2.2.2.1.inside)
            have u4 := fun p : Past wx => ((hx8 i y.u hzu).past_ (hbi.trans (p.h.mono hbi.size)) hB8).two
            obtain ⟨r, hr⟩ : ∃ r, cmpRows y.u.row u.row = r := ⟨_, rfl⟩
            rw [hr] at u1
            have hnd : needsC P i u = decide (0 < r) := by unfold needsC; rw [hz, ← hr]
            have HR := Lib.hid hbi
            have q6 : (0 : Int) ≤ (i : Int) := by omega
            have q7 : (i : Int) < (P.length : Int) := by omega
            have q8 : ((i : Int) == (P.length : Int)) = false := by rw [beq_eq_false_iff_ne]; omega
            have q9 : decide (i = P.length) = false := decide_eq_false (by omega)
            obtain ⟨B, hB'⟩ : ∃ B, decide (0 < r) = B := ⟨_, rfl⟩
            have HN := Lib.hid (hnd.trans hB')
            clear hr hz hzm hzu hx8 hyg hug hin hbi hbw2 hnd
            go_upto_region 9 with fail
            refine wp_region_past wx (by kernel_rfl) (by kernel_rfl) (Below.refl _ _) ?_
            repeat (first | go_big_quiet_step ((go_at_call 35; exact u1 _)) | quiet_step ((go_at_call 35; exact u1 _)))
            refine wpQuiet_nil ?_
            intro wz hw'
            obtain ⟨⟨wy, hbz⟩, hw''⟩ := hw'
            dsimp only at hw''
            subst hw''
            have HZ := Lib.hid (HR.out.trans (hbz.mono HR.out.size))
            clear u1 u3 u4 hbz
            go_wp2_with fail
            go_meet
            exact ⟨by rw [HN.out], HZ.out⟩
          · have q8 : ((i : Int) == (P.length : Int)) = true := by rw [beq_iff_eq]; omega
            have hnd : needsC P i u = true := by unfold needsC; rw [List.getElem?_eq_none (by omega)]
            have HN := Lib.hid hnd
            clear hnd
            go_upto_region 9 with fail
            go_quiet (fail)
            go_wp2_with fail
            go_meet
            exact ⟨by rw [HN.out], below_draws HX.out.2.2 _⟩
        case rest =>
          obtain ⟨rfl, hbz⟩ := hcut
          obtain ⟨wn, hwn⟩ : ∃ wn, wn = wc := ⟨_, rfl⟩
          subst hwn
          have HZ := Lib.hid hbz
          clear hbz
          obtain ⟨nb, hnb⟩ : ∃ nb, needsC P i u = nb := ⟨_, rfl⟩
          rw [hnb]
          have HNB := Lib.hid hnb
          clear hnb
          go_upto_if 51 with fail
          go_cut [4, 5] (fun v8 v9 wz => ∃ (P1 : List (Ln Ct)) (y : Ln Ct), P1[i]? = some y ∧ Ref2C wz w.heap.size v8 v9 P1 ∧ (P1.set i ⟨y.S + u.n, y.u⟩).map (pL Ct.k) = ins cmpRows u.p (P.map (pL Ct.k)) ∧ P1.length ≤ P.length + 1 ∧ (∀ x ∈ P1, x ∈ P ∨ x = ⟨0, u⟩) ∧ Below V.heap.size V wz)
          case first =>
            cases nb with
            | false =>
              go_wp2_with fail
              go_meet
              obtain ⟨y, hy, hr⟩ : ∃ y, P[i]? = some y ∧ ¬ 0 < cmpRows y.u.row u.row := by
                have := HNB.out
                unfold needsC at this
                cases hp : P[i]? with
                | none => rw [hp] at this; cases this
                | some y => rw [hp] at this; exact ⟨y, rfl, of_decide_eq_false this⟩
              have h0 := HX.out.2.1 y hy
              exact ⟨P, y, hy, ⟨own_below HJ.out.2.2.2.2.2.2.1.outs HZ.out, own_below HJ.out.2.2.2.2.2.2.1.sums HZ.out, HJ.out.2.2.2.2.2.2.1.apart⟩, ins_same (cmp := cmpRows) (k := Ct.k) P i u.p y HX.out.1 hy (by show cmpRows y.u.row u.row = 0; omega), by omega, fun x hx => .inl hx, HZ.out⟩
            | true =>
              have Hl8 := Lib.hid ((HJ.out.2.2.2.2.2.2.2.1.past HZ.out (Nat.le_refl _)).wide HZ.out.size)
              have HU := Lib.hid (HJ.out.2.2.2.2.2.1.past HZ.out HJ.out.2.2.2.2.2.1.inside)
              go_upto_region 10 with fail
              refine wp_ins (by kernel_rfl) (by decide) (by decide) 117 rfl (by decide) i0 _ 32 HI.out.1 HI.out.2.1 HI.out.2.2.1 HI.out.2.2.2.1 HI.out.2.2.2.2 rfl (by decide) ccells_len ccells_one (P.map Ln.u) u i A8 c8 P.length (by rw [List.length_map]) hi hc8 (by unfold maxLen; omega) (by omega) rfl rfl Hl8.out (.agg u.cells.toArray) (fun a' w' t5 hot hb => load_op (hot 7 (by decide)) rfl HU.out hb Try.underlying64 rfl (by kernel_rfl)) bsC0 (bsC1 u) ?_
              intro z0 z1 z2 z3 z4 z5 z6 z7 z8 z9 z10 z11 w19 b19 o19
              simp only [Act.put, List.setIfInBounds_toArray, List.set_cons_zero, List.set_cons_succ]
              have H19 := Lib.hid (And.intro b19 o19)
              have Hl9 := Lib.hid ((HJ.out.2.2.2.2.2.2.2.2.past (HZ.out.trans (b19.mono HZ.out.size)) (Nat.le_refl _)).wide (HZ.out.trans (b19.mono HZ.out.size)).size)
              clear b19 o19
              go_upto_region 11 with fail
              refine wp_ins (by kernel_rfl) (by decide) (by decide) 117 rfl (by decide) j0 _ 16 HJ0.out.1 HJ0.out.2.1 HJ0.out.2.2.1 HJ0.out.2.2.2.1 HJ0.out.2.2.2.2 rfl (by decide) wcells_len wcells_one (P.map Ln.S) 0 i A9 c9 P.length (by rw [List.length_map]) hi hc9 (by unfold maxLen; omega) (by omega) rfl rfl Hl9.out (.agg #[.int .i64 0, .int .u64 0]) (fun a' w' t5 hot hb => by unfold execOp; simp only [List.map_toArray, List.map_nil, Sem.run_bind, bsWz, Result.andThen_ok, Sem.run_pure]) bsW0 bsW1 ?_
              intro y0 y1 y2 y3 y4 y5 y6 y7 y8 y9 y10 y11 w20 b20 o20
              simp only [Act.put, List.setIfInBounds_toArray, List.set_cons_zero, List.set_cons_succ]
              have H20 := Lib.hid (And.intro b20 o20)
              clear b20 o20
              go_wp2_with fail
              go_meet
              have hzs := HZ.out.size
              have hz1 := H19.out.1.size
              have hvs : w.heap.size ≤ V.heap.size := HJ.out.2.2.2.2.1.size
              have hP1u : (P.map Ln.u).take i ++ u :: (P.map Ln.u).drop i = (P.take i ++ ⟨0, u⟩ :: P.drop i).map Ln.u := by simp [List.map_append, List.map_take, List.map_drop]
              have hP1S : (P.map Ln.S).take i ++ (0 : Int) :: (P.map Ln.S).drop i = (P.take i ++ ⟨0, u⟩ :: P.drop i).map Ln.S := by simp [List.map_append, List.map_take, List.map_drop]
              have hP1l : (P.take i ++ (⟨0, u⟩ : Ln Ct) :: P.drop i).length = P.length + 1 := by simp; omega
              refine ⟨P.take i ++ ⟨0, u⟩ :: P.drop i, ⟨0, u⟩, get_new P i hi _, ⟨?_, ?_, ?_⟩, ?_, by omega, ?_, (HZ.out.trans (H19.out.1.mono hzs)).trans (H20.out.1.mono (by omega))⟩
              · have := World.ownsRow.mono (own_below H19.out.2 H20.out.1) (show w.heap.size ≤ wn.heap.size by omega)
                rw [hP1l, ← hP1u]; exact this
              · have := World.ownsRow.mono H20.out.2 (show w.heap.size ≤ w19.heap.size by omega)
                rw [hP1l, ← hP1S]; exact this
              · intro b h8 h9
                have := (H19.out.2.lt b h8).2
                have := (H20.out.2.lt b h9).1
                omega
              · rw [set_new P i hi]
                have h := ins_new (cmp := cmpRows) (k := Ct.k) P i u (0 + u.n) HX.out.1 (fun y hy => by
                  have := HNB.out
                  unfold needsC at this
                  rw [hy] at this
                  exact of_decide_eq_true this)
                rw [Int.zero_add] at h ⊢
                exact h
              · intro x hx
                rcases List.mem_append.1 hx with hx | hx
                · exact .inl (List.mem_of_mem_take hx)
                · rcases List.mem_cons.1 hx with hx | hx
                  · exact .inr hx
                  · exact .inl (List.mem_of_mem_drop hx)
          case rest =>
            obtain ⟨P1, y, hy1, hrf1, hins, hl1, hm1, hb1⟩ := hcut
            obtain ⟨wm, hwm⟩ : ∃ wm, wm = wc := ⟨_, rfl⟩
            subst hwm
            have hi1 := (List.getElem?_eq_some_iff.1 hy1).1
            obtain ⟨g9, cap9, rfl⟩ : ∃ g9 cap9, u5 = .slice (some ⟨g9, 0, none⟩) P1.length cap9 := by
              rcases hrf1.sums.2 with ⟨_, h0⟩ | ⟨g, cap, cur, e, _⟩
              · omega
              · exact ⟨g, cap, e⟩
            have hg9 := hrf1.sums.lt g9 rfl
            have hyS : -(9223372036854775808 * (j : Int)) ≤ y.S ∧ y.S ≤ 9223372036854775808 * (j : Int) := by
              rcases hm1 y (List.mem_of_getElem? hy1) with h | h
              · exact (HJ.out.2.2.2.1 y h).2
              · subst h; simp only; omega
            have hud := (HW.out.2 u HJ.out.2.1).2.1
            have z1 := fun W => Lib.hid (plus_any y.S u.n W hud.dn.1 hud.dn.2 (by omega) (by omega))
            have hz0 : (P1.map Ln.S)[i]? = some y.S := by rw [List.getElem?_map, hy1]; rfl
            have hx0 : wm.cell? ⟨g9, i * 2, none⟩ = some (.int .i64 (y.S / 18446744073709551616)) := (hrf1.sums.cellAt (i * 2) (by omega)).trans (flat_of wcells_len (P1.map Ln.S) i 0 y.S _ hz0 rfl)
            have hx1 : wm.cell? ⟨g9, i * 2 + 1, none⟩ = some (.int .u64 (loW y.S)) := (hrf1.sums.cellAt (i * 2 + 1) (by omega)).trans (flat_of wcells_len (P1.map Ln.S) i 1 y.S _ hz0 rfl)
            have hf0 := fun k => hrf1.sums.frozenAt k
            have hvx := HJ.out.2.2.2.2.2.1.past hb1 HJ.out.2.2.2.2.2.1.inside
            obtain ⟨e0, e5⟩ := own2 hvx
            have hself : Below wm.heap.size wm wm.drew := (Below.refl _ _).drew
            have HM := Lib.hid (And.intro hy1 (And.intro hrf1 (And.intro hins (And.intro hl1 (And.intro hm1 (And.intro hb1 (And.intro hyS hud)))))))
            have HF := Lib.hid hf0
            have q6 : (0 : Int) ≤ (i : Int) := by omega
            have q7 : (i : Int) < (P1.length : Int) := by omega
            obtain ⟨y1, hy1'⟩ : ∃ y1, y.S / 18446744073709551616 = y1 := ⟨_, rfl⟩
            obtain ⟨y2, hy2'⟩ : ∃ y2, loW y.S = y2 := ⟨_, rfl⟩
            obtain ⟨s1, hs1'⟩ : ∃ s1, (y.S + u.n) / 18446744073709551616 = s1 := ⟨_, rfl⟩
            obtain ⟨s2, hs2'⟩ : ∃ s2, loW (y.S + u.n) = s2 := ⟨_, rfl⟩
            rw [hy1'] at hx0
            rw [hy2'] at hx1
            rw [hy1', hy2', hs1', hs2'] at z1
            have HS := Lib.hid (And.intro hs1' hs2')
            have hg9' := hg9.2
            clear hy1 hrf1 hins hl1 hm1 hb1 hyS hud hz0 hvx hf0 hy1' hy2' hs1' hs2' hg9 e0
            go_upto_region 12 with fail
            go_region_with (go_at_call 23; refine (z1 _).out.mono ?_; rintro _ w2 ⟨rfl, b2⟩; have b2' := belows hself b2; have c0' := (b2'.cell (p := ⟨g9, i * 2, none⟩) hg9').trans hx0; have c1' := (b2'.cell (p := ⟨g9, i * 2 + 1, none⟩) hg9').trans hx1; have f0 := (b2'.frozen (p := ⟨g9, i * 2, none⟩) hg9').trans (HF.out _); have f1 := (b2'.frozen (p := ⟨g9, i * 2 + 1, none⟩) hg9').trans (HF.out _))
            all_goals (have H2 := Lib.hid b2'; clear c0' c1' f0 f1 b2 b2' hself hx0 hx1 e5; go_wp2_with fail; go_roundw)
            iterate 2
              case rel =>
                obtain ⟨hy1, hrf1, hins, hl1, hm1, hb1, hyS, hud⟩ := HM.out
                obtain ⟨hs1', hs2'⟩ := HS.out
                have hz0 : (P1.map Ln.S)[i]? = some y.S := by rw [List.getElem?_map, hy1]; rfl
                have hwo : w.heap.size ≤ g9 := (hrf1.sums.lt g9 rfl).1
                have hsm2 := own_below hrf1.sums H2.out
                have hou2 := own_below hrf1.outs H2.out
                obtain ⟨k1, k2⟩ := hsm2.stored (i * 2) (.int .i64 s1)
                obtain ⟨k3, k4⟩ := k1.stored (i * 2 + 1) (.int .u64 s2)
                have hne : ∀ v : Value, (∀ b, v.ownBlock = some b → (Value.slice (some ⟨g9, 0, none⟩) P1.length cap9).ownBlock ≠ some b) → v.ownBlock = none ∨ v.ownBlock ≠ some g9 := fun v hv => .inr fun e => hv g9 e rfl
                refine ⟨j + 1, P1.set i ⟨y.S + u.n, y.u⟩, by go_num, by omega, by rw [List.length_set]; omega, ⟨?_, ?_, hrf1.apart⟩, ?_, ?_, ?_⟩
                · rw [List.length_set, List.map_set]
                  have : (P1.map Ln.u).set i y.u = P1.map Ln.u := set_same (by rw [List.getElem?_map, hy1]; rfl)
                  rw [show Ln.u (⟨y.S + u.n, y.u⟩ : Ln Ct) = y.u from rfl, this]
                  exact (hou2.kept k2 (hne _ hrf1.apart)).kept k4 (hne _ hrf1.apart)
                · rw [List.length_set, List.map_set, ← set_wide hz0]
                  rw [show Ln.S (⟨y.S + u.n, y.u⟩ : Ln Ct) = y.S + u.n from rfl, hs1', hs2']
                  exact k3
                · rw [hins, HJ.out.2.2.1, List.take_add_one, HJ.out.1, Option.toList_some, List.map_append, List.map_cons, List.map_nil, asm_snoc]
                · intro x hx
                  rcases List.mem_or_eq_of_mem_set hx with hx | hx
                  · rcases hm1 x hx with h | h
                    · have := HJ.out.2.2.2.1 x h
                      exact ⟨this.1, by omega, by omega⟩
                    · subst h
                      exact ⟨HJ.out.2.1, by simp only; omega, by simp only; omega⟩
                  · subst hx
                    have hdn := hud.dn
                    refine ⟨?_, by simp only; omega, by simp only; omega⟩
                    rcases hm1 y (List.mem_of_getElem? hy1) with h | h
                    · exact (HJ.out.2.2.2.1 y h).1
                    · subst h; exact HJ.out.2.1
                · have hvs := HJ.out.2.2.2.2.1.size
                  have h1 := HJ.out.2.2.2.2.1.trans (hb1.mono hvs)
                  have h2 := h1.trans (H2.out.mono h1.size)
                  exact (h2.setCell (p := ⟨g9, i * 2, none⟩) hwo _).setCell (p := ⟨g9, i * 2 + 1, none⟩) hwo _
              case measure => simp [intOf]; omega
    · have hj2 : j = all.length := by omega
      subst hj2
      have hta : all.take all.length = all := List.take_length
      rw [hta] at hasm
      obtain ⟨A8, c8, hv8, hc8, hm8, hl8⟩ := lies_of_own (size := 2) (cells := Ct.cells) (l := P.map Ln.u) (by decide) ccells_len (by rw [List.length_map]) hrf.outs
      obtain ⟨A9, c9, hv9, hc9, hm9, hl9⟩ := lies_of_own (size := 2) (cells := wcells) (l := P.map Ln.S) (by decide) wcells_len (by rw [List.length_map]) hrf.sums
      rw [List.length_map] at hv8 hc8 hv9 hc9
      subst hv8 hv9
      have HJ := Lib.hid (And.intro hasm (And.intro hin (And.intro hbj (And.intro hl8 hl9))))
      have q5 : decide ((all.length : Int) < (all.length : Int)) = false := decide_eq_false (by omega)
      clear hasm hin hbj hrf hl8 hl9 hta hj
      go_wp2_with fail
      go_loopw [9, 89] (fun v13 v104 wr => ∃ (k : Nat) (outL : List Ct), v104 = .int .i64 (k : Int) ∧ k ≤ P.length ∧ wr.ownsRow wi.heap.size 64 2 v13 outL.length (outL.flatMap Ct.cells) ∧ (∀ u ∈ outL, CIn wr wr.heap.size u ∧ COk u ∧ FarC wi.heap.size v13 wr u) ∧ outL.map Ct.p = cvn (P.take k) ∧ outL.length ≤ k ∧ (P.take k).all (fun x => fits x.S) = true ∧ Below wi.heap.size wi wr)
        (fun _ v104 _ => P.length - (intOf v104).toNat)
      case atStart => exact ⟨0, [], rfl, by omega, World.ownsRow_nil _ _ _ _, fun u hu => (by cases hu), rfl, by simp, rfl, Below.refl _ _⟩
      case round =>
        obtain ⟨k, outL, rfl, hk, hown, hout, hmap, hlen, hfit, hbk⟩ := hrel
        obtain ⟨wk, hwk⟩ : ∃ wk, wk = wr := ⟨_, rfl⟩
        subst hwk
        by_cases hkt : k < P.length
        · have hx : P[k]? = some P[k] := List.getElem?_eq_getElem hkt
          generalize P[k] = x at *
          have hxm := HJ.out.2.1 x (List.mem_of_getElem? hx)
          have hxg := HW.out.2 x.u hxm.1
          have hxu : (P.map Ln.u)[k]? = some x.u := by rw [List.getElem?_map, hx]; rfl
          have hxS : (P.map Ln.S)[k]? = some x.S := by rw [List.getElem?_map, hx]; rfl
          obtain ⟨g8, o8, rfl, hB8, hys8⟩ := lies_ct HJ.out.2.2.2.1 (by rw [List.length_map]; omega)
          obtain ⟨g9, o9, rfl, hB9, hys9⟩ := HJ.out.2.2.2.2 (by rw [List.length_map]; omega)
          obtain ⟨e0, e1⟩ := ((hys8 k x.u hxu).past_ hbk hB8).two
          obtain ⟨V, hV, hvb, hvs, hvo⟩ := ctbox wk x.u
          have hbV := hbk.trans (hvb.mono hbk.size)
          have d0 : V.cell? ⟨g9, o9 + k * 2, none⟩ = some (.int .i64 (x.S / 18446744073709551616)) := (hbV.cell (p := ⟨g9, o9 + k * 2, none⟩) hB9).trans (hys9 k x.S hxS 0 _ rfl)
          have d1 : V.cell? ⟨g9, o9 + k * 2 + 1, none⟩ = some (.int .u64 (loW x.S)) := (hbV.cell (p := ⟨g9, o9 + k * 2 + 1, none⟩) hB9).trans (hys9 k x.S hxS 1 _ rfl)
          have z1 := fun W => Lib.hid (fit_any x.S W (by omega) (by omega))
          have hbww : Below w.heap.size w wk := HJ.out.2.2.1.trans (hbk.mono HJ.out.2.2.1.size)
          have hrowk : Vals wk wk.heap.size x.u.rA x.u.row := (hxg.2.2.row.past hbww (Nat.le_refl _)).wide hbww.size
          have h8 := (chkRow_zero hxg.1).2
          have z2 := fun W (hb : Below wk.heap.size wk W) => Lib.hid (vcopy_any x.u.rA x.u.rc x.u.row W ((hrowk.past hb (Nat.le_refl _)).wide hb.size) (by omega))
          have hev := cvn_snoc hx
          have hall : fits x.S = true → (P.take (k + 1)).all (fun x => fits x.S) = true := fun h => by rw [List.take_add_one, hx, List.all_append, hfit]; simpa using h
          have hbad : fits x.S = false → (asm cmpRows (all.map Ct.p)).all (fun x => fits x.2) = false := fun h => by
            rw [← HJ.out.1, List.all_map]
            rw [List.all_eq_false]
            exact ⟨x, List.mem_of_getElem? hx, by show ¬ fits x.S = true; rw [h]; decide⟩
          have HK := Lib.hid (And.intro hown (And.intro hbV (And.intro hvo (And.intro hev (And.intro hall (And.intro hbad (And.intro hvb (And.intro hvs (And.intro hout hmap)))))))))
          have q3 : (0 : Int) ≤ (k : Int) := by omega
          have q4 : (k : Int) < (P.length : Int) := by omega
          have q6 : decide ((k : Int) < (P.length : Int)) = true := decide_eq_true q4
          obtain ⟨y1, hy1'⟩ : ∃ y1, x.S / 18446744073709551616 = y1 := ⟨_, rfl⟩
          obtain ⟨y2, hy2'⟩ : ∃ y2, loW x.S = y2 := ⟨_, rfl⟩
          rw [hy1'] at d0
          rw [hy2'] at d1
          rw [hy1', hy2'] at z1
          have hfe : fits x.S = false → fitE x.S = 10 := fun h => by unfold fitE; rw [h]; rfl
          have hfo : fits x.S = true → fitE x.S = 0 ∧ fitN x.S = x.S := fun h => by unfold fitE fitN; rw [h]; exact ⟨rfl, rfl⟩
          obtain ⟨En, hEn⟩ : ∃ En, fitE x.S = En := ⟨_, rfl⟩
          obtain ⟨Nn, hNn⟩ : ∃ Nn, fitN x.S = Nn := ⟨_, rfl⟩
          rw [hEn, hNn] at z1 hfo
          rw [hEn] at hfe
          have HE := Lib.hid (And.intro hfe hfo)
          have HG := Lib.hid hxg
          clear hown hbV hev hall hbad hvb hvs hx hxm hxu hxS hys8 hys9 hy1' hy2' hEn hNn hfe hfo hxg hfit hout hmap hbww hrowk h8
          go_upto_region 18 with fail
          rw [← hV]
          clear hV e0 e1
          go_wp2_with fail
          refine (z1 _).out.mono ?_
          rintro _ w2 ⟨rfl, b2⟩
          have ho2 := HK.out.2.2.1.past b2 HK.out.2.2.1.inside
          have H2 := Lib.hid (And.intro (HK.out.2.1.trans (b2.mono HK.out.2.1.size)) (belows HK.out.2.2.2.2.2.2.1 b2))
          clear b2 d0 d1
          cases hf : fits x.S
          case false =>
            have hen := HE.out.1 hf
            have hres : resE cmpRows (all.map Ct.p) = 10 ∧ resL cmpRows (all.map Ct.p) = [] := by
              unfold resE resL
              rw [HK.out.2.2.2.2.2.1 hf]
              exact ⟨rfl, rfl⟩
            have HR := Lib.hid hres
            have t1 : (En != 0) = true := by rw [hen]; rfl
            have HN := Lib.hid hen
            clear hf hen hres ho2
            go_wp2_with fail
            go_ret2
            exact ⟨none, 0, [], by rw [← HRR.out.2, HR.out.1, HN.out]; rfl, by rw [← HRR.out.1, HR.out.2]; rfl, ⟨Lies.nil_, fun u hu => (by cases hu)⟩, fun u hu => (by cases hu), HJ.out.2.2.1.trans (H2.out.1.mono HJ.out.2.2.1.size)⟩
          case true =>
            obtain ⟨rfl, rfl⟩ := HE.out.2 hf
            have hfb := (fits_iff x.S).1 hf
            have HF := Lib.hid (And.intro hf hfb)
            clear hf hfb HE
            by_cases hS0 : x.S = 0
            · have t1 : (x.S != 0) = false := by simp [hS0]
              have HS0 := Lib.hid hS0
              clear hS0 ho2
              go_wp2_with fail
              go_roundw
              case rel =>
                have hv := HK.out.2.2.2.1
                rw [if_pos HS0.out, List.append_nil] at hv
                obtain ⟨hout, hmap⟩ := HK.out.2.2.2.2.2.2.2.2
                exact ⟨k + 1, outL, by go_num, by omega, own_below HK.out.1 H2.out.2, fun u hu => ⟨(hout u hu).1.keep H2.out.2, (hout u hu).2.1, (hout u hu).2.2.next H2.out.2.size⟩, by rw [hv]; exact hmap, by omega, HK.out.2.2.2.2.1 HF.out.1, H2.out.1⟩
              case measure => simp [intOf]; omega
            · have t1 : (x.S != 0) = true := bne_iff_ne.2 hS0
              have HS0 := Lib.hid hS0
              have z3 := z2 w2 H2.out.2
              clear hS0 z1 z2
              obtain ⟨e0, e1⟩ := own2 ho2
              clear ho2
              go_wp2_with fail
              refine z3.out.mono ?_
              rintro _ w3 ⟨A3, c3, rfl, hv3, b3, hf3⟩
              have hb3 := belows H2.out.2 b3
              obtain ⟨u', hu'⟩ : ∃ u' : Ct, u' = ⟨A3, c3, x.u.row, x.S⟩ := ⟨_, rfl⟩
              have hs2 := H2.out.2.size
              have hs3 := b3.size
              have hcin : CIn w3 w3.heap.size u' := by subst hu'; exact ⟨hv3⟩
              have hcok : COk u' := by subst hu'; exact ⟨HG.out.2.1.rn, HG.out.2.1.rs, HF.out.2⟩
              have hwk : wi.heap.size ≤ wk.heap.size := hbk.size
              have hfar : FarC wi.heap.size u9 w3 u' := fun b o hb => by
                subst hu'
                have h1 := hf3 b o hb
                refine ⟨h1.2, fun e => ?_, by omega⟩
                have := (HK.out.1.lt b e).2
                omega
              have hpu : u'.p = (x.u.row, x.S) := by subst hu'; rfl
              have c0 : Value.slice A3 x.u.row.length c3 = .slice u'.rA u'.row.length u'.rc := by rw [hu']
              have c1 : Value.int .i64 x.S = .int .i64 u'.n := by rw [hu']
              rw [c0, c1]
              have H3 := Lib.hid (And.intro (hbk.trans (hb3.mono hwk)) (And.intro hb3 (And.intro hcin (And.intro hcok (And.intro hfar (And.intro hpu (own_below HK.out.1 hb3)))))))
              have hs3' : wi.heap.size ≤ w3.heap.size := by omega
              clear hv3 b3 hf3 hb3 hcin hcok hfar hpu c0 c1 hu' z3 e0 e1 hs2 hs3
              go_wp2_with (at_builtin; refine wpList_push _ rfl _ _ 41 rfl wi.heap.size 64 i0 _ 2 32 HI.out.1 HI.out.2.1 HI.out.2.2.1 HI.out.2.2.2.1 HI.out.2.2.2.2 rfl (by decide) _ _ _ rfl H3.out.2.2.2.2.2.2 #[.slice u'.rA u'.row.length u'.rc, .int .i64 u'.n] rfl rfl ?p1 ?p2 ?p3 ?p4 ?_)
              case p1 => exact ⟨rfl, rfl⟩
              case p2 => unfold maxLen; omega
              case p3 => omega
              case p4 => exact hs3'
              intro v' w' ho' hb' hob hgw
              have hfarn : ∀ u, FarC wi.heap.size u9 w3 u → FarC wi.heap.size v' w' u := fun u hu b o hb => by
                obtain ⟨h1, h2, h3⟩ := hu b o hb
                refine ⟨Nat.lt_of_lt_of_le h1 hgw.size, fun e => ?_, h3⟩
                rcases hob with h | h
                · rw [h] at e; exact h2 e
                · rw [h] at e
                  injection e with e
                  omega
              have hall2 : ∀ u ∈ outL ++ [u'], CIn w' w'.heap.size u ∧ COk u ∧ FarC wi.heap.size v' w' u := fun u hu => by
                rcases List.mem_append.1 hu with hu | hu
                · have hou := HK.out.2.2.2.2.2.2.2.2.1 u hu
                  have hf4 := hou.2.2.next H3.out.2.1.size
                  exact ⟨cin_grown (hou.1.keep H3.out.2.1) hf4 hgw, hou.2.1, hfarn u hf4⟩
                · obtain rfl : u = u' := by simpa using hu
                  exact ⟨cin_grown H3.out.2.2.1 H3.out.2.2.2.2.1 hgw, H3.out.2.2.2.1, hfarn u H3.out.2.2.2.2.1⟩
              have H4 := Lib.hid (And.intro ho' (And.intro hall2 (H3.out.1.trans hb')))
              clear ho' hb' hob hgw hfarn hall2
              go_wp2_with fail
              go_roundw
              case rel =>
                have hv := HK.out.2.2.2.1
                rw [if_neg HS0.out] at hv
                refine ⟨k + 1, outL ++ [u'], by go_num, by omega, ?_, H4.out.2.1, ?_, by rw [List.length_append, List.length_singleton]; omega, HK.out.2.2.2.2.1 HF.out.1, H4.out.2.2⟩
                · rw [List.length_append, List.flatMap_append]
                  exact H4.out.1
                · rw [List.map_append, hv, HK.out.2.2.2.2.2.2.2.2.2, List.map_cons, List.map_nil, H3.out.2.2.2.2.2.1]
              case measure => simp [intOf]; omega
        · have hk2 : k = P.length := by omega
          subst hk2
          rw [List.take_length] at hfit hmap
          have q6 : decide ((P.length : Int) < (P.length : Int)) = false := decide_eq_false (by omega)
          obtain ⟨A13, c13, rfl, _, _, hl13⟩ := lies_of_own (size := 2) (cells := Ct.cells) (by decide) ccells_len rfl hown
          have hbw : Below w.heap.size w wk := HJ.out.2.2.1.trans (hbk.mono HJ.out.2.2.1.size)
          have hres : resE cmpRows (all.map Ct.p) = 0 ∧ resL cmpRows (all.map Ct.p) = outL.map Ct.p := by
            have h1 : (asm cmpRows (all.map Ct.p)).all (fun x => fits x.2) = true := by rw [← HJ.out.1, List.all_map]; exact hfit
            unfold resE resL nz
            rw [if_pos h1, if_pos h1, ← HJ.out.1, hmap]
            exact ⟨rfl, rfl⟩
          have HR := Lib.hid (And.intro hres (And.intro hbw (And.intro hl13 hout)))
          clear hown hfit hl13 hres hbw hbk hout hmap
          go_wp2_with fail
          go_ret2
          exact ⟨A13, c13, outL, by rw [← HRR.out.2, HR.out.1.1]; rfl, by rw [← HRR.out.1, HR.out.1.2], ⟨HR.out.2.2.1, fun u hu => (HR.out.2.2.2 u hu).1⟩, fun u hu => (HR.out.2.2.2 u hu).2.1, HR.out.2.1⟩
end Go.Proofs.Ytbccdmpnojdldaa
namespace Go.Proofs.Ytbccdmpnojdldaa
open Go Go.RowKit

set_option maxRecDepth 100000 in
set_option maxHeartbeats 800000 in
theorem refAhead_any (s t : Tm) (w : World) :
    Calls Try.prog 39 #[s.val, t.val] w fun e w' => e = .returned (.bool (s.le t)) ∧ Below w.heap.size w w' := by
  obtain ⟨a, b, c⟩ := s
  obtain ⟨x, y, z⟩ := t
  unfold Tm.val Tm.le
  dsimp only
  have i0 : ∀ w, (Instr.index 34 (.agg #[.int .u64 (b : Int), .int .u64 (c : Int)]) (.int .i64 0)).run Try.prog w = .ok (.int .u64 (b : Int)) w := fun _ => by kernel_rfl
  have i1 : ∀ w, (Instr.index 34 (.agg #[.int .u64 (b : Int), .int .u64 (c : Int)]) (.int .i64 1)).run Try.prog w = .ok (.int .u64 (c : Int)) w := fun _ => by kernel_rfl
  have hB := fun (o1 o2 : Obj) => (((Below.refl w.heap.size w).alloc (Nat.le_refl _) o1).alloc (by simp) o2)
  have HB := Lib.hid hB
  clear hB
  go_enter Try.func39, Try.ntmps39
  go_wp2_with fail
  go_rounds 3
  all_goals
    go_ret
    refine ⟨ret_bool ?_, HB.out _ _⟩
    rw [Bool.eq_iff_iff]; simp only [Bool.and_eq_true, decide_eq_true_eq, Bool.false_eq_true, true_iff, false_iff, iff_true, iff_false]; omega
end Go.Proofs.Ytbccdmpnojdldaa
namespace Go.Proofs.Ytbccdmpnojdldaa
open Go Go.RowKit

/-- the counts of what is there -/
def cAt (l : List Up) (t : Tm) : List Ct := (l.filter fun u => u.t.le t).map fun u => ⟨u.rA, u.rc, u.row, u.d⟩
theorem cAt_p (l : List Up) (t : Tm) : (cAt l t).map Ct.p = atP l t := by unfold cAt atP; rw [List.map_map]; rfl
theorem cAt_len (l : List Up) (t : Tm) : (cAt l t).length ≤ l.length := by unfold cAt; rw [List.length_map]; exact List.length_filter_le ..
theorem cAt_next {l : List Up} {t : Tm} {j : Nat} {u : Up} (h : l[j]? = some u) : cAt (l.take (j + 1)) t = cAt (l.take j) t ++ if u.t.le t = true then [⟨u.rA, u.rc, u.row, u.d⟩] else [] := by
  unfold cAt
  rw [List.take_add_one, h, List.filter_append, List.map_append]
  congr 1
  by_cases ht : u.t.le t = true <;> simp [ht]
theorem tm_made (w : World) (t : Tm) : Times (w.alloc (.cells #[.int .u64 (t.e : Int), .int .u64 (t.a : Int), .int .u64 (t.b : Int)] 36)) (w.heap.size + 1) (some ⟨w.heap.size, 0, none⟩) [t] := fun _ => by
  have ho := Own.made w 36 t.cells
  refine ⟨w.heap.size, 0, rfl, Nat.lt_succ_self _, fun i x hx => ?_⟩
  match i, hx with
  | 0, hx =>
    obtain rfl : t = x := by simpa using hx
    exact ⟨ho.at_ 0, ho.at_ 1, ho.at_ 2⟩
set_option maxRecDepth 100000 in
set_option maxHeartbeats 16000000 in
theorem rat_any (A : Option Addr) (c : Nat) (l : List Up) (t : Tm) (w : World) (hl : Ups w w.heap.size A l) (hok : ∀ u ∈ l, UOk u) (hn : l.length ≤ 1048576) :
    Calls Try.prog 16 #[.slice A l.length c, .agg #[.int .u64 (t.e : Int), .int .u64 (t.a : Int), .int .u64 (t.b : Int)]] w (CtsR (atL l t) (atE l t) w) := by
  obtain ⟨i0, hi, hz0, hz1, hz2⟩ := info_parts infoCt
  have HI := Lib.hid (And.intro Try.underlying41 (And.intro hi (And.intro hz0 (And.intro hz1 hz2))))
  obtain ⟨V, hV, hvb, hvs, hvo⟩ := tm_box w t
  have z1 := fun W (hb : Below w.heap.size w W) => Lib.hid (rcheck_any A c l W (hl.keep hb) (by omega) hok)
  have z2 := fun (W : World) => Lib.hid (refCheck_any (some ⟨W.heap.size, 0, none⟩) 1 [t] (W.alloc (.cells #[.int .u64 (t.e : Int), .int .u64 (t.a : Int), .int .u64 (t.b : Int)] 36)) (by rw [World.size_alloc]; exact tm_made W t) (by simp [maxLen]))
  have z3 := fun (s : Tm) W => Lib.hid (refAhead_any s t W)
  unfold Tm.val at z3
  have HV := Lib.hid (And.intro hvb hvo)
  have HL := Lib.hid (And.intro hl hok)
  obtain ⟨K, hK⟩ : ∃ K, chkUs l = K := ⟨_, rfl⟩
  obtain ⟨Q, hQ⟩ : ∃ Q, chk [t] = Q := ⟨_, rfl⟩
  rw [hK] at z1
  rw [hQ] at z2
  have HA := Lib.hid (show (K = 0 ∧ Q = 0 → atL l t = resL cmpRows (atP l t) ∧ atE l t = resE cmpRows (atP l t)) ∧ (K ≠ 0 → atL l t = [] ∧ atE l t = K) ∧ (K = 0 ∧ Q ≠ 0 → atL l t = [] ∧ atE l t = Q) by
    have ho : chkAt l t = orI K Q := by unfold chkAt; rw [hK, hQ]
    unfold atL atE
    rw [ho]
    unfold orI
    refine ⟨fun ⟨h1, h2⟩ => ?_, fun h => ?_, fun ⟨h1, h2⟩ => ?_⟩
    · rw [if_pos (by simp [h1, h2]), if_pos (by simp [h1, h2])]; exact ⟨rfl, rfl⟩
    · rw [if_neg (by simp [h]), if_neg (by simp [h])]; exact ⟨rfl, by simp [h]⟩
    · rw [if_neg (by simp [h1, h2]), if_neg (by simp [h1, h2])]; exact ⟨rfl, by simp [h1]⟩)
  have HC := Lib.hid (show K = 0 → ∀ u ∈ l, chkRow u.row = 0 from fun h u hu => (chkK_zero (chkUs_all.1 (hK.trans h) u hu)).2.1)
  generalize atL l t = AL at *
  generalize atE l t = AE at *
  clear hl hok hi hz0 hz1 hz2 hvb hvo hK hQ
  go_enter Try.func16, Try.ntmps16
  go_upto_region 1 with fail
  rw [← hV]
  clear hV hvs
  go_wp2_with fail
  refine (z1 _ HV.out.1).out.mono ?_
  rintro _ w1 ⟨rfl, b1⟩
  have H1 := Lib.hid (And.intro (belows HV.out.1 b1) (HV.out.2.past b1 HV.out.2.inside))
  clear b1 z1
  by_cases hK0 : K = 0
  case neg =>
    have t1 : (K == 0) = false := beq_eq_false_iff_ne.2 hK0
    have t2 : (K != 0) = true := bne_iff_ne.2 hK0
    have HR := Lib.hid (HA.out.2.1 hK0)
    clear hK0
    go_wp2_with fail
    go_ret2
    exact ⟨none, 0, [], by rw [HR.out.2]; rfl, HR.out.1.symm, ⟨Lies.nil_, fun u hu => (by cases hu)⟩, fun u hu => (by cases hu), H1.out.1⟩
  have t1 : (K == 0) = true := beq_iff_eq.2 hK0
  have HK0 := Lib.hid hK0
  clear hK0
  obtain ⟨d0, d1, d2⟩ := own3 H1.out.2
  go_wp2_with fail
  refine (z2 _).out.mono ?_
  rintro _ w2 ⟨rfl, b2⟩
  have hal := (Below.refl w1.heap.size w1).alloc (Nat.le_refl _) (.cells #[.int .u64 (t.e : Int), .int .u64 (t.a : Int), .int .u64 (t.b : Int)] 36)
  have hb2 := belows hal b2
  have H2 := Lib.hid (And.intro (belows H1.out.1 hb2) (H1.out.2.past hb2 H1.out.2.inside))
  clear b2 z2 hal hb2 d0 d1 d2
  by_cases hQ0 : Q = 0
  case neg =>
    have t2 : (Q != 0) = true := bne_iff_ne.2 hQ0
    have HR := Lib.hid (HA.out.2.2 ⟨HK0.out, hQ0⟩)
    clear hQ0
    go_wp2_with fail
    go_ret2
    exact ⟨none, 0, [], by rw [HR.out.2]; rfl, HR.out.1.symm, ⟨Lies.nil_, fun u hu => (by cases hu)⟩, fun u hu => (by cases hu), H2.out.1⟩
  have t2 : (Q != 0) = false := bne_eq_false_iff_eq.2 hQ0
  have HR := Lib.hid (HA.out.1 ⟨HK0.out, hQ0⟩)
  clear hQ0
  go_wp2_with fail
  go_loopw [7, 22] (fun v7 v22 wr => ∃ k : Nat, v22 = .int .i64 (k : Int) ∧ k ≤ l.length ∧ wr.ownsRow w2.heap.size 64 2 v7 (cAt (l.take k) t).length ((cAt (l.take k) t).flatMap Ct.cells) ∧ Below w2.heap.size w2 wr) (fun _ v22 _ => l.length - (intOf v22).toNat)
  case atStart => exact ⟨0, rfl, by omega, World.ownsRow_nil _ _ _ _, Below.refl _ _⟩
  case round =>
    obtain ⟨k, rfl, hk, hown, hb⟩ := hrel
    obtain ⟨wi, hwi⟩ : ∃ wi, wi = wr := ⟨_, rfl⟩
    subst hwi
    by_cases hlt : k < l.length
    · have hx : l[k]? = some l[k] := List.getElem?_eq_getElem hlt
      generalize l[k] = u at *
      have hbw := belows H2.out.1 hb
      obtain ⟨b, o, rfl, hB, hys⟩ := lies_up (HL.out.1.keep hbw).head (by omega)
      obtain ⟨e0, e1, e2, e3, e4, e5⟩ := (hys k u hx).six
      obtain ⟨V2, hV2, hvb2, hvs2, hvo2⟩ := upbox wi u
      have hnx := cAt_next (t := t) hx
      have hlen := cAt_len (l.take k) t
      rw [List.length_take] at hlen
      have ho3 := ((H2.out.2.past hb H2.out.2.inside).past hvb2 (H2.out.2.past hb H2.out.2.inside).inside)
      have HO := Lib.hid (And.intro (own_below hown hvb2) (And.intro (hb.trans (hvb2.mono hb.size)) (And.intro hvo2 (And.intro hnx ho3))))
      have q0 : (0 : Int) ≤ (k : Int) := by omega
      have q1 : (k : Int) < (l.length : Int) := by omega
      have q2 : decide ((k : Int) < (l.length : Int)) = true := decide_eq_true q1
      have z4 := fun W => z3 u.t W
      obtain ⟨Bv, hBv⟩ : ∃ Bv, u.t.le t = Bv := ⟨_, rfl⟩
      rw [hBv] at z4
      have HBv := Lib.hid hBv
      clear hown hb hx hbw hys hvb2 hvs2 hvo2 hnx hBv ho3
      go_upto_region 10 with fail
      rw [← hV2]
      clear hV2 e0 e1 e2 e3 e4 e5
      obtain ⟨e0, e1, e2, e3, e4, e5⟩ := own6 HO.out.2.2.1
      obtain ⟨d0, d1, d2⟩ := own3 HO.out.2.2.2.2
      go_wp2_with fail
      refine (z4 _).out.mono ?_
      rintro _ w3 ⟨rfl, b3⟩
      have H3 := Lib.hid (And.intro (HO.out.2.1.trans (b3.mono HO.out.2.1.size)) (And.intro (own_below HO.out.1 b3) (HO.out.2.2.1.past b3 HO.out.2.2.1.inside)))
      have hs3 := H3.out.1.size
      clear b3 z4 e0 e1 e2 e3 e4 e5 d0 d1 d2
      cases Bv with
      | false =>
        go_wp2_with fail
        go_roundw
        case rel =>
          have h := HO.out.2.2.2.1
          rw [HBv.out] at h
          refine ⟨k + 1, by go_num, by omega, ?_, H3.out.1⟩
          rw [h]
          simpa using H3.out.2.1
        case measure => simp [intOf]; omega
      | true =>
        obtain ⟨e0, e1, e2, e3, e4, e5⟩ := own6 H3.out.2.2
        go_wp2_with (at_builtin; refine wpList_push _ rfl _ _ 41 rfl w2.heap.size 64 i0 _ 2 32 HI.out.1 HI.out.2.1 HI.out.2.2.1 HI.out.2.2.2.1 HI.out.2.2.2.2 rfl (by decide) _ _ _ rfl H3.out.2.1 #[.slice u.rA u.row.length u.rc, .int .i64 u.d] rfl rfl ?p1 ?p2 ?p3 ?p4 ?_)
        case p1 => exact ⟨rfl, rfl⟩
        case p2 => unfold maxLen; omega
        case p3 => omega
        case p4 => exact hs3
        intro v' w' ho' hb' hob hgw
        have H4 := Lib.hid (And.intro ho' (H3.out.1.trans hb'))
        clear ho' hb' hob hgw e0 e1 e2 e3 e4 e5
        go_wp2_with fail
        go_roundw
        case rel =>
          have h := HO.out.2.2.2.1
          rw [HBv.out, if_pos rfl] at h
          refine ⟨k + 1, by go_num, by omega, ?_, H4.out.2⟩
          rw [h, List.length_append, List.flatMap_append]
          exact H4.out.1
        case measure => simp [intOf]; omega
    · have hk2 : k = l.length := by omega
      subst hk2
      rw [List.take_length] at hown
      have q2 : decide ((l.length : Int) < (l.length : Int)) = false := decide_eq_false (by omega)
      obtain ⟨A7, c7, rfl, _, _, hl7⟩ := lies_of_own (size := 2) (cells := Ct.cells) (by decide) ccells_len rfl hown
      have hbw := belows H2.out.1 hb
      have hmem : ∀ x ∈ cAt l t, ∃ u ∈ l, x = ⟨u.rA, u.rc, u.row, u.d⟩ := fun x hx => by
        obtain ⟨u, hu, rfl⟩ := List.mem_map.1 hx
        exact ⟨u, (List.mem_filter.1 hu).1, rfl⟩
      have hcall := Lib.hid (radd_any A7 c7 (cAt l t) wi ⟨hl7, fun x hx => by obtain ⟨u, hu, rfl⟩ := hmem x hx; exact ⟨((HL.out.1.keep hbw).each_ u hu).row⟩⟩
        (fun x hx => by obtain ⟨u, hu, rfl⟩ := hmem x hx; have := HL.out.2 u hu; exact ⟨this.rn, this.rs, this.dn⟩)
        (fun x hx => by obtain ⟨u, hu, rfl⟩ := hmem x hx; exact HC.out HK0.out u hu) (by have := cAt_len l t; omega))
      rw [cAt_p, ← HR.out.1, ← HR.out.2] at hcall
      have HB := Lib.hid hbw
      clear hown hl7 hbw hmem hb
      go_wp2_with fail
      refine hcall.out.mono ?_
      rintro _ w5 ⟨A5, c5, outL, rfl, hp5, hu5, ok5, b5⟩
      have H5 := Lib.hid (And.intro hp5 (And.intro hu5 (And.intro ok5 b5)))
      clear hp5 hu5 ok5 b5 hcall
      go_wp2_with fail
      go_ret2
      exact ⟨A5, c5, outL, rfl, H5.out.1, H5.out.2.1, H5.out.2.2.1, belows HB.out H5.out.2.2.2⟩
set_option maxRecDepth 100000 in
set_option maxHeartbeats 16000000 in
theorem rmerge_any (A : Option Addr) (c : Nat) (L : List (Rw Ct)) (w : World) (hl : CLs w w.heap.size A L) (hok : ∀ s ∈ L, ∀ u ∈ s.l, COk u) (hn : (flatR L).length ≤ 1048576) (hn2 : L.length ≤ 1048576) :
    Calls Try.prog 18 #[.slice A L.length c] w (CtsR (mergeL (L.map Rw.l)) (mergeE (L.map Rw.l)) w) := by
  obtain ⟨i0, hi, hz0, hz1, hz2⟩ := info_parts infoCt
  have HI := Lib.hid (And.intro Try.underlying41 (And.intro hi (And.intro hz0 (And.intro hz1 hz2))))
  have HL := Lib.hid (And.intro hl hok)
  clear hl hok hi hz0 hz1 hz2
  go_enter Try.func18, Try.ntmps18
  go_wp2_with fail
  go_loopw [4, 11] (fun v4 v12 wr => ∃ k : Nat, v12 = .int .i64 (k : Int) ∧ k ≤ L.length ∧ wr.ownsRow w.heap.size 64 2 v4 (flatR (L.take k)).length ((flatR (L.take k)).flatMap Ct.cells) ∧ Below w.heap.size w wr ∧ chkCs (flatR (L.take k)) = 0)
    (fun _ v12 _ => L.length - (intOf v12).toNat)
  case atStart => exact ⟨0, rfl, by omega, World.ownsRow_nil _ _ _ _, Below.refl _ _, rfl⟩
  case round =>
    obtain ⟨k, rfl, hk, hown, hbw, hchk⟩ := hrel
    obtain ⟨wo, hwo⟩ : ∃ wo, wo = wr := ⟨_, rfl⟩
    subst hwo
    by_cases hlt : k < L.length
    · have hx : L[k]? = some L[k] := List.getElem?_eq_getElem hlt
      have hxm := List.mem_of_getElem? hx
      generalize L[k] = s at *
      obtain ⟨b, o, rfl, hB, hc0, hups⟩ := HL.out.1.at_ hx
      have hc0 := (hbw.cell (p := ⟨b, o + k, none⟩) hB).trans hc0
      have hsn : s.l.length ≤ 1048576 := by have := flatR_len hx (Nat.le_refl _); omega
      have HO := Lib.hid (And.intro hown (And.intro hbw (And.intro hx (And.intro hxm (And.intro hups hchk)))))
      have q0 : (0 : Int) ≤ (k : Int) := by omega
      have q1 : (k : Int) < (L.length : Int) := by omega
      have q2 : decide ((k : Int) < (L.length : Int)) = true := decide_eq_true q1
      obtain ⟨KA, hKA⟩ : ∃ KA, s.A = KA := ⟨_, rfl⟩
      rw [hKA] at hc0
      have HKA := Lib.hid hKA
      clear hown hbw hchk hx hxm hups hKA
      go_wp2_with fail
      go_loopw [4, 17] (fun v4 v18 wi => ∃ j : Nat, v18 = .int .i64 (j : Int) ∧ j ≤ s.l.length ∧ wi.ownsRow w.heap.size 64 2 v4 (flatR (L.take k) ++ s.l.take j).length ((flatR (L.take k) ++ s.l.take j).flatMap Ct.cells) ∧ Below w.heap.size w wi ∧ chkCs (flatR (L.take k) ++ s.l.take j) = 0)
        (fun _ v18 _ => s.l.length - (intOf v18).toNat)
      case atStart => exact ⟨0, rfl, by omega, by rw [List.take_zero, List.append_nil]; exact HO.out.1, HO.out.2.1, by rw [List.take_zero, List.append_nil]; exact HO.out.2.2.2.2.2⟩
      case round =>
        obtain ⟨j, rfl, hj, hownj, hbj, hchj⟩ := hrel
        obtain ⟨wi, hwi⟩ : ∃ wi, wi = wr := ⟨_, rfl⟩
        subst hwi
        by_cases hjt : j < s.l.length
        · have hy : s.l[j]? = some s.l[j] := List.getElem?_eq_getElem hjt
          have hym := List.mem_of_getElem? hy
          generalize s.l[j] = u at *
          have hys0 := HO.out.2.2.2.2.1.head
          rw [HKA.out] at hys0
          obtain ⟨b', o', rfl, hB', hys⟩ := lies_ct hys0 (by omega)
          obtain ⟨e0, e1⟩ := ((hys j u hy).past_ hbj hB').two
          obtain ⟨V, hV, hvb, hvs, hvo⟩ := ctbox wi u
          have hin0 : COk u := HL.out.2 s HO.out.2.2.2.1 u hym
          have hrow0 := (((HO.out.2.2.2.2.1.each_ u hym).past hbj (Nat.le_refl _)).wide hbj.size).keep hvb
          have hcall := Lib.hid (vrefCheck_any u.rA u.rc u.row V hrow0.row (maxn hin0.rn) (fun v hv => (hin0.rs v hv).1))
          have hlen : (flatR (L.take k)).length + j ≤ (flatR L).length := flatR_len HO.out.2.2.1 (by omega)
          have hlj : (flatR (L.take k) ++ s.l.take j).length = (flatR (L.take k)).length + j := by rw [List.length_append, List.length_take]; omega
          have hln : (flatR (L.take k) ++ s.l.take j).length ≤ 1048576 := by omega
          have hrowV := own_below hownj hvb
          have hbV := hbj.trans (hvb.mono hbj.size)
          have htk : s.l.take (j + 1) = s.l.take j ++ [u] := by rw [List.take_add_one, hy]; rfl
          obtain ⟨rest, hrest⟩ := flat_from HO.out.2.2.1 hy
          have q3 : (0 : Int) ≤ (j : Int) := by omega
          have q4 : (j : Int) < (s.l.length : Int) := by omega
          have q5 : decide ((j : Int) < (s.l.length : Int)) = true := decide_eq_true q4
          have hbad := fun h => chkCs_bad (a := flatR (L.take k) ++ s.l.take j) (b := rest) (c := u) hchj h
          rw [← hrest] at hbad
          have hgood := fun h => chkCs_snoc (a := flatR (L.take k) ++ s.l.take j) (c := u) hchj h
          generalize hflat : flatR (L.take k) ++ s.l.take j = us at *
          obtain ⟨K, hK⟩ : ∃ K, chkRow u.row = K := ⟨_, rfl⟩
          have h4 : K ≠ 0 → K = 4 := fun h => by rw [← hK] at h ⊢; exact chkRow_four h
          rw [hK] at hcall hbad hgood
          have HJ := Lib.hid (And.intro htk (And.intro hbV (And.intro hflat (And.intro hbad (And.intro hgood (And.intro hvo (And.intro hrowV h4)))))))
          clear hy hym hys hys0 hvb hvs hin0 hlen hlj hownj hbj hbV htk hflat hbad hgood hchj hrest hK hrow0 hrowV hvo h4
          go_upto_region 8 with fail
          rw [← hV]
          clear hV e0 e1
          obtain ⟨e0, e1⟩ := own2 HJ.out.2.2.2.2.2.1
          go_wp2_with fail
          refine hcall.out.mono ?_
          rintro _ w5 ⟨rfl, b5⟩
          have hrow5 := own_below HJ.out.2.2.2.2.2.2.1 b5
          have hvo := HJ.out.2.2.2.2.2.1.past b5 HJ.out.2.2.2.2.2.1.inside
          have hb5 := HJ.out.2.1.trans (b5.mono HJ.out.2.1.size)
          clear e0 e1 hcall b5
          by_cases hK0 : K = 0
          case neg =>
            have t1 : (K != 0) = true := bne_iff_ne.2 hK0
            have hb := HJ.out.2.2.2.1 hK0
            rw [flatR_flat] at hb
            have hk4 := HJ.out.2.2.2.2.2.2.2 hK0
            have hcl : mergeL (L.map Rw.l) = [] := by unfold mergeL; rw [if_neg (by rw [hb]; exact hK0)]
            have hce : mergeE (L.map Rw.l) = 4 := by unfold mergeE; rw [if_neg (by rw [hb]; exact hK0), hb, hk4]
            have HR := Lib.hid (And.intro hcl (And.intro hce hb5))
            clear hK0 hb hcl hce hb5 hrow5 hvo hk4
            go_wp2_with fail
            go_ret2
            exact ⟨none, 0, [], by rw [HR.out.2.1]; rfl, HR.out.1.symm, ⟨Lies.nil_, fun u hu => (by cases hu)⟩, fun u hu => (by cases hu), HR.out.2.2⟩
          have HG := Lib.hid (HJ.out.2.2.2.2.1 hK0)
          subst hK0
          obtain ⟨e0, e1⟩ := own2 hvo
          have H5 := Lib.hid (And.intro hb5 hrow5)
          have hs5 := hb5.size
          clear hb5 hrow5 hvo
          go_wp2_with (at_builtin; refine wpList_push _ rfl _ _ 41 rfl w.heap.size 64 i0 _ 2 32 HI.out.1 HI.out.2.1 HI.out.2.2.1 HI.out.2.2.2.1 HI.out.2.2.2.2 rfl (by decide) _ _ _ rfl H5.out.2 #[.slice u.rA u.row.length u.rc, .int .i64 u.n] rfl rfl ?p1 ?p2 ?p3 ?p4 ?_)
          case p1 => exact ⟨rfl, rfl⟩
          case p2 => unfold maxLen; omega
          case p3 => omega
          case p4 => exact hs5
          intro v' w' ho' hb' hob hgw
          have H3 := Lib.hid (And.intro ho' (H5.out.1.trans hb'))
          clear ho' hb' hob hgw e0 e1
          go_wp2_with fail
          go_roundw
          case rel =>
            refine ⟨j + 1, by go_num, by omega, ?_, H3.out.2, ?_⟩
            · rw [HJ.out.1, ← List.append_assoc, HJ.out.2.2.1, List.flatMap_append, List.length_append]
              exact H3.out.1
            · rw [HJ.out.1, ← List.append_assoc, HJ.out.2.2.1]
              exact HG.out
          case measure => simp [intOf]; omega
        · have hj2 : j = s.l.length := by omega
          have q5 : decide ((j : Int) < (s.l.length : Int)) = false := decide_eq_false (by omega)
          rw [hj2, List.take_length] at hownj hchj
          have HJ := Lib.hid (And.intro hownj (And.intro hbj hchj))
          clear hownj hbj hj2 hchj
          go_wp2_with fail
          go_roundw
          case rel =>
            refine ⟨k + 1, by go_num, by omega, ?_, HJ.out.2.1, ?_⟩
            · rw [flatR_take HO.out.2.2.1]
              exact HJ.out.1
            · rw [flatR_take HO.out.2.2.1]
              exact HJ.out.2.2
          case measure => simp [intOf]; omega
    · have hk2 : k = L.length := by omega
      have q2 : decide ((k : Int) < (L.length : Int)) = false := decide_eq_false (by omega)
      rw [hk2, List.take_length] at hown hchk
      obtain ⟨A7, c7, rfl, _, _, hl7⟩ := lies_of_own (size := 2) (cells := Ct.cells) (by decide) ccells_len rfl hown
      have hgood : ∀ u ∈ flatR L, chkRow u.row = 0 ∧ COk u ∧ CIn wo wo.heap.size u := fun u hu => by
        obtain ⟨s, hs, hus⟩ := List.mem_flatMap.1 hu
        exact ⟨chkCs_all.1 hchk u hu, HL.out.2 s hs u hus, (((HL.out.1.each_ s hs).each_ u hus).past hbw (Nat.le_refl _)).wide hbw.size⟩
      rw [flatR_flat] at hchk
      have hcl : mergeL (L.map Rw.l) = resL cmpRows ((L.map Rw.l).flatten.map Ct.p) := by unfold mergeL; rw [if_pos hchk]
      have hce : mergeE (L.map Rw.l) = resE cmpRows ((L.map Rw.l).flatten.map Ct.p) := by unfold mergeE; rw [if_pos hchk]
      have hcall := Lib.hid (radd_any A7 c7 (flatR L) wo ⟨hl7, fun x hx => (hgood x hx).2.2⟩ (fun x hx => (hgood x hx).2.1) (fun x hx => (hgood x hx).1) hn)
      rw [flatR_flat, ← hcl, ← hce, ← flatR_flat] at hcall
      have HB := Lib.hid hbw
      generalize mergeL (L.map Rw.l) = ML at *
      generalize mergeE (L.map Rw.l) = ME at *
      clear hown hchk hgood hcl hce hbw hl7
      go_wp2_with fail
      refine hcall.out.mono ?_
      rintro _ w5 ⟨A5, c5, outL, rfl, hp5, hu5, ok5, b5⟩
      have H5 := Lib.hid (And.intro hp5 (And.intro hu5 (And.intro ok5 b5)))
      clear hp5 hu5 ok5 b5 hcall
      go_wp2_with fail
      go_ret2
      exact ⟨A5, c5, outL, rfl, H5.out.1, H5.out.2.1, H5.out.2.2.1, belows HB.out H5.out.2.2.2⟩
end Go.Proofs.Ytbccdmpnojdldaa
namespace Go.Proofs.Ytbccdmpnojdldaa
open Go Go.RowKit

set_option maxRecDepth 100000 in
set_option maxHeartbeats 12800000 in
theorem dthere_walk (A : Option Addr) (c : Nat) (l : List Up) (t : Tm) (A2 : Option Addr) (c2 : Nat) (L : List (Rw Ct)) (w : World) (hl : Ups w w.heap.size A l) (hok : ∀ u ∈ l, UOk u) (hcl : CLs w w.heap.size A2 L) (hcok : ∀ s ∈ L, ∀ u ∈ s.l, COk u) (hn : l.length ≤ 1048576) (hn2 : (flatR L).length ≤ 1048576) (hn3 : L.length ≤ 1048576) :
    Calls Try.prog 4 #[.slice A l.length c, .agg #[.int .u64 (t.e : Int), .int .u64 (t.a : Int), .int .u64 (t.b : Int)], .slice A2 L.length c2] w fun e w' => e = .returned (.bool true) ∧ Below w.heap.size w w' := by
  have y0 := fun W => Lib.hid (lists_true W)
  obtain ⟨V, hV, hvb, hvs, hvo⟩ := tm_box w t
  have z1 := fun W (hb : Below w.heap.size w W) => Lib.hid (at_any A c l t W (hl.keep hb) hok (by omega))
  have z2 := fun W (hb : Below w.heap.size w W) => Lib.hid (rat_any A c l t W (hl.keep hb) hok hn)
  have z3 := fun W (hb : Below w.heap.size w W) => Lib.hid (merge_any A2 c2 L W (hcl.keep hb) hcok (by omega) (by omega))
  have z4 := fun W (hb : Below w.heap.size w W) => Lib.hid (rmerge_any A2 c2 L W (hcl.keep hb) hcok hn2 hn3)
  have ha := atL_len l t
  have hm := merge_len (L.map Rw.l)
  rw [← flatR_flat] at hm
  generalize atL l t = AL at *
  generalize atE l t = AE at *
  generalize mergeL (L.map Rw.l) = ML at *
  generalize mergeE (L.map Rw.l) = ME at *
  rw [show t.val = .agg #[.int .u64 (t.e : Int), .int .u64 (t.a : Int), .int .u64 (t.b : Int)] from rfl] at z1
  have HV := Lib.hid (And.intro hvb hvo)
  clear hl hok hcl hcok hvb hvo
  go_enter Try.func4, Try.ntmps4
  go_upto_region 1 with fail
  rw [← hV]
  clear hV hvs
  obtain ⟨d0, d1, d2⟩ := own3 HV.out.2
  go_wp2_with fail
  refine (z1 _ HV.out.1).out.mono ?_
  rintro _ w1 ⟨A1', c1', l1, rfl, hp1, hu1, ok1, b1, _⟩
  have hl1 : l1.length ≤ 1048576 := by have := congrArg List.length hp1; rw [List.length_map] at this; omega
  have H1 := Lib.hid (And.intro (belows HV.out.1 b1) (And.intro (HV.out.2.past b1 HV.out.2.inside) (And.intro hp1 (And.intro hu1 ok1))))
  clear d0 d1 d2 b1 hp1 hu1 ok1 z1
  obtain ⟨d0, d1, d2⟩ := own3 H1.out.2.1
  go_wp2_with fail
  refine (z2 _ H1.out.1).out.mono ?_
  rintro _ w2 ⟨A2', c2', l2, rfl, hp2, hu2, ok2, b2⟩
  have hl2 : l2.length ≤ 1048576 := by have := congrArg List.length hp2; rw [List.length_map] at this; omega
  have H2 := Lib.hid (And.intro (belows H1.out.1 b2) (And.intro (hp2.trans H1.out.2.2.1.symm) (And.intro hu2 (And.intro ok2 (H1.out.2.2.2.1.keep b2)))))
  clear d0 d1 d2 b2 hp2 hu2 ok2 z2
  go_wp2_with fail
  refine (z3 _ H2.out.1).out.mono ?_
  rintro _ w3 ⟨A3', c3', l3, rfl, hp3, hu3, ok3, b3, _⟩
  have hl3 : l3.length ≤ 1048576 := by have := congrArg List.length hp3; rw [List.length_map] at this; omega
  have H3 := Lib.hid (And.intro (belows H2.out.1 b3) (And.intro (H2.out.2.2.1.keep b3) (And.intro (H2.out.2.2.2.2.keep b3) (And.intro hp3 (And.intro hu3 ok3)))))
  clear b3 hp3 hu3 ok3 z3
  go_wp2_with fail
  refine (z4 _ H3.out.1).out.mono ?_
  rintro _ w4 ⟨A4', c4', l4, rfl, hp4, hu4, ok4, b4⟩
  have hl4 : l4.length ≤ 1048576 := by have := congrArg List.length hp4; rw [List.length_map] at this; omega
  have H4 := Lib.hid (And.intro (belows H3.out.1 b4) (And.intro (H3.out.2.1.keep b4) (And.intro (H3.out.2.2.1.keep b4) (And.intro (hp4.trans H3.out.2.2.2.1.symm) (And.intro (H3.out.2.2.2.2.1.keep b4) (And.intro hu4 ok4))))))
  clear b4 hp4 hu4 ok4 z4
  go_wp2_with fail
  refine (y0 _).out.mono ?_
  rintro _ w5 ⟨rfl, b5⟩
  have z5 := Lib.hid (same_yes A1' A2' c1' c2' l1 l2 w5 (H4.out.2.2.1.keep b5) (H4.out.2.1.keep b5) H1.out.2.2.2.2 H2.out.2.2.2.1 (by omega) (by omega) H2.out.2.1.symm)
  have z6 := fun W (hb : Below w5.heap.size w5 W) => Lib.hid (same_yes A3' A4' c3' c4' l3 l4 W ((H4.out.2.2.2.2.1.keep b5).keep hb) ((H4.out.2.2.2.2.2.1.keep b5).keep hb) H3.out.2.2.2.2.2 H4.out.2.2.2.2.2.2 (by omega) (by omega) H4.out.2.2.2.1.symm)
  have H5 := Lib.hid (belows H4.out.1 b5)
  have t1 : (AE == AE) = true := by simp
  have t2 : (ME == ME) = true := by simp
  clear b5
  go_wp2_with fail
  refine z5.out.mono ?_
  rintro _ w6 ⟨rfl, b6⟩
  have H6 := Lib.hid (belows H5.out b6)
  have z7 := z6 w6 b6
  clear b6 z6
  go_wp2_with fail
  refine z7.out.mono ?_
  rintro _ w7 ⟨rfl, b7⟩
  have H7 := Lib.hid (belows H6.out b7)
  clear b7
  go_wp2_with fail
  go_ret
  exact ⟨rfl, H7.out⟩
theorem dthere_law (A : Option Addr) (c : Nat) (l : List Up) (t : Tm) (A2 : Option Addr) (c2 : Nat) (L : List (Rw Ct)) (w : World) (hl : Ups w w.heap.size A l) (hok : ∀ u ∈ l, UOk u) (_ : l.length ≤ c) (_ : c ≤ maxLen) (hcl : CLs w w.heap.size A2 L) (hcok : ∀ s ∈ L, ∀ u ∈ s.l, COk u) (_ : L.length ≤ c2) (_ : c2 ≤ maxLen) (hn3 : L.length ≤ 1048576) (hn : l.length + (flatR L).length ≤ 1048576) :
    Calls Try.prog 4 #[.slice A l.length c, .agg #[.int .u64 (t.e : Int), .int .u64 (t.a : Int), .int .u64 (t.b : Int)], .slice A2 L.length c2] w fun e w' => e = .returned (.bool true) ∧ Below w.heap.size w w' :=
  dthere_walk A c l t A2 c2 L w hl hok hcl hcok (by omega) (by omega) hn3
end Go.Proofs.Ytbccdmpnojdldaa
namespace Go.Proofs.Ytbccdmpnojdldaa
open Go Go.RowKit Go.ChangeShapes Go.WideShapes Go.ChangeAt Go.Deep

set_option maxRecDepth 100000
section
variable {H : Type} {enc : TypeId × Value → H} {w : World} {base : Nat} {spare : Nat → Bool} {held : Bool}
/-- a count's part of what came in -/
def CIs (w : World) (u : Ct) (b : Nat) : Prop := CIn w w.heap.size u ∧ (b ≤ 1048576 → COk u)
set_option maxRecDepth 100000 in
theorem trod_ct {fuel : Nat} {cs : List Value} {x : DataW H × List MemPlace} (h : DataW.trod enc Try.prog w base spare held fuel 64 cs = some x) : ∃ u : Ct, cs = u.cells ∧ CIs w u (Rows.uptoBulk x.1) := by
  obtain ⟨xs, n, hfu, hx, hlen, hxs, hf⟩ := DataW.trod_struct Try.underlying64 h
  have hc : Try.prog.cellsOf 64 = 2 := by kernel_rfl
  have hc0 : Try.prog.cellsOf 32 = 1 := by kernel_rfl
  have hc2 : Try.prog.cellsOf 2 = 1 := by kernel_rfl
  rw [hc] at hlen
  match cs, hlen with
  | [c0, c1], _ =>
    have h0 := hf 0 _ rfl
    have h1 := hf 1 _ rfl
    match xs, hxs with
    | [y0, y1], _ =>
      simp only [hc0, hc2, List.drop_zero, List.take_succ_cons, List.take_zero, List.drop_succ_cons, List.getElem?_cons_zero, List.getElem?_cons_succ] at h0 h1
      obtain ⟨A0, k0, l0, e0, i0, o0, m0⟩ := open_rowC h0
      obtain ⟨d, e3, _, w3⟩ := DataW.trod_int Try.underlying2 h1
      have hM : Rows.uptoBulk x.1 = Rows.uptoBulk y0.1 + (Rows.uptoBulk y1.1 + 0) + 1 := by
        rw [hx]
        simp only [List.map_cons, List.map_nil, Rows.uptoBulk, Rows.uptoBulkAll]
      obtain rfl := (List.cons.inj e0).1
      obtain rfl := (List.cons.inj e3).1
      refine ⟨⟨A0, k0, l0, d⟩, rfl, ⟨i0⟩, fun hb => ⟨?_, o0, wf_i64 w3⟩⟩
      show l0.length ≤ _; omega
theorem open_ctsC {fuel : Nat} {cs : List Value} {x : DataW H × List MemPlace} (h : DataW.trod enc Try.prog w base spare held fuel 41 cs = some x) :
    ∃ s : Rw Ct, cs = s.cells ∧ s.l.length ≤ s.c ∧ s.c ≤ maxLen ∧ Cts w w.heap.size s.A s.l ∧ (Rows.uptoBulk x.1 ≤ 1048576 → ∀ u ∈ s.l, COk u) ∧ s.l.length + 1 ≤ Rows.uptoBulk x.1 := by
  obtain ⟨A, c, l, bs, e, h1, h2, h3, h4, h5, h6, h7⟩ := open_list_bulk (size := 2) (cells := Ct.cells) (OK := CIs w) Try.underlying41 (by kernel_rfl) (fun _ => by simp [Ct.cells]) (fun {n cs x} _ ht => trod_ct ht) h
  have := len_le_sum h6
  refine ⟨⟨A, c, l⟩, e, h1, h2, ⟨h3, fun u hu => ?_⟩, fun hb u hu => ?_, by show l.length + 1 ≤ _; omega⟩
  · obtain ⟨i, hi⟩ := List.getElem?_of_mem hu
    exact (h7 i u hi).elim fun _ h => h.2.1
  · obtain ⟨i, hi⟩ := List.getElem?_of_mem hu
    obtain ⟨b, hb1, hb2⟩ := h7 i u hi
    have := mem_le_sum (List.mem_of_getElem? hb1)
    exact hb2.2 (by omega)
theorem open_clists {v : Value} {d : DataW H} {p : List MemPlace} {r : Reach} {b0 : Nat} (hv : Value.okWide Try.prog w r b0 40 v) (h : DataW.Trod enc Try.prog w base spare held 40 v d p) :
    ∃ (A : Option Addr) (c : Nat) (L : List (Rw Ct)), v = .slice A L.length c ∧ L.length ≤ c ∧ c ≤ maxLen ∧ CLs w w.heap.size A L ∧ (Rows.uptoBulk d ≤ 1048576 → ∀ s ∈ L, ∀ u ∈ s.l, COk u) ∧ (flatR L).length ≤ Rows.uptoBulk d ∧ L.length ≤ Rows.uptoBulk d := by
  obtain ⟨a0, n0, c0, rfl⟩ := okWide_slice Try.underlying40 hv
  obtain ⟨fuel, hf⟩ := h
  simp only [Value.cells] at hf
  obtain ⟨A, c, l, bs, e, h1, h2, h3, h4, h5, h6, h7⟩ := open_list_bulk (size := 1) (cells := Rw.cells (α := Ct)) (OK := fun s b => s.l.length ≤ s.c ∧ s.c ≤ maxLen ∧ Cts w w.heap.size s.A s.l ∧ (b ≤ 1048576 → ∀ u ∈ s.l, COk u) ∧ s.l.length + 1 ≤ b) Try.underlying40 (by kernel_rfl) (fun _ => by simp [Rw.cells]) (fun {n cs x} _ ht => open_ctsC ht) hf
  change bs.sum + 1 ≤ Rows.uptoBulk d at h5
  have hlen := len_le_sum h6
  have hsum := sum_len (L := l) (bs := bs) (α := Ct) h4 fun i s hi => by
    obtain ⟨b, hb, hs⟩ := h7 i s hi
    exact ⟨b, hb, by omega⟩
  refine ⟨A, c, l, by simpa using e, h1, h2, ⟨h3, fun s hs => ?_⟩, fun hb s hs => ?_, by omega, by omega⟩
  · obtain ⟨i, hi⟩ := List.getElem?_of_mem hs
    exact (h7 i s hi).elim fun _ h => h.2.2.2.1
  · obtain ⟨i, hi⟩ := List.getElem?_of_mem hs
    obtain ⟨b, hb1, hb2⟩ := h7 i s hi
    have := mem_le_sum (List.mem_of_getElem? hb1)
    exact hb2.2.2.2.1 (by omega)
end
end Go.Proofs.Ytbccdmpnojdldaa
