/- Facts and contracts on which DiskCrashes rests besides. -/
import Derived.Test.YtfelpjacccclkaaDiskWritesM7
namespace Go.Proofs.Ytfelpjacccclkaa
open Go Go.RowKit

theorem left_at {d : Dk} (h : SortedF d.files) (keep tear : Int) {k : Nat} (hk : keepN keep d.waits.length = k) : leftD d keep tear = tornF ((d.waits.take k).foldl appF d.files) d.waits[k]? tear := by
  unfold leftD lookF
  rw [hk, base_sorted h]
theorem torn_no {l : List Fl} {w : Wr} {tear : Int} (h : ¬ (w.k = 1 ∧ 1 ≤ tear)) : tornF l (some w) tear = l := by unfold tornF; exact if_neg h
theorem torn_yes {l : List Fl} {w : Wr} {tear : Int} (h : w.k = 1 ∧ 1 ≤ tear) : tornF l (some w) tear = appF l ⟨1, w.n, w.t, w.d.extract 0 (min tear.toNat w.d.size)⟩ := by unfold tornF appF; exact if_pos h
theorem extract_all' (d : ByteArray) : d.extract 0 d.size = d := by
  rw [extract_from d 0, List.drop_zero]
theorem extract_le (d : ByteArray) (m : Nat) : (d.extract 0 m).size ≤ d.size := by
  simp [ByteArray.size_extract]; omega
set_option maxRecDepth 100000 in
set_option maxHeartbeats 6400000 in
theorem rcrash_any (x : Dl) (keep tear : Int) (w : World) (h : DIn w w.heap.size x) (hkp : -9223372036854775808 ≤ keep ∧ keep ≤ 9223372036854775807) (htr : -9223372036854775808 ≤ tear ∧ tear ≤ 9223372036854775807) (hn : wtD x.d ≤ 900000000000) :
    Calls Try.prog 23 #[x.val, .int .i64 keep, .int .i64 tear] w fun e w' => Gives w w' e (crashD x.d keep tear) := by
  obtain ⟨i0, hi, hz0, hz1, hz2⟩ := info_parts infoFl
  have HI := Lib.hid (And.intro Try.underlying22 (And.intro hi (And.intro hz0 (And.intro hz1 hz2))))
  obtain ⟨V, hV, hB⟩ := boxes_start w x h
  have y1 := Lib.hid (rcheck_any x V hB.din hn)
  have HB := Lib.hid hB
  obtain ⟨d0, d1, d2, d3, d4⟩ := hB.cells
  clear h hB hi hz0 hz1 hz2
  cases hg : goodD x.d
  · have hc := Lib.hid (show chkD x.d = 8 by unfold chkD; rw [hg]; rfl)
    have hs := Lib.hid (show crashD x.d keep tear = (.zero, 8) by unfold crashD; rw [hg]; rfl)
    rw [hs.out]
    unfold Dl.val at y1 ⊢
    clear hg
    go_enter Try.func23, Try.ntmps23
    go_upto_region 1 with fail
    rw [← hV]
    clear hV
    go_wp2_with fail
    refine y1.out.mono ?_
    rintro _ w1 ⟨rfl, b1⟩
    rw [hc.out]
    have hP := HB.out.past b1
    obtain ⟨f0, f1, f2, f3, f4⟩ := open5 hP.res
    obtain ⟨r0, r1, r2, r3, r4⟩ := hP.rcells
    obtain ⟨X, hX, oX, iX, bX⟩ := boxes_zero HB.out b1
    obtain ⟨e0, e1, e2, e3, e4⟩ := own5 oX
    have HX := Lib.hid (And.intro iX bX)
    unfold set5 at hX
    subst hX
    clear hP oX iX bX b1 d0 d1 d2 d3 d4
    go_wp2_with fail
    exact bodyPost_ret (v := .tuple #[.agg #[.slice none 0 0, .slice none 0 0, .int .i64 0, .bool false, .int .i64 0], .int .i64 8]) (by simp [results, Try.results23, go_sem, e0, e1, e2, e3, e4, zeroDl]) rfl ⟨HX.out.2, zeroDl, rfl, rfl, HX.out.1⟩
  · have hc := Lib.hid (show chkD x.d = 0 by unfold chkD; rw [hg]; rfl)
    have hs := Lib.hid (show crashD x.d keep tear = (⟨leftD x.d keep tear, [], x.room, false, -1⟩, 0) by unfold crashD; rw [hg]; rfl)
    have hk := good_k hg
    have HK := Lib.hid hk
    obtain ⟨s, hsE⟩ : ∃ s, crashD x.d keep tear = s := ⟨_, rfl⟩
    rw [hsE] at hs ⊢
    have hn' := hn
    unfold wtD Dl.d at hn'
    dsimp only at hn'
    have hfl := len_le_wtF x.files
    have hwl := len_le_wtW x.waits
    unfold Dl.val at y1 ⊢
    clear hg hk hsE
    go_enter Try.func23, Try.ntmps23
    go_upto_region 1 with fail
    rw [← hV]
    clear hV
    go_wp2_with fail
    refine y1.out.mono ?_
    rintro _ w1 ⟨rfl, b1⟩
    rw [hc.out]
    have hB1 := HB.out.past b1
    have HB1 := Lib.hid hB1
    have hin := hB1.own.inside
    have hr0 := Lib.hid (show (w1.alloc (.cells #[] 67)).ownsRow w1.heap.size 67 2 (.slice (some ⟨w1.heap.size, 0, none⟩) 0 0) 0 [] from World.ownsRow_made w1 #[] 0 (Nat.le_refl _) (Nat.zero_le _) rfl)
    have hL0 := Lib.hid (hB1.din.files.past ((Below.refl _ w1).alloc (Nat.le_refl _) (.cells #[] 67)) (Nat.le_refl _))
    clear d0 d1 d2 d3 d4
    obtain ⟨d0, d1, d2, d3, d4⟩ := hB1.cells
    clear hB1 b1 y1
    go_wp2_with (at_builtin; refine wpList_append_lies (l := x.files) _ rfl (.tmp 15) (.tmp 17) 22 67 rfl i0 _ 32 HI.out.1 HI.out.2.1 HI.out.2.2.1 HI.out.2.2.2.1 HI.out.2.2.2.2 rfl (by decide) flc_len fl_one w1.heap.size _ _ _ rfl hr0.out x.fc rfl hL0.out ?m1 ?m2 ?m3 ?m4)
    case m1 => unfold maxLen; omega
    case m2 => omega
    case m3 => simp
    case m4 =>
    intro v3 w3 ho3 hb3
    have b13 := ((Below.refl w1.heap.size w1).alloc (Nat.le_refl _) (.cells #[] 67)).trans hb3
    obtain ⟨A3, c3, rfl, _, l3⟩ := ret_row ho3
    have hB3 := HB1.out.past b13
    have HB3 := Lib.hid hB3
    have HL3 := Lib.hid l3
    clear d0 d1 d2 d3 d4
    obtain ⟨d0, d1, d2, d3, d4⟩ := hB3.cells
    clear hB3 b13 ho3 hb3 l3
    go_wp2_with fail
    clear d0 d1 d2 d3 d4
    go_loopw [8, 22] (fun v i wr => ∃ (k : Nat) (A : Option Addr) (c : Nat), i = .int .i64 (k : Int) ∧ k ≤ x.waits.length ∧ ((k : Int) ≤ keep ∨ k = 0) ∧ v = .slice A ((x.waits.take k).foldl appF x.files).length c ∧ Lies 2 Fl.cells wr wr.heap.size A ((x.waits.take k).foldl appF x.files) ∧ Below w3.heap.size w3 wr)
      (fun _ i _ => x.waits.length - (intOf i).toNat)
    case atStart => exact ⟨0, A3, c3, rfl, by omega, .inr rfl, rfl, HL3.out, Below.refl _ _⟩
    case round =>
      obtain ⟨k, A, c, rfl, hk, hkk, rfl, hl, hb⟩ := hrel
      by_cases hlt : k < x.waits.length
      · have hx : x.waits[k]? = some x.waits[k] := List.getElem?_eq_getElem hlt
        obtain ⟨b, o, hwA, hB, hxs⟩ := HB3.out.din.waits (by omega)
        have x0 := (hb.cell (p := ⟨b, o + k * 4 + 0, none⟩) hB).trans (hxs k _ hx 0 _ rfl)
        have x1 := (hb.cell (p := ⟨b, o + k * 4 + 1, none⟩) hB).trans (hxs k _ hx 1 _ rfl)
        have x2 := (hb.cell (p := ⟨b, o + k * 4 + 2, none⟩) hB).trans (hxs k _ hx 2 _ rfl)
        have x3 := (hb.cell (p := ⟨b, o + k * 4 + 3, none⟩) hB).trans (hxs k _ hx 3 _ rfl)
        obtain ⟨hwt, hso, hsn⟩ := fold_at HK.out.sorted hx hn'
        have hko := HK.out.kinds _ (List.mem_of_getElem? hx)
        generalize x.waits[k] = r at *
        simp only [Nat.add_zero] at x0
        obtain ⟨W, hW, bW, sW, oW⟩ := wrbox wr r
        have bW3 := hb.trans (bW.mono hb.size)
        have y := Lib.hid (done_any A c _ r W (lies_keep hl bW) hso hko hwt)
        have g0 := oW.at_ 0
        have g1 := oW.at_ 1
        have g2 := oW.at_ 2
        have g3 := oW.at_ 3
        have u3 := oW.open_ 3
        simp only [Wr.cells, List.getElem?_cons_zero, List.getElem?_cons_succ] at g0 g1 g2 g3
        have q0 : (0 : Int) ≤ (k : Int) := by omega
        have q1 : (k : Int) < (x.waits.length : Int) := by omega
        have HM := Lib.hid (And.intro hx (And.intro hso (And.intro hwt (lies_keep hl bW))))
        rw [hwA]
        by_cases hkeep : (k : Int) < keep
        · have t1 : decide ((k : Int) < keep) = true := decide_eq_true hkeep
          have HH := Lib.hid (And.intro bW3 hsn)
          have Hkk := Lib.hid hkeep
          unfold Wr.val at y
          generalize (x.waits.take k).foldl appF x.files = m at *
          clear hl hb hx hxs hwt hso hsn hko bW sW oW bW3 hwA hkk hkeep u3
          go_upto_region 7 with fail
          rw [← hW]
          clear hW x0 x1 x2 x3
          go_wp2_with fail
          refine y.out.mono ?_
          rintro _ w4 ⟨A4, c4, rfl, l4, b4⟩
          have H4 := Lib.hid (And.intro l4 (HH.out.1.trans (b4.mono HH.out.1.size)))
          clear l4 b4
          go_wp2_with fail
          go_roundw
          case rel =>
            refine ⟨k + 1, A4, c4, by go_num, by omega, .inl (by have := Hkk.out; omega), ?_, ?_, H4.out.2⟩
            · rw [HH.out.2]
            · rw [HH.out.2]; exact H4.out.1
          case measure => simp [intOf]; omega
        · have t1 : decide ((k : Int) < keep) = false := decide_eq_false hkeep
          have hkn : keepN keep x.waits.length = k := by unfold keepN; omega
          have hlf := left_at (d := x.d) HK.out.sorted keep tear hkn
          rw [show x.d.waits[k]? = some r from hx, show x.d.waits = x.waits from rfl, show x.d.files = x.files from rfl] at hlf
          generalize (x.waits.take k).foldl appF x.files = m at *
          by_cases hkt : r.k = 1 ∧ 1 ≤ tear
          · rw [torn_yes hkt] at hlf
            obtain ⟨rk, rn, rt, rd⟩ := r
            dsimp only at *
            obtain ⟨hr1, ht1⟩ := hkt
            subst hr1
            obtain ⟨tm, rfl⟩ : ∃ tm : Nat, tear = (tm : Int) := ⟨tear.toNat, by omega⟩
            rw [Int.toNat_natCast] at hlf
            have t2 : decide (0 < tm) = true := decide_eq_true (by omega)
            have t2' : decide ((0 : Int) < (tm : Int)) = true := decide_eq_true (by omega)
            have hkz : (k = 0 ∧ True) ∨ (k ≠ 0 ∧ (k : Int) = keep) := by
              by_cases h0 : k = 0
              · exact .inl ⟨h0, trivial⟩
              · exact .inr ⟨h0, by rcases hkk with h | h <;> omega⟩
            have HLF := Lib.hid hlf
            have HZ := Lib.hid hkz
            have HW := Lib.hid (And.intro bW3 (And.intro oW bW))
            by_cases hts : tm < rd.size
            · have t3 : decide (tm < rd.size) = true := decide_eq_true (by omega)
              have hmin : min tm rd.size = tm := by omega
              obtain ⟨Y, hY, oY, bY⟩ := own_str3 oW (.string (rd.extract 0 tm))
              have bYr : Below wr.heap.size wr Y := bY _ _ bW (Nat.le_refl _)
              have bY3 := hb.trans (bYr.mono hb.size)
              have hle := extract_le rd tm
              have z := Lib.hid (done_any A c m ⟨1, rn, rt, rd.extract 0 tm⟩ Y (lies_keep hl bYr) hso (.inl rfl) (by dsimp only; omega))
              have j0 := oY.at_ 0
              have j1 := oY.at_ 1
              have j2 := oY.at_ 2
              have j3 := oY.at_ 3
              simp only [List.getElem?_cons_zero, List.getElem?_cons_succ] at j0 j1 j2 j3
              have q5 : (tm : Int) ≤ (rd.size : Int) := by omega
              have q6 : (0 : Int) ≤ (tm : Int) := by omega
              have HY := Lib.hid bY3
              have hs3 : s = (⟨appF m ⟨1, rn, rt, rd.extract 0 tm⟩, [], x.room, false, -1⟩, 0) := by rw [hs.out, hlf, hmin]
              generalize appF m ⟨1, rn, rt, rd.extract 0 tm⟩ = M at *
              subst hs3
              unfold Wr.val at z
              clear hl hb hx hxs hwt hso hsn hko bW sW oW bW3 hwA hkk hkeep hlf hkn hmin hts bY bYr bY3 oY hle hs y hkz
              rcases HZ.out with ⟨h0, _⟩ | ⟨h0, h1⟩
              · have t6 : ((k : Int) == 0) = true := by rw [h0]; rfl
                have t8 : (k == 0) = true := by rw [h0]; rfl
                clear h0
                go_upto_region 7 with fail
                rw [← hW]
                clear hW x0 x1 x2 x3
                go_upto_region 12 with fail
                rw [← hY]
                clear hY g3 u3
                go_wp2_with fail

                refine z.out.mono ?_
                rintro _ w4 ⟨A4, c4, rfl, l4, b4⟩
                have b34 := HY.out.trans (b4.mono HY.out.size)

                have hB9 := HB3.out.past b34
                have hB9' := hB9.with_ (z' := ⟨A4, c4, M, none, 0, [], x.room, false, -1⟩) ⟨l4, Lies.nil_, Nat.zero_le _⟩
                obtain ⟨X9, hX9, o9, i9, b9⟩ := hB9'.back
                obtain ⟨e0, e1, e2, e3, e4⟩ := own5 o9
                obtain ⟨d0, d1, d2, d3, d4⟩ := hB9.cells
                obtain ⟨r0, r1, r2, r3, r4⟩ := hB9.rcells
                obtain ⟨f0, f1, f2, f3, f4⟩ := open5 hB9.res
                have H9 := Lib.hid (And.intro i9 b9)
                unfold set5 at hX9
                dsimp only at hX9
                simp only [List.length_nil] at hX9 e1
                clear hB9 hB9' o9 i9 b9
                go_upto_region 14 with fail
                subst hX9
                go_wp2_with fail
                exact bodyPost_ret (v := .tuple #[.agg #[.slice A4 (M).length c4, .slice none 0 0, .int .i64 x.room, .bool false, .int .i64 (-1)], .int .i64 0]) (by simp [results, Try.results23, go_sem, e0, e1, e2, e3, e4]) rfl ⟨H9.out.2, ⟨A4, c4, M, none, 0, [], x.room, false, -1⟩, rfl, rfl, H9.out.1⟩
              · have t6 : ((k : Int) == 0) = false := beq_eq_false_iff_ne.2 (by omega)
                have t8 : (k == 0) = false := beq_eq_false_iff_ne.2 h0
                have t7 : ((k : Int) == keep) = true := by rw [h1]; exact beq_self_eq_true _
                clear h0 h1
                go_upto_region 7 with fail
                rw [← hW]
                clear hW x0 x1 x2 x3
                go_upto_region 12 with fail
                rw [← hY]
                clear hY g3 u3
                go_wp2_with fail

                refine z.out.mono ?_
                rintro _ w4 ⟨A4, c4, rfl, l4, b4⟩
                have b34 := HY.out.trans (b4.mono HY.out.size)

                have hB9 := HB3.out.past b34
                have hB9' := hB9.with_ (z' := ⟨A4, c4, M, none, 0, [], x.room, false, -1⟩) ⟨l4, Lies.nil_, Nat.zero_le _⟩
                obtain ⟨X9, hX9, o9, i9, b9⟩ := hB9'.back
                obtain ⟨e0, e1, e2, e3, e4⟩ := own5 o9
                obtain ⟨d0, d1, d2, d3, d4⟩ := hB9.cells
                obtain ⟨r0, r1, r2, r3, r4⟩ := hB9.rcells
                obtain ⟨f0, f1, f2, f3, f4⟩ := open5 hB9.res
                have H9 := Lib.hid (And.intro i9 b9)
                unfold set5 at hX9
                dsimp only at hX9
                simp only [List.length_nil] at hX9 e1
                clear hB9 hB9' o9 i9 b9
                go_upto_region 14 with fail
                subst hX9
                go_wp2_with fail
                exact bodyPost_ret (v := .tuple #[.agg #[.slice A4 (M).length c4, .slice none 0 0, .int .i64 x.room, .bool false, .int .i64 (-1)], .int .i64 0]) (by simp [results, Try.results23, go_sem, e0, e1, e2, e3, e4]) rfl ⟨H9.out.2, ⟨A4, c4, M, none, 0, [], x.room, false, -1⟩, rfl, rfl, H9.out.1⟩
            · have t3 : decide (tm < rd.size) = false := decide_eq_false (by omega)
              have hmin : min tm rd.size = rd.size := by omega
              have hs3 : s = (⟨appF m ⟨1, rn, rt, rd⟩, [], x.room, false, -1⟩, 0) := by rw [hs.out, hlf, hmin, extract_all']
              have HY := Lib.hid bW3
              generalize appF m ⟨1, rn, rt, rd⟩ = M at *
              subst hs3
              unfold Wr.val at y
              clear hl hb hx hxs hwt hso hsn hko bW sW oW bW3 hwA hkk hkeep hlf hkn hmin hts hs hkz u3
              rcases HZ.out with ⟨h0, _⟩ | ⟨h0, h1⟩
              · have t6 : ((k : Int) == 0) = true := by rw [h0]; rfl
                have t8 : (k == 0) = true := by rw [h0]; rfl
                clear h0
                go_upto_region 7 with fail
                rw [← hW]
                clear hW x0 x1 x2 x3
                go_wp2_with fail

                refine y.out.mono ?_
                rintro _ w4 ⟨A4, c4, rfl, l4, b4⟩
                have b34 := HY.out.trans (b4.mono HY.out.size)

                have hB9 := HB3.out.past b34
                have hB9' := hB9.with_ (z' := ⟨A4, c4, M, none, 0, [], x.room, false, -1⟩) ⟨l4, Lies.nil_, Nat.zero_le _⟩
                obtain ⟨X9, hX9, o9, i9, b9⟩ := hB9'.back
                obtain ⟨e0, e1, e2, e3, e4⟩ := own5 o9
                obtain ⟨d0, d1, d2, d3, d4⟩ := hB9.cells
                obtain ⟨r0, r1, r2, r3, r4⟩ := hB9.rcells
                obtain ⟨f0, f1, f2, f3, f4⟩ := open5 hB9.res
                have H9 := Lib.hid (And.intro i9 b9)
                unfold set5 at hX9
                dsimp only at hX9
                simp only [List.length_nil] at hX9 e1
                clear hB9 hB9' o9 i9 b9
                go_upto_region 14 with fail
                subst hX9
                go_wp2_with fail
                exact bodyPost_ret (v := .tuple #[.agg #[.slice A4 (M).length c4, .slice none 0 0, .int .i64 x.room, .bool false, .int .i64 (-1)], .int .i64 0]) (by simp [results, Try.results23, go_sem, e0, e1, e2, e3, e4]) rfl ⟨H9.out.2, ⟨A4, c4, M, none, 0, [], x.room, false, -1⟩, rfl, rfl, H9.out.1⟩
              · have t6 : ((k : Int) == 0) = false := beq_eq_false_iff_ne.2 (by omega)
                have t8 : (k == 0) = false := beq_eq_false_iff_ne.2 h0
                have t7 : ((k : Int) == keep) = true := by rw [h1]; exact beq_self_eq_true _
                clear h0 h1
                go_upto_region 7 with fail
                rw [← hW]
                clear hW x0 x1 x2 x3
                go_wp2_with fail

                refine y.out.mono ?_
                rintro _ w4 ⟨A4, c4, rfl, l4, b4⟩
                have b34 := HY.out.trans (b4.mono HY.out.size)

                have hB9 := HB3.out.past b34
                have hB9' := hB9.with_ (z' := ⟨A4, c4, M, none, 0, [], x.room, false, -1⟩) ⟨l4, Lies.nil_, Nat.zero_le _⟩
                obtain ⟨X9, hX9, o9, i9, b9⟩ := hB9'.back
                obtain ⟨e0, e1, e2, e3, e4⟩ := own5 o9
                obtain ⟨d0, d1, d2, d3, d4⟩ := hB9.cells
                obtain ⟨r0, r1, r2, r3, r4⟩ := hB9.rcells
                obtain ⟨f0, f1, f2, f3, f4⟩ := open5 hB9.res
                have H9 := Lib.hid (And.intro i9 b9)
                unfold set5 at hX9
                dsimp only at hX9
                simp only [List.length_nil] at hX9 e1
                clear hB9 hB9' o9 i9 b9
                go_upto_region 14 with fail
                subst hX9
                go_wp2_with fail
                exact bodyPost_ret (v := .tuple #[.agg #[.slice A4 (M).length c4, .slice none 0 0, .int .i64 x.room, .bool false, .int .i64 (-1)], .int .i64 0]) (by simp [results, Try.results23, go_sem, e0, e1, e2, e3, e4]) rfl ⟨H9.out.2, ⟨A4, c4, M, none, 0, [], x.room, false, -1⟩, rfl, rfl, H9.out.1⟩
          · rw [torn_no hkt] at hlf
            have hs3 : s = (⟨m, [], x.room, false, -1⟩, 0) := by rw [hs.out, hlf]
            subst hs3
            have HY := Lib.hid bW3
            have HLm := Lib.hid (lies_keep hl bW)
            clear hl hb hx hxs hwt hso hsn hko bW sW oW bW3 hwA hkk hkeep hlf hkn hs u3 y
            by_cases hr1 : r.k = 1
            · have t4 : (r.k == 1) = true := by rw [hr1]; rfl
              have t5 : decide (0 < tear) = false := decide_eq_false (by omega)
              clear hkt hr1
              go_upto_region 7 with fail
              rw [← hW]
              clear hW x0 x1 x2 x3

              have hB9 := HB3.out.past HY.out
              have hB9' := hB9.with_ (z' := ⟨A, c, m, none, 0, [], x.room, false, -1⟩) ⟨HLm.out, Lies.nil_, Nat.zero_le _⟩
              obtain ⟨X9, hX9, o9, i9, b9⟩ := hB9'.back
              obtain ⟨e0, e1, e2, e3, e4⟩ := own5 o9
              obtain ⟨d0, d1, d2, d3, d4⟩ := hB9.cells
              obtain ⟨r0, r1, r2, r3, r4⟩ := hB9.rcells
              obtain ⟨f0, f1, f2, f3, f4⟩ := open5 hB9.res
              have H9 := Lib.hid (And.intro i9 b9)
              unfold set5 at hX9
              dsimp only at hX9
              simp only [List.length_nil] at hX9 e1
              clear hB9 hB9' o9 i9 b9
              go_upto_region 14 with fail
              subst hX9
              go_wp2_with fail
              exact bodyPost_ret (v := .tuple #[.agg #[.slice A (m).length c, .slice none 0 0, .int .i64 x.room, .bool false, .int .i64 (-1)], .int .i64 0]) (by simp [results, Try.results23, go_sem, e0, e1, e2, e3, e4]) rfl ⟨H9.out.2, ⟨A, c, m, none, 0, [], x.room, false, -1⟩, rfl, rfl, H9.out.1⟩
            · have t4 : (r.k == 1) = false := beq_eq_false_iff_ne.2 hr1
              clear hkt hr1
              go_upto_region 7 with fail
              rw [← hW]
              clear hW x0 x1 x2 x3

              have hB9 := HB3.out.past HY.out
              have hB9' := hB9.with_ (z' := ⟨A, c, m, none, 0, [], x.room, false, -1⟩) ⟨HLm.out, Lies.nil_, Nat.zero_le _⟩
              obtain ⟨X9, hX9, o9, i9, b9⟩ := hB9'.back
              obtain ⟨e0, e1, e2, e3, e4⟩ := own5 o9
              obtain ⟨d0, d1, d2, d3, d4⟩ := hB9.cells
              obtain ⟨r0, r1, r2, r3, r4⟩ := hB9.rcells
              obtain ⟨f0, f1, f2, f3, f4⟩ := open5 hB9.res
              have H9 := Lib.hid (And.intro i9 b9)
              unfold set5 at hX9
              dsimp only at hX9
              simp only [List.length_nil] at hX9 e1
              clear hB9 hB9' o9 i9 b9
              go_upto_region 14 with fail
              subst hX9
              go_wp2_with fail
              exact bodyPost_ret (v := .tuple #[.agg #[.slice A (m).length c, .slice none 0 0, .int .i64 x.room, .bool false, .int .i64 (-1)], .int .i64 0]) (by simp [results, Try.results23, go_sem, e0, e1, e2, e3, e4]) rfl ⟨H9.out.2, ⟨A, c, m, none, 0, [], x.room, false, -1⟩, rfl, rfl, H9.out.1⟩
      · have hk2 : k = x.waits.length := by omega
        have hkn : keepN keep x.waits.length = k := by unfold keepN; omega
        have hlf := left_at (d := x.d) HK.out.sorted keep tear hkn
        rw [show x.d.waits[k]? = none from List.getElem?_eq_none (by rw [show x.d.waits = x.waits from rfl]; omega), show x.d.waits = x.waits from rfl, show x.d.files = x.files from rfl] at hlf
        have hs3 : s = (⟨(x.waits.take k).foldl appF x.files, [], x.room, false, -1⟩, 0) := by rw [hs.out, hlf]; rfl
        have HY := Lib.hid hb
        have HLm := Lib.hid hl
        generalize (x.waits.take k).foldl appF x.files = m at *
        subst hs3
        clear hl hb hlf hkn hk2 hkk hs
        have hB9 := HB3.out.past HY.out
        have hB9' := hB9.with_ (z' := ⟨A, c, m, none, 0, [], x.room, false, -1⟩) ⟨HLm.out, Lies.nil_, Nat.zero_le _⟩
        obtain ⟨X9, hX9, o9, i9, b9⟩ := hB9'.back
        obtain ⟨e0, e1, e2, e3, e4⟩ := own5 o9
        obtain ⟨d0, d1, d2, d3, d4⟩ := hB9.cells
        obtain ⟨r0, r1, r2, r3, r4⟩ := hB9.rcells
        obtain ⟨f0, f1, f2, f3, f4⟩ := open5 hB9.res
        have H9 := Lib.hid (And.intro i9 b9)
        unfold set5 at hX9
        dsimp only at hX9
        simp only [List.length_nil] at hX9 e1
        clear hB9 hB9' o9 i9 b9
        go_upto_region 14 with fail
        subst hX9
        go_wp2_with fail
        exact bodyPost_ret (v := .tuple #[.agg #[.slice A (m).length c, .slice none 0 0, .int .i64 x.room, .bool false, .int .i64 (-1)], .int .i64 0]) (by simp [results, Try.results23, go_sem, e0, e1, e2, e3, e4]) rfl ⟨H9.out.2, ⟨A, c, m, none, 0, [], x.room, false, -1⟩, rfl, rfl, H9.out.1⟩
end Go.Proofs.Ytfelpjacccclkaa
namespace Go.Proofs.Ytfelpjacccclkaa
open Go Go.RowKit

theorem crash_told {k k' : Dk} {a b : Int} {n : Int} (h : crashD k a b = (k', n)) (hw : wtD k ≤ 1048576) : wtD k' ≤ 1099511627776 := by
  cases hg : goodD k
  · unfold crashD at h
    rw [hg] at h
    injection h with h1 h2
    subst h1
    show wtD Dk.zero ≤ _
    decide
  · have h2 := h
    unfold crashD at h2
    rw [hg] at h2
    injection h2 with _ h3
    subst h3
    have := crash_wt h hg
    omega
set_option maxRecDepth 100000 in
set_option maxHeartbeats 6400000 in
theorem crashes_true (x : Dl) (keep tear : Int) (w : World) (h : DIn w w.heap.size x) (hf : FOk x.d) (hkp : -9223372036854775808 ≤ keep ∧ keep ≤ 9223372036854775807) (htr : -9223372036854775808 ≤ tear ∧ tear ≤ 9223372036854775807) (hn : wtD x.d ≤ 1048576) :
    Calls Try.prog 5 #[x.val, .int .i64 keep, .int .i64 tear] w fun e w' => e = .returned (.bool true) ∧ Below w.heap.size w w' := by
  obtain ⟨V, hV, hVb, hVs, oD⟩ := dbox w x
  have iV := h.keep hVb
  have HV := Lib.hid (And.intro hVb (And.intro oD iV))
  have y0 := Lib.hid (rcopy_any x V iV (by omega))
  obtain ⟨k', n', hcr⟩ : ∃ k n, crashD x.d keep tear = (k, n) := ⟨_, _, rfl⟩
  have HW := Lib.hid (And.intro hcr (crash_told hcr hn))
  have td : DTold x.d 0 := ⟨by omega, hf⟩
  have y2 := Lib.hid (fun W (hb : Below V.heap.size V W) => rcrash_any x keep tear W (iV.keep hb) hkp htr (by omega))
  rw [hcr] at y2
  have HT := Lib.hid (And.intro td (show wtD x.d ≤ 1099511627776 by omega))
  obtain ⟨d0, d1, d2, d3, d4⟩ := own5 oD
  unfold Dl.val at y0 y2 ⊢
  clear h hVb hVs oD iV hf hn hkp htr hcr td
  go_enter Try.func5, Try.ntmps5
  go_upto_region 1 with fail
  rw [← hV]
  clear hV
  go_wp2_with fail
  refine y0.out.mono ?_
  rintro _ w1 ⟨y, rfl, cop⟩
  obtain ⟨W1, hW1, oW1, iW1, bW1⟩ := var_new cop.din
  have bV1 : Below V.heap.size V W1 := cop.below.trans (bW1.mono cop.below.size)
  have H1 := Lib.hid (And.intro bV1 (And.intro oW1 (And.intro iW1 cop.d_)))
  unfold Dl.val
  clear d0 d1 d2 d3 d4 cop oW1 iW1 bW1 bV1 y0
  go_upto_region 2 with fail
  rw [← hW1]
  clear hW1
  obtain ⟨d0, d1, d2, d3, d4⟩ := own5 H1.out.2.1
  have hc2 := crash_at keep tear H1.out.2.2.1 H1.out.2.2.2 HW.out.1 HT.out.1
  go_wp2_with fail
  refine hc2.out.mono ?_
  rintro _ w2 ⟨b2, z1, rfl, hz1, iz1⟩
  obtain ⟨W2, hW2, oW2, iW2, bW2⟩ := var_new iz1
  have b12 : Below W1.heap.size W1 W2 := b2.trans (bW2.mono b2.size)
  have H2 := Lib.hid (And.intro b12 (And.intro oW2 (And.intro iW2 hz1)))
  have b02 := H1.out.1.trans (b12.mono H1.out.1.size)
  have y3 := Lib.hid (y2.out W2 b02)
  have HB2 := Lib.hid b02
  clear d0 d1 d2 d3 d4 b2 iz1 oW2 iW2 bW2 b12 hz1 hc2 y2
  go_upto_region 3 with fail
  rw [← hW2]
  clear hW2
  obtain ⟨d0, d1, d2, d3, d4⟩ := own5 (HV.out.2.1.past b02 HV.out.2.1.inside)
  clear b02
  go_wp2_with fail
  refine y3.out.mono ?_
  rintro _ w3 ⟨b3, z2, rfl, hz2, iz2⟩
  obtain ⟨W3, hW3, oW3, iW3, bW3⟩ := var_new iz2
  have b23 : Below W2.heap.size W2 W3 := b3.trans (bW3.mono b3.size)
  have H3 := Lib.hid (And.intro b23 (And.intro oW3 (And.intro iW3 hz2)))
  unfold Dl.val
  clear d0 d1 d2 d3 d4 b3 iz2 oW3 iW3 bW3 hz2 y3
  go_upto_region 4 with fail
  rw [← hW3]
  clear hW3
  have y5 := Lib.hid (lives_true W3)
  go_wp2_with fail
  refine y5.out.mono ?_
  rintro _ w4 ⟨rfl, b4⟩
  have b24 := H3.out.1.trans (b4.mono H3.out.1.size)
  obtain ⟨d0, d1, d2, d3, d4⟩ := own5 (H2.out.2.1.past b24 H2.out.2.1.inside)
  obtain ⟨g0, g1, g2, g3, g4⟩ := own5 (H3.out.2.1.past b4 H3.out.2.1.inside)
  have i2 := H2.out.2.2.1.keep b24
  have i3 := H3.out.2.2.1.keep b4
  have yS := Lib.hid (same_yes z1 z2 w4 (H2.out.2.2.2.trans H3.out.2.2.2.symm) i2 i3 (by rw [H2.out.2.2.2]; exact HW.out.2))
  have H4 := Lib.hid b24
  clear b4 i2 i3 b24
  go_wp2_with fail
  refine yS.out.mono ?_
  rintro _ w5 ⟨rfl, b5⟩
  have b25 := H4.out.trans (b5.mono H4.out.size)
  have b15 := H2.out.1.trans (b25.mono H2.out.1.size)
  have b05 := H1.out.1.trans (b15.mono H1.out.1.size)
  clear d0 d1 d2 d3 d4 g0 g1 g2 g3 g4
  obtain ⟨d0, d1, d2, d3, d4⟩ := own5 (H1.out.2.1.past b15 H1.out.2.1.inside)
  obtain ⟨g0, g1, g2, g3, g4⟩ := own5 (HV.out.2.1.past b05 HV.out.2.1.inside)
  have i1 := H1.out.2.2.1.keep b15
  have i0 := HV.out.2.2.keep b05
  have yT := Lib.hid (same_yes y x w5 H1.out.2.2.2 i1 i0 (by rw [H1.out.2.2.2]; exact HT.out.2))
  have H5 := Lib.hid (HV.out.1.trans (b05.mono HV.out.1.size))
  have tn : (n' == n') = true := beq_self_eq_true _
  clear b5 b25 b15 b05 i1 i0
  go_wp2_with fail
  refine yT.out.mono ?_
  rintro _ w6 ⟨rfl, b6⟩
  have H6 := Lib.hid (H5.out.trans (b6.mono H5.out.size))
  clear b6 d0 d1 d2 d3 d4 g0 g1 g2 g3 g4
  go_wp2_with fail
  go_ret
  exact ⟨rfl, H6.out⟩
theorem crashes_law (x : Dl) (keep tear : Int) (w : World) (h : DIn w w.heap.size x) (hf : -9223372036854775808 ≤ x.fuse ∧ x.fuse ≤ 9223372036854775807) (hn : wtD x.d ≤ 1048576) (k1 : -9223372036854775808 ≤ keep) (k2 : keep ≤ 9223372036854775807) (t1 : -9223372036854775808 ≤ tear) (t2 : tear ≤ 9223372036854775807) (_ : (0 : Nat) ≤ 1) :
    Calls Try.prog 5 #[x.val, .int .i64 keep, .int .i64 tear] w fun e w' => e = .returned (.bool true) ∧ Below w.heap.size w w' := crashes_true x keep tear w h hf ⟨k1, k2⟩ ⟨t1, t2⟩ hn
end Go.Proofs.Ytfelpjacccclkaa
