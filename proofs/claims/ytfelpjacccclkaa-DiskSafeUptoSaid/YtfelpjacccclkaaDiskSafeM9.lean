/- Facts and contracts on which DiskSafe rests besides. -/
import Derived.Test.YtfelpjacccclkaaDiskWritesM7
namespace Go.Proofs.Ytfelpjacccclkaa
open Go Go.RowKit

theorem str_ne {a b : ByteArray} (h : a ≠ b) : (a.toList == b.toList) = false := beq_eq_false_iff_ne.2 (fun e => h (by rw [ByteArray.toList_eq, ByteArray.toList_eq] at e; exact bytes_eq.1 e))
def SafeAt (w wr : World) (G : Nat) (n : ByteArray) (F : List Fl) (b : Nat) (ws : List Wr) (j : Nat) : Prop := ∃ y : Dl, Safe y.d F n ∧ FOk y.d ∧ wtD y.d ≤ b + wtW (ws.take j) ∧ Own wr G 25 y.cells ∧ DIn wr wr.heap.size y ∧ Below w.heap.size w wr
set_option maxRecDepth 100000 in
set_option maxHeartbeats 6400000 in
theorem safe_true (x : Dl) (n : ByteArray) (A : Option Addr) (c : Nat) (ws : List Wr) (keep tear : Int) (w : World) (h : DIn w w.heap.size x) (hf : FOk x.d) (hws : Lies 4 Wr.cells w w.heap.size A ws) (hn : wtD x.d + wtW ws ≤ 1048576) :
    Calls Try.prog 6 #[x.val, .string n, .slice A ws.length c, .int .i64 keep, .int .i64 tear] w fun e w' => e = .returned (.bool true) ∧ Below w.heap.size w w' := by
  obtain ⟨V, hV, hVb, hVs, oD⟩ := dbox w x
  have iV := h.keep hVb
  obtain ⟨k0, e0, hsy⟩ : ∃ k e, syncD x.d = (k, e) := ⟨_, _, rfl⟩
  have HV := Lib.hid (And.intro hVb (And.intro oD (And.intro iV (And.intro hws (And.intro hf (And.intro hn hsy))))))
  have y0 := Lib.hid (lives_true V)
  have hwl : ws.length ≤ 1048576 := by have := len_le_wtW ws; omega
  unfold Dl.val
  clear h hf hws hVb hVs oD iV hn
  go_enter Try.func6, Try.ntmps6
  go_upto_region 1 with fail
  rw [← hV]
  clear hV hsy
  go_wp2_with fail
  refine y0.out.mono ?_
  rintro _ w1 ⟨rfl, b1⟩
  have o1 := HV.out.2.1.past b1 HV.out.2.1.inside
  have i1 := HV.out.2.2.1.keep b1
  obtain ⟨d0, d1, d2, d3, d4⟩ := own5 o1
  have hc1 := sync_at i1 rfl HV.out.2.2.2.2.2.2 ⟨by have := HV.out.2.2.2.2.2.1; omega, HV.out.2.2.2.2.1⟩
  have H1 := Lib.hid (And.intro (HV.out.1.trans (b1.mono HV.out.1.size)) (And.intro o1 i1))
  clear o1 i1 b1 y0
  go_wp2_with fail
  refine hc1.out.mono ?_
  rintro _ w2 ⟨b2, z, rfl, hz, iz⟩
  have o2 := H1.out.2.1.past b2 H1.out.2.1.inside
  obtain ⟨f0, f1, f2, f3, f4⟩ := open5 o2
  clear d0 d1 d2 d3 d4
  obtain ⟨d0, d1, d2, d3, d4⟩ := own5 o2
  obtain ⟨W2, hW2, oW2, iW2, bW2⟩ := var_set o2 iz
  have H2 := Lib.hid (And.intro (H1.out.1.trans ((b2.mono H1.out.1.size).trans (bW2 _ (Nat.le_refl _)))) (And.intro oW2 (And.intro iW2 hz)))
  go_upto_region 4 with fail
  rw [← hW2]
  clear hW2 d0 d1 d2 d3 d4 f0 f1 f2 f3 f4 hc1
  obtain ⟨d0, d1, d2, d3, d4⟩ := own5 oW2
  clear o2 oW2 iW2 bW2 b2 iz hz
  by_cases he : e0 = 0
  case neg =>
    have t1 : (e0 != 0) = true := bne_iff_ne.2 he
    clear he
    go_wp2_with fail
    go_ret
    exact ⟨rfl, H2.out.1⟩
  subst he
  obtain ⟨hk0, hdn, hsf, hkd⟩ := sync_safe HV.out.2.2.2.2.2.2
  have hkw := sync_wt HV.out.2.2.2.2.2.2
  have hfo : FOk k0 := by rw [hk0]; exact lessN_fit HV.out.2.2.2.2.1
  have hrd : readD k0 n = readF (seen x.d) n := by
    rw [look_read (hsf n).good hkd (by rw [hk0]), (hsf n).files]
  obtain ⟨s, m, hsm⟩ : ∃ s m, readF (seen x.d) n = (s, m) := ⟨_, _, rfl⟩
  rw [hsm] at hrd
  have hc2 := read_at n H2.out.2.2.1 H2.out.2.2.2 hrd ⟨by have := HV.out.2.2.2.2.2.1; omega, hfo⟩
  have HS := Lib.hid (And.intro (hsf n) (And.intro hfo (And.intro hsm hkw)))
  clear hk0 hdn hsf hkd hkw hfo hrd hsm
  go_wp2_with fail
  refine hc2.out.mono ?_
  rintro _ w3 ⟨rfl, b3⟩
  have HI : SafeAt w w3 w.heap.size n (seen x.d) (wtD x.d) ws 0 := ⟨z, by rw [H2.out.2.2.2]; exact HS.out.1, by rw [H2.out.2.2.2]; exact HS.out.2.1, by rw [H2.out.2.2.2]; have := HS.out.2.2.2; omega, H2.out.2.1.past b3 H2.out.2.1.inside, H2.out.2.2.1.keep b3, H2.out.1.trans (b3.mono H2.out.1.size)⟩
  have HII := Lib.hid HI
  clear HI b3 hc2 d0 d1 d2 d3 d4
  go_wp2_with fail
  go_loopw [37] (fun i wr => ∃ j : Nat, i = .int .i64 (j : Int) ∧ j ≤ ws.length ∧ SafeAt w wr w.heap.size n (seen x.d) (wtD x.d) ws j) (fun i _ => ws.length - (intOf i).toNat)
  case atStart => exact ⟨0, rfl, by omega, HII.out⟩
  case round =>
    obtain ⟨j, rfl, hj, y, hsy, hfy, hwt, oy, iy, hb⟩ := hrel
    by_cases hlt : j < ws.length
    · have hx : ws[j]? = some ws[j] := List.getElem?_eq_getElem hlt
      obtain ⟨b, o, rfl, hB, hxs⟩ := HV.out.2.2.2.1 (by omega)
      have x0 := (hb.cell (p := ⟨b, o + j * 4 + 0, none⟩) hB).trans (hxs j _ hx 0 _ rfl)
      have x1 := (hb.cell (p := ⟨b, o + j * 4 + 1, none⟩) hB).trans (hxs j _ hx 1 _ rfl)
      have x2 := (hb.cell (p := ⟨b, o + j * 4 + 2, none⟩) hB).trans (hxs j _ hx 2 _ rfl)
      have x3 := (hb.cell (p := ⟨b, o + j * 4 + 3, none⟩) hB).trans (hxs j _ hx 3 _ rfl)
      have hwm := wtW_more hx
      have hwp := wtW_part ws (j + 1)
      generalize ws[j] = f at *
      simp only [Nat.add_zero] at x0
      obtain ⟨W4, hW4, bW4, sW4, oW4⟩ := wrbox wr f
      obtain ⟨W5, hW5, bW5, sW5, oW5⟩ := wrbox W4 f
      have oy4 := oy.past bW4 oy.inside
      obtain ⟨d0, d1, d2, d3, d4⟩ := own5 oy4
      have f0 := oW4.at_ 0
      have f1 := oW4.at_ 1
      have f2 := oW4.at_ 2
      have f3 := oW4.at_ 3
      simp only [Wr.cells, List.getElem?_cons_zero, List.getElem?_cons_succ] at f0 f1 f2 f3
      have q0 : (0 : Int) ≤ (j : Int) := by omega
      have q1 : (j : Int) < (ws.length : Int) := by omega
      have hb4 : Below w.heap.size w W4 := hb.trans (bW4.mono hb.size)
      have hskip := Lib.hid (show SafeAt w W4 w.heap.size n (seen x.d) (wtD x.d) ws (j + 1) from ⟨y, hsy, hfy, by omega, oy4, iy.keep bW4, hb4⟩)
      by_cases hoff : off n f
      · have t1 : (f.n.toList == n.toList) = false := str_ne hoff.1
        have t2 : (f.t.toList == n.toList) = false := str_ne hoff.2
        obtain ⟨k', e, hdo⟩ : ∃ k e, doD y.d [f] = (k, e) := ⟨_, _, rfl⟩
        have hs' := do_safe hsy hoff hdo
        have hk'w := doD_wt hdo
        have hfo' : FOk k' := (doD_told (m := 0) hdo hfy (by have := HV.out.2.2.2.2.2.1; omega)).fuse
        have hc4 := do_at (W := W5) (B := some ⟨W4.heap.size, 0, none⟩) 1 ((iy.keep bW4).keep bW5) rfl hdo (lies4_own (t := 45) (l := [f]) oW5) ⟨by have := HV.out.2.2.2.2.2.1; omega, hfy⟩
        have HJ := Lib.hid (And.intro hs' (And.intro hfo' (And.intro (show wtD k' ≤ wtD x.d + wtW (ws.take (j + 1)) by omega) (And.intro (oy4.past bW5 oy4.inside) (hb4.trans (bW5.mono hb4.size))))))
        clear hsy hfy hwt oy iy hb hx hxs hwm hwp hoff hs' hk'w hfo' hdo oy4 bW4 sW4 oW4 bW5 sW5 oW5 hskip hb4 HII
        go_upto_region 10 with fail
        rw [← hW4]
        clear hW4
        go_wp2_with fail
        rw [← hW5]
        clear hW5
        refine hc4.out.mono ?_
        rintro _ w6 ⟨b6, z6, rfl, hz6, iz6⟩
        have o6 := HJ.out.2.2.2.1.past b6 HJ.out.2.2.2.1.inside
        obtain ⟨g0, g1, g2, g3, g4⟩ := open5 o6
        clear d0 d1 d2 d3 d4
        obtain ⟨d0, d1, d2, d3, d4⟩ := own5 o6
        obtain ⟨W6, hW6, oW6, iW6, bW6⟩ := var_set o6 iz6
        have HK := Lib.hid (show SafeAt w W6 w.heap.size n (seen x.d) (wtD x.d) ws (j + 1) from ⟨z6, by rw [hz6]; exact HJ.out.1, by rw [hz6]; exact HJ.out.2.1, by rw [hz6]; exact HJ.out.2.2.1, oW6, iW6, HJ.out.2.2.2.2.trans ((b6.mono HJ.out.2.2.2.2.size).trans (bW6 _ (Nat.le_refl _)))⟩)
        clear oW6 iW6 bW6 b6 o6 iz6 hz6 hc4
        go_upto_region 12 with fail
        rw [← hW6]
        clear hW6 d0 d1 d2 d3 d4 g0 g1 g2 g3 g4
        go_wp2_with fail
        go_roundw
        case rel => exact ⟨j + 1, by go_num, by omega, HK.out⟩
        case measure => simp [intOf]; omega
      · clear hsy hfy hwt oy iy hb hx hxs hwm hwp oy4 bW4 sW4 oW4 bW5 sW5 oW5 hb4 HII hW5
        by_cases h1 : f.n = n
        · have t1 : (f.n.toList == n.toList) = true := by rw [h1]; exact beq_self_eq_true _
          clear hoff h1
          go_upto_region 10 with fail
          rw [← hW4]
          clear hW4
          go_wp2_with fail
          go_roundw
          case rel => exact ⟨j + 1, by go_num, by omega, hskip.out⟩
          case measure => simp [intOf]; omega
        · have t1 : (f.n.toList == n.toList) = false := str_ne h1
          have h2 : f.t = n := Classical.byContradiction fun e => hoff ⟨h1, e⟩
          have t2 : (f.t.toList == n.toList) = true := by rw [h2]; exact beq_self_eq_true _
          clear hoff h1 h2
          go_upto_region 10 with fail
          rw [← hW4]
          clear hW4
          go_wp2_with fail
          go_roundw
          case rel => exact ⟨j + 1, by go_num, by omega, hskip.out⟩
          case measure => simp [intOf]; omega
    · obtain rfl : j = ws.length := by omega
      obtain ⟨k9, hcr, hd9, hf9, hw9, hg9, hget⟩ := crash_safe (keep := keep) (tear := tear) hsy
      have hcw := crash_wt hcr hsy.good
      rw [List.take_length] at hwt
      have hbig : wtD y.d ≤ 1048576 := by have := HV.out.2.2.2.2.2.1; omega
      have hrd : readD k9 n = (s, m) := by rw [look_read hg9 hd9 hw9, read_same hget]; exact HS.out.2.2.1
      have hc9 := crash_at keep tear iy rfl hcr ⟨by omega, hfy⟩
      have tk9 : DTold k9 0 := ⟨by omega, by rw [hf9]; decide⟩
      obtain ⟨d0, d1, d2, d3, d4⟩ := own5 oy
      have HR := Lib.hid (And.intro hb (And.intro hrd (And.intro tk9 (And.intro hd9 (And.intro hf9 hw9)))))
      clear hsy hfy hwt oy iy hb hcr hd9 hf9 hw9 hg9 hget hcw hbig hrd tk9 HII
      go_wp2_with fail
      refine hc9.out.mono ?_
      rintro _ w7 ⟨b7, z7, rfl, hz7, iz7⟩
      obtain ⟨W7, hW7, oW7, iW7, bW7⟩ := var_new iz7
      have hc10 := read_at n iW7 hz7 HR.out.2.1 HR.out.2.2.1
      have z7d := Lib.hid (show z7.down = false by have := congrArg Dk.down hz7; exact this.trans HR.out.2.2.2.1)
      have z7f := Lib.hid (show z7.fuse = -1 by have := congrArg Dk.fuse hz7; exact this.trans HR.out.2.2.2.2.1)
      have z7w := Lib.hid (show z7.waits = [] by have := congrArg Dk.waits hz7; exact this.trans HR.out.2.2.2.2.2)
      clear d0 d1 d2 d3 d4
      obtain ⟨d0, d1, d2, d3, d4⟩ := own5 oW7
      have H7 := Lib.hid (And.intro (HR.out.1.trans ((b7.trans (bW7.mono b7.size)).mono HR.out.1.size)) oW7)
      clear iW7 oW7 bW7 b7 iz7 hz7 hc9
      go_upto_region 14 with fail
      rw [← hW7]
      clear hW7
      go_wp2_with fail
      refine hc10.out.mono ?_
      rintro _ w8 ⟨rfl, b8⟩
      clear d0 d1 d2 d3 d4
      obtain ⟨d0, d1, d2, d3, d4⟩ := own5 (H7.out.2.past b8 H7.out.2.inside)
      rw [z7w.out] at d1
      rw [z7d.out] at d3
      rw [z7f.out] at d4
      simp only [List.length_nil] at d1
      have HZ := Lib.hid (H7.out.1.trans (b8.mono H7.out.1.size))
      clear b8 hc10 z7d z7f z7w
      go_wp2_with fail
      go_ret
      exact ⟨rfl, HZ.out⟩
theorem safe_law {P : Prop} (x : Dl) (n : ByteArray) (A : Option Addr) (c : Nat) (ws : List Wr) (keep tear : Int) (w : World) (h : DIn w w.heap.size x) (hf : -9223372036854775808 ≤ x.fuse ∧ x.fuse ≤ 9223372036854775807) (_ : wtD x.d ≤ 524288000) (_ : P) (_ : ws.length ≤ c) (_ : c ≤ maxLen) (hws : Lies 4 Wr.cells w w.heap.size A ws) (_ : wtW ws ≤ 524288000) (_ : -9223372036854775808 ≤ keep) (_ : keep ≤ 9223372036854775807) (_ : -9223372036854775808 ≤ tear) (_ : tear ≤ 9223372036854775807) (hn : wtD x.d + wtW ws ≤ 1048576) :
    Calls Try.prog 6 #[x.val, .string n, .slice A ws.length c, .int .i64 keep, .int .i64 tear] w fun e w' => e = .returned (.bool true) ∧ Below w.heap.size w w' := safe_true x n A c ws keep tear w h hf hws hn
end Go.Proofs.Ytfelpjacccclkaa
