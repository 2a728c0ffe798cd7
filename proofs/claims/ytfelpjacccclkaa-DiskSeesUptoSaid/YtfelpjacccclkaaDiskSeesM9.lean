/- Facts and contracts on which DiskSees rests besides. -/
import Derived.Test.YtfelpjacccclkaaDiskWritesM7
namespace Go.Proofs.Ytfelpjacccclkaa
open Go Go.RowKit

set_option maxRecDepth 100000 in
set_option maxHeartbeats 6400000 in
theorem sees_true (x : Dl) (n : ByteArray) (w : World) (h : DIn w w.heap.size x) (hf : FOk x.d) (hn : wtD x.d ≤ 1048576) :
    Calls Try.prog 4 #[x.val, .string n] w fun e w' => e = .returned (.bool true) ∧ Below w.heap.size w w' := by
  obtain ⟨V, hV, hVb, hVs, oD⟩ := dbox w x
  have iV := h.keep hVb
  have ok : DOk x := ⟨by omega, hf⟩
  have HV := Lib.hid (And.intro hVb (And.intro oD iV))
  have y1 := Lib.hid (fun W (hb : Below V.heap.size V W) => dsee_any x W (iV.keep hb) ok)
  have y2 := Lib.hid (fun W (hb : Below V.heap.size V W) => rsee_any x W (iV.keep hb) (by omega))
  have y3 := Lib.hid (fun W (hb : Below V.heap.size V W) => dread_any x n W (iV.keep hb) ok)
  have y4 := Lib.hid (fun W (hb : Below V.heap.size V W) => rread_any x n W (iV.keep hb) (by omega))
  have y5 := Lib.hid (fun W (hb : Below V.heap.size V W) => dcheck_any x W (iV.keep hb) ok)
  have y6 := Lib.hid (fun W (hb : Below V.heap.size V W) => rcheck_any x W (iV.keep hb) (by omega))
  have HL := Lib.hid (show (seeD x.d).1.length ≤ 1099511627776 by
    unfold seeD
    by_cases hg : goodD x.d = true
    · rw [if_pos hg]
      split
      · simp
      · have h1 := len_le_wtF (seen x.d)
        have h2 := wtF_seen hg
        dsimp only; omega
    · rw [if_neg hg]; simp)
  unfold RChk at y6
  generalize seeD x.d = s at *
  generalize readD x.d n = q at *
  generalize chkD x.d = cE at *
  obtain ⟨s1, s2⟩ := s
  obtain ⟨q1, q2⟩ := q
  dsimp only at y1 y2 y3 y4 HL
  obtain ⟨d0, d1, d2, d3, d4⟩ := own5 oD
  unfold Dl.val at y1 y2 y3 y4 y5 y6 ⊢
  clear h hVb hVs oD iV ok hf hn
  go_enter Try.func4, Try.ntmps4
  go_upto_region 1 with fail
  rw [← hV]
  clear hV
  go_wp2_with fail
  refine (y1.out V (Below.refl _ _)).mono ?_
  rintro _ w1 ⟨b1, A1, c1, rfl, l1⟩
  have H1 := Lib.hid (And.intro b1 l1)
  clear d0 d1 d2 d3 d4
  obtain ⟨d0, d1, d2, d3, d4⟩ := own5 (HV.out.2.1.past b1 HV.out.2.1.inside)
  clear b1 l1 y1
  go_wp2_with fail
  refine (y2.out w1 H1.out.1).mono ?_
  rintro _ w2 ⟨A2, c2, rfl, l2, b2⟩
  have b02 := H1.out.1.trans (b2.mono H1.out.1.size)
  have H2 := Lib.hid (And.intro b02 (And.intro (lies_keep H1.out.2 b2) l2))
  clear d0 d1 d2 d3 d4
  obtain ⟨d0, d1, d2, d3, d4⟩ := own5 (HV.out.2.1.past b02 HV.out.2.1.inside)
  clear b2 l2 y2 b02
  go_wp2_with fail
  refine (y3.out w2 H2.out.1).mono ?_
  rintro _ w3 ⟨rfl, b3⟩
  have b03 := H2.out.1.trans (b3.mono H2.out.1.size)
  have H3 := Lib.hid (And.intro b03 (And.intro (lies_keep H2.out.2.1 b3) (lies_keep H2.out.2.2 b3)))
  clear d0 d1 d2 d3 d4
  obtain ⟨d0, d1, d2, d3, d4⟩ := own5 (HV.out.2.1.past b03 HV.out.2.1.inside)
  clear b3 y3 b03
  go_wp2_with fail
  refine (y4.out w3 H3.out.1).mono ?_
  rintro _ w4 ⟨rfl, b4⟩
  have b04 := H3.out.1.trans (b4.mono H3.out.1.size)
  have H4 := Lib.hid (And.intro b04 (And.intro (lies_keep H3.out.2.1 b4) (lies_keep H3.out.2.2 b4)))
  have oD4 := HV.out.2.1.past b04 HV.out.2.1.inside
  have D0 := fun p : Past w4 => (own5 (oD4.past p.h oD4.inside)).1
  have D1 := fun p : Past w4 => (own5 (oD4.past p.h oD4.inside)).2.1
  have D2 := fun p : Past w4 => (own5 (oD4.past p.h oD4.inside)).2.2.1
  have D3 := fun p : Past w4 => (own5 (oD4.past p.h oD4.inside)).2.2.2.1
  have D4 := fun p : Past w4 => (own5 (oD4.past p.h oD4.inside)).2.2.2.2
  have z1 := Lib.hid (fun p : Past w4 => calls_past (lives_true p.w))
  have z2 := Lib.hid (fun p : Past w4 => calls_past (sameF_yes A1 A2 c1 c2 s1 p.w (lies_keep H4.out.2.1 p.h) (lies_keep H4.out.2.2 p.h) HL.out))
  have z5 := Lib.hid (fun p : Past w4 => calls_past (y5.out p.w (H4.out.1.trans (p.h.mono H4.out.1.size))))
  have z6 := Lib.hid (fun p : Past w4 => calls_past (y6.out p.w (H4.out.1.trans (p.h.mono H4.out.1.size))))
  clear d0 d1 d2 d3 d4 b4 y4 b04 oD4 y5 y6
  go_upto_region 5 with fail
  refine wp_region_past w4 (by kernel_rfl) (by kernel_rfl) (Below.refl _ _) ?_
  repeat (first | go_big_quiet_step ((first | (go_at_call 13; exact z1.out _) | (go_at_call 19; exact z2.out _) | (go_at_call 20; exact z5.out _) | (go_at_call 21; exact z6.out _))) | quiet_step ((first | (go_at_call 13; exact z1.out _) | (go_at_call 19; exact z2.out _) | (go_at_call 20; exact z5.out _) | (go_at_call 21; exact z6.out _))))
  refine wpQuiet_nil ?_
  intro wz hw'
  obtain ⟨⟨wy, hbz⟩, hw''⟩ := hw'
  dsimp only at hw''
  subst hw''
  have HE := Lib.hid (HV.out.1.trans ((H4.out.1.trans (hbz.mono H4.out.1.size)).mono HV.out.1.size))
  clear hbz D0 D1 D2 D3 D4 z1 z2 z5 z6
  go_wp2_with fail
  go_ret
  exact ⟨rfl, HE.out⟩
theorem sees_law {P : Prop} (x : Dl) (n : ByteArray) (w : World) (h : DIn w w.heap.size x) (hf : -9223372036854775808 ≤ x.fuse ∧ x.fuse ≤ 9223372036854775807) (hn : wtD x.d ≤ 1048576) (_ : P) (_ : (0 : Nat) ≤ 1) :
    Calls Try.prog 4 #[x.val, .string n] w fun e w' => e = .returned (.bool true) ∧ Below w.heap.size w w' := sees_true x n w h hf hn
end Go.Proofs.Ytfelpjacccclkaa
