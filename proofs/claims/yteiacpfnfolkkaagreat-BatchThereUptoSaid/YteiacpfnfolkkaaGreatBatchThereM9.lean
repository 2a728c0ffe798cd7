/- Facts and contracts on which BatchThere rests besides. -/
import Derived.Test.YteiacpfnfolkkaaGreatBatchTwiceM9
namespace Go.Proofs.YteiacpfnfolkkaaGreat
open Go Go.RowKit

theorem check_yes (b : Bt) (w : World) (hb : BtIn w w.heap.size b) (hok : BtOk b) (h : BatchOk b.f b.l) :
    Calls Tryz.prog 16 #[b.val] w fun x w' => x = .returned (.int .i64 0) ∧ Below w.heap.size w w' :=
  (bcheck_any b w hb hok).mono fun x w' h' => codes_is (.inl ⟨h, rfl⟩) h'
theorem beyond_is (A : Option Addr) (c : Nat) (l : List Tm) (t : Tm) (w : World) (hl : Times w w.heap.size A l) (hn : l.length ≤ maxLen) {b : Bool} (h : beyond l t = b) :
    Calls Tryz.prog 35 #[.slice A l.length c, .agg #[.int .u64 (t.e : Int), .int .u64 (t.a : Int), .int .u64 (t.b : Int)]] w fun e w' => e = .returned (.bool b) ∧ Below w.heap.size w w' := by
  have := beyond_any A c l t w hl hn
  rw [h] at this
  exact this
set_option maxRecDepth 100000 in
set_option maxHeartbeats 12800000 in
theorem bthere_walk (A : Option Addr) (c : Nat) (f : List Tm) (A' : Option Addr) (c' : Nat) (l : List Up) (t : Tm) (w : World) (hf : Times w w.heap.size A f) (hfc : f.length ≤ c) (hfn : f.length ≤ 1048576) (hcm : c ≤ maxLen) (hl : Ups w w.heap.size A' l) (hok : ∀ u ∈ l, UOk u) (_ : l.length ≤ c') (_ : c' ≤ maxLen) (hn : f.length + l.length ≤ 1048576) :
    Calls Tryz.prog 7 #[.slice A f.length c, .slice A' l.length c', t.val] w fun e w' => e = .returned (.bool true) ∧ Below w.heap.size w w' := by
  have y0 := fun W => Lib.hid (blives_true W)
  have hfo : TsOk f c := ⟨by omega, hfc, hcm⟩
  have hlo : UsOk l := ⟨by omega, hok⟩
  obtain ⟨V, hV, hvb, hvs, hvo⟩ := tm_box w t
  have HL := Lib.hid (And.intro hf (And.intro hfo (And.intro hl hlo)))
  have HV := Lib.hid (And.intro hvb hvo)
  have HM := Lib.hid (Nat.le_trans hfc hcm)
  rw [show t.val = .agg #[.int .u64 (t.e : Int), .int .u64 (t.a : Int), .int .u64 (t.b : Int)] from rfl]
  clear hf hfo hl hlo hok hfc hfn hcm hn hvb hvs hvo
  go_enter Tryz.func7, Tryz.ntmps7
  go_upto_region 1 with fail
  rw [← hV]
  clear hV
  go_wp2_with fail
  refine (y0 _).out.mono ?_
  rintro e w1 ⟨rfl, b1⟩
  have hb1 := belows HV.out.1 b1
  have hf1 := (HL.out.1.past hb1 (Nat.le_refl _)).wide hb1.size
  have hl1 := HL.out.2.2.1.keep hb1
  have ht1 := HV.out.2.past b1 HV.out.2.inside
  obtain ⟨V2, hV2, hb2, hu2⟩ := one_list w1 A' c' l hl1
  have hf2 := (hf1.past hb2 (Nat.le_refl _)).wide hb2.size
  have z1 := Lib.hid (build_one A c f (some ⟨w1.heap.size, 0, none⟩) A' c' l V2 hf2 HL.out.2.1 hu2 HL.out.2.2.2)
  have H2 := Lib.hid (And.intro (belows hb1 hb2) (And.intro hf2 (And.intro (hl1.keep hb2) (ht1.past hb2 ht1.inside))))
  clear b1 hb1 hf1 hl1 hb2 hu2 hf2 ht1
  obtain ⟨E1, hE1⟩ : ∃ E1, bldE f l = E1 := ⟨_, rfl⟩
  unfold Built at z1
  rw [hE1] at z1
  have HE1 := Lib.hid hE1
  clear hE1
  go_wp2_with fail
  rw [← hV2]
  clear hV2
  refine z1.out.mono ?_
  rintro _ w3 ⟨a, rfl, ha1, ha2, ia, oa, _, b3⟩
  by_cases h1 : E1 = 0
  case neg =>
    have t1 : (E1 != 0) = true := bne_iff_ne.2 h1
    obtain rfl := ha2 h1
    obtain ⟨V3, hV3', hb3, hs3, ho3⟩ := btbox w3 Bt.nil
    have hV3 : V3 = w3.alloc (.cells #[.slice none 0 0, .slice none 0 0] 26) := hV3'
    clear hV3'
    have H3 := Lib.hid (belows H2.out.1 (belows b3 hb3))
    obtain ⟨d0, d1⟩ : V3.cell? ⟨w3.heap.size, 0, none⟩ = some (.slice none 0 0) ∧ V3.cell? ⟨w3.heap.size, 1, none⟩ = some (.slice none 0 0) := own2 ho3
    rw [show Bt.nil.val = .agg #[.slice none 0 0, .slice none 0 0] from rfl]
    clear ha1 ha2 ia oa b3 hb3 hs3 ho3 z1 h1
    go_upto_region 4 with fail
    rw [← hV3]
    clear hV3
    go_wp2_with fail
    go_ret
    exact ⟨rfl, H3.out⟩
  subst h1
  obtain ⟨k1, k2, k3⟩ := ha1 rfl
  obtain ⟨V3, hV3, hb3, hs3, ho3⟩ := btbox w3 a
  have hb23 := belows b3 hb3
  have ht3 := H2.out.2.2.2.past hb23 H2.out.2.2.2.inside
  have H3 := Lib.hid (And.intro (belows H2.out.1 hb23) (And.intro ((H2.out.2.1.past hb23 (Nat.le_refl _)).wide hb23.size) (And.intro (H2.out.2.2.1.keep hb23) (And.intro ht3 (And.intro (ia.keep hb3) (And.intro oa ho3))))))
  have HK := Lib.hid (show BatchOk a.f a.l ∧ ((f = [] ∨ beyond f t = true) → atL l t = atL a.l t ∧ atE l t = atE a.l t) from ⟨by rw [k2]; exact batch_ok k1 (built_ok HE1.out).2 k3, fun h => at_batch k1.right h (built_ok HE1.out).2 k3⟩)
  obtain ⟨d0, d1⟩ := own2 ho3
  obtain ⟨c0, c1, c2⟩ := own3 ht3
  unfold Bt.val
  clear ha1 ha2 ia oa b3 hb3 hs3 ho3 hb23 ht3 z1 k1 k2 k3
  go_upto_region 6 with fail
  rw [← hV3]
  clear hV3
  by_cases hp : 0 < f.length
  case neg =>
    have hz : f.length = 0 := by omega
    have hcs : f = [] ∨ beyond f t = true := .inl (List.length_eq_zero_iff.1 hz)
    have HC := Lib.hid (HK.out.2 hcs)
    obtain ⟨V5, hV5⟩ : ∃ V5, V5 = V3 := ⟨_, rfl⟩
    have H5 := Lib.hid (show Below w.heap.size w V5 ∧ Ups V5 V5.heap.size A' l ∧ Own V5 w.heap.size 58 t.cells ∧ BtIn V5 V5.heap.size a ∧ Own V5 w3.heap.size 26 a.cells from by subst hV5; exact ⟨H3.out.1, H3.out.2.2.1, H3.out.2.2.2.1, H3.out.2.2.2.2.1, H3.out.2.2.2.2.2.2⟩)
    subst hV5
    clear hcs hp
    go_upto_region 8 with fail
    clear hz
    obtain ⟨E2, hE2⟩ : ∃ E2, atE l t = E2 := ⟨_, rfl⟩
    have z4 := Lib.hid (there_at A' c' l t V5 H5.out.2.1 HL.out.2.2.2.ok HL.out.2.2.2.n)
    rw [hE2] at z4
    have HE2 := Lib.hid hE2
    clear hE2
    go_wp2_with fail
    refine z4.out.mono ?_
    rintro _ w6 ⟨A6, k6, X, rfl, hpX, hcX, hoX, hnX, b6⟩
    have ht6 := H5.out.2.2.1.past b6 H5.out.2.2.1.inside
    have ha6 := H5.out.2.2.2.2.past b6 H5.out.2.2.2.2.inside
    have H6 := Lib.hid (And.intro (belows H5.out.1 b6) (And.intro (H5.out.2.2.2.1.keep b6) (And.intro ht6 (And.intro ha6 (And.intro hpX (And.intro hcX (And.intro hoX hnX)))))))
    have z5 := Lib.hid (there_at a.uA a.uc a.l t w6 H6.out.2.1.ups H3.out.2.2.2.2.2.1.l.ok H3.out.2.2.2.2.2.1.l.n)
    rw [← HC.out.1, ← HC.out.2, HE2.out] at z5
    clear d0 d1 c0 c1 c2
    obtain ⟨d0, d1⟩ := own2 ha6
    obtain ⟨c0, c1, c2⟩ := own3 ht6
    clear hpX hcX hoX hnX b6 ht6 ha6 z4
    go_wp2_with fail
    refine z5.out.mono ?_
    rintro _ w7 ⟨A7, k7, Y, rfl, hpY, hcY, hoY, hnY, b7⟩
    have z6 := Lib.hid (same_yes A6 A7 k6 k7 X Y w7 (H6.out.2.2.2.2.2.1.keep b7) hcY H6.out.2.2.2.2.2.2.1 hoY H6.out.2.2.2.2.2.2.2 hnY (by rw [hpY]; exact H6.out.2.2.2.2.1))
    have ha7 := H6.out.2.2.2.1.past b7 H6.out.2.2.2.1.inside
    have H7 := Lib.hid (And.intro (belows H6.out.1 b7) (And.intro (H6.out.2.1.keep b7) ha7))
    clear hpY hcY hoY hnY b7 ha7 z5 d0 d1 c0 c1 c2
    go_wp2_with fail
    refine z6.out.mono ?_
    rintro _ w8 ⟨rfl, b8⟩
    have ha8 := H7.out.2.2.past b8 H7.out.2.2.inside
    have z7 := Lib.hid (check_yes a w8 (H7.out.2.1.keep b8) H3.out.2.2.2.2.2.1 HK.out.1)
    unfold Bt.val at z7
    have H8 := Lib.hid (belows H7.out.1 b8)
    obtain ⟨d0, d1⟩ := own2 ha8
    clear b8 ha8 z6
    go_wp2_with fail
    refine z7.out.mono ?_
    rintro _ w9 ⟨rfl, b9⟩
    have H9 := Lib.hid (belows H8.out b9)
    clear d0 d1 z7 b9
    go_wp2_with fail
    go_ret
    exact ⟨rfl, H9.out⟩
  obtain ⟨bb, hbb⟩ : ∃ bb, beyond f t = bb := ⟨_, rfl⟩
  have z2 := Lib.hid (beyond_is A c f t V3 H3.out.2.1 HM.out hbb)
  have hp' : (0 : Int) < (f.length : Int) := by omega
  go_wp2_with fail
  refine z2.out.mono ?_
  rintro _ w5 ⟨rfl, b5⟩
  have ht5 := H3.out.2.2.2.1.past b5 H3.out.2.2.2.1.inside
  have ha5 := H3.out.2.2.2.2.2.2.past b5 H3.out.2.2.2.2.2.2.inside
  have H5 := Lib.hid (And.intro (belows H3.out.1 b5) (And.intro (H3.out.2.2.1.keep b5) (And.intro ht5 (And.intro (H3.out.2.2.2.2.1.keep b5) ha5))))
  clear d0 d1 c0 c1 c2
  obtain ⟨d0, d1⟩ := own2 ha5
  obtain ⟨c0, c1, c2⟩ := own3 ht5
  clear b5 ht5 ha5 z2 hp hp'
  cases bb with
  | false =>
    have z3 := Lib.hid (check_yes a w5 H5.out.2.2.2.1 H3.out.2.2.2.2.2.1 HK.out.1)
    unfold Bt.val at z3
    clear hbb
    go_wp2_with fail
    refine z3.out.mono ?_
    rintro _ w6 ⟨rfl, b6⟩
    have H6 := Lib.hid (belows H5.out.1 b6)
    clear d0 d1 c0 c1 c2 z3 b6
    go_wp2_with fail
    go_ret
    exact ⟨rfl, H6.out⟩
  | true =>
    have HC := Lib.hid (HK.out.2 (.inr hbb))
    clear hbb
    obtain ⟨V5, hV5⟩ : ∃ V5, V5 = w5 := ⟨_, rfl⟩
    subst hV5
    go_upto_region 8 with fail
    obtain ⟨E2, hE2⟩ : ∃ E2, atE l t = E2 := ⟨_, rfl⟩
    have z4 := Lib.hid (there_at A' c' l t V5 H5.out.2.1 HL.out.2.2.2.ok HL.out.2.2.2.n)
    rw [hE2] at z4
    have HE2 := Lib.hid hE2
    clear hE2
    go_wp2_with fail
    refine z4.out.mono ?_
    rintro _ w6 ⟨A6, k6, X, rfl, hpX, hcX, hoX, hnX, b6⟩
    have ht6 := H5.out.2.2.1.past b6 H5.out.2.2.1.inside
    have ha6 := H5.out.2.2.2.2.past b6 H5.out.2.2.2.2.inside
    have H6 := Lib.hid (And.intro (belows H5.out.1 b6) (And.intro (H5.out.2.2.2.1.keep b6) (And.intro ht6 (And.intro ha6 (And.intro hpX (And.intro hcX (And.intro hoX hnX)))))))
    have z5 := Lib.hid (there_at a.uA a.uc a.l t w6 H6.out.2.1.ups H3.out.2.2.2.2.2.1.l.ok H3.out.2.2.2.2.2.1.l.n)
    rw [← HC.out.1, ← HC.out.2, HE2.out] at z5
    clear d0 d1 c0 c1 c2
    obtain ⟨d0, d1⟩ := own2 ha6
    obtain ⟨c0, c1, c2⟩ := own3 ht6
    clear hpX hcX hoX hnX b6 ht6 ha6 z4
    go_wp2_with fail
    refine z5.out.mono ?_
    rintro _ w7 ⟨A7, k7, Y, rfl, hpY, hcY, hoY, hnY, b7⟩
    have z6 := Lib.hid (same_yes A6 A7 k6 k7 X Y w7 (H6.out.2.2.2.2.2.1.keep b7) hcY H6.out.2.2.2.2.2.2.1 hoY H6.out.2.2.2.2.2.2.2 hnY (by rw [hpY]; exact H6.out.2.2.2.2.1))
    have ha7 := H6.out.2.2.2.1.past b7 H6.out.2.2.2.1.inside
    have H7 := Lib.hid (And.intro (belows H6.out.1 b7) (And.intro (H6.out.2.1.keep b7) ha7))
    clear hpY hcY hoY hnY b7 ha7 z5 d0 d1 c0 c1 c2
    go_wp2_with fail
    refine z6.out.mono ?_
    rintro _ w8 ⟨rfl, b8⟩
    have ha8 := H7.out.2.2.past b8 H7.out.2.2.inside
    have z7 := Lib.hid (check_yes a w8 (H7.out.2.1.keep b8) H3.out.2.2.2.2.2.1 HK.out.1)
    unfold Bt.val at z7
    have H8 := Lib.hid (belows H7.out.1 b8)
    obtain ⟨d0, d1⟩ := own2 ha8
    clear b8 ha8 z6
    go_wp2_with fail
    refine z7.out.mono ?_
    rintro _ w9 ⟨rfl, b9⟩
    have H9 := Lib.hid (belows H8.out b9)
    clear d0 d1 z7 b9
    go_wp2_with fail
    go_ret
    exact ⟨rfl, H9.out⟩
end Go.Proofs.YteiacpfnfolkkaaGreat
