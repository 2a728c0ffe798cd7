/- DiffSame returns true. -/
import Derived.Test.YtpfjeibhklacbaaDAll
namespace Go.Proofs.Ytpfjeibhklacbaa
open Go Go.RowKit

set_option maxRecDepth 100000 in
set_option maxHeartbeats 12800000 in
theorem dsame_walk (A : Option Addr) (c : Nat) (l : List Up) (A' : Option Addr) (c' : Nat) (m : List Up) (t : Tm) (w : World) (hl : Ups w w.heap.size A l) (hok : ∀ u ∈ l, UOk u) (_ : l.length ≤ c) (_ : c ≤ maxLen) (hl' : Ups w w.heap.size A' m) (hok' : ∀ u ∈ m, UOk u) (_ : m.length ≤ c') (_ : c' ≤ maxLen) (hn : l.length + m.length ≤ 1048576) :
    Calls Try.prog 6 #[.slice A l.length c, .slice A' m.length c', t.val] w fun e w' => e = .returned (.bool true) ∧ Below w.heap.size w w' := by
  obtain ⟨i0, hi, hz0, hz1, hz2⟩ := info_parts infoUp
  have HI := Lib.hid (And.intro Try.underlying23 (And.intro hi (And.intro hz0 (And.intro hz1 hz2))))
  have y0 := fun W => Lib.hid (lists_true W)
  obtain ⟨V, hV, hvb, hvs, hvo⟩ := tm_box w t
  have HL := Lib.hid (And.intro (And.intro hl hok) (And.intro hl' hok'))
  have HV := Lib.hid (And.intro hvb hvo)
  rw [show t.val = .agg #[.int .u64 (t.e : Int), .int .u64 (t.a : Int), .int .u64 (t.b : Int)] from rfl]
  clear hl hok hl' hok' hi hz0 hz1 hz2 hvb hvs hvo
  go_enter Try.func6, Try.ntmps6
  go_upto_region 1 with fail
  rw [← hV]
  clear hV
  go_wp2_with fail
  refine (y0 _).out.mono ?_
  rintro e w1 ⟨rfl, b1⟩
  have hb1 : Below w.heap.size w w1 := HV.out.1.trans (b1.mono HV.out.1.size)
  have hr0 := Lib.hid (empty_ups w1)
  have H1 := Lib.hid (And.intro hb1 (HV.out.2.past b1 HV.out.2.inside))
  have hL0 := Lib.hid (HL.out.1.1.head.past (hb1.alloc hb1.size (.cells #[] 38)) (Nat.le_refl _))
  clear b1 hb1
  go_wp2_with (at_builtin; refine wpList_append_lies _ rfl (.tmp 22) (.tmp 23) 23 38 rfl i0 _ 80 HI.out.1 HI.out.2.1 HI.out.2.2.1 HI.out.2.2.2.1 HI.out.2.2.2.2 rfl (by decide) ucells_len ucells_one w1.heap.size _ _ _ rfl hr0.out c rfl hL0.out ?m1 ?m2 ?m3 ?m4)
  case m1 => unfold maxLen; omega
  case m2 => omega
  case m3 => simp
  intro v2 w2 ho2 hb2
  have hs1 := H1.out.1.size
  have hs2 : w1.heap.size ≤ w2.heap.size := by have := hb2.size; simp at this; omega
  have hb2' : Below w.heap.size w w2 := (H1.out.1.alloc H1.out.1.size _).trans (hb2.mono H1.out.1.size)
  have hL2 := Lib.hid (HL.out.2.1.head.past hb2' (Nat.le_refl _))
  have H2 := Lib.hid (And.intro ho2 (And.intro hb2' ((H1.out.2.more _).past hb2 H1.out.2.inside)))
  clear ho2 hb2 hb2' hr0 hL0
  go_wp2_with (at_builtin; refine wpList_append_lies _ rfl (.tmp 24) (.tmp 25) 23 38 rfl i0 _ 80 HI.out.1 HI.out.2.1 HI.out.2.2.1 HI.out.2.2.2.1 HI.out.2.2.2.2 rfl (by decide) ucells_len ucells_one w1.heap.size _ _ _ rfl H2.out.1 c' rfl hL2.out ?k1 ?k2 ?k3 ?k4)
  case k1 => unfold maxLen; omega
  case k2 => omega
  case k3 => exact hs2
  intro v3 w3 ho3 hb3
  obtain ⟨all, hall⟩ : ∃ all, l ++ m = all := ⟨_, rfl⟩
  have hna : all.length ≤ 1048576 := by rw [← hall, List.length_append]; exact hn
  obtain ⟨A3, c3, rfl, _, _, h3⟩ := lies_of_own (size := 6) (cells := Up.cells) (l := all) (by decide) ucells_len (by rw [← hall, List.length_append]) (by rw [← hall, List.flatMap_append]; simpa using ho3)
  have hb3' : Below w.heap.size w w3 := H2.out.2.1.trans (hb3.mono hs1)
  have hu3 : Ups w3 w3.heap.size A3 all := ⟨h3, fun u hu => by
    rw [← hall] at hu
    rcases List.mem_append.1 hu with hu | hu
    · exact ((HL.out.1.1.each_ u hu).past hb3' (Nat.le_refl _)).wide hb3'.size
    · exact ((HL.out.2.1.each_ u hu).past hb3' (Nat.le_refl _)).wide hb3'.size⟩
  have hoa : ∀ u ∈ all, UOk u := fun u hu => by
    rw [← hall] at hu
    rcases List.mem_append.1 hu with hu | hu
    · exact HL.out.1.2 u hu
    · exact HL.out.2.2 u hu
  have ho3t := H2.out.2.2.past hb3 H1.out.2.inside
  have z1 := Lib.hid (there_at A3 c3 all t w3 hu3 hoa (by omega))
  have H3 := Lib.hid (And.intro hb3' (And.intro hu3 (And.intro hoa ho3t)))
  have HA := Lib.hid hall
  have e3 : l.length + m.length = all.length := by rw [← hall, List.length_append]
  obtain ⟨d0, d1, d2⟩ := own3 ho3t
  clear ho3 hb3 h3 hb3' hu3 hoa ho3t hall hL2 hs1 hs2
  clear e3
  obtain ⟨E1, hE1⟩ : ∃ E1, atE all t = E1 := ⟨_, rfl⟩
  rw [hE1] at z1
  have HE1 := Lib.hid hE1
  clear hE1
  go_wp2_with fail
  refine z1.out.mono ?_
  rintro _ w4 ⟨A4, k4, X, rfl, hpX, hcX, hoX, hnX, b4⟩
  obtain ⟨V5, hV5, hvb5, hul5⟩ := one_list w4 A3 c3 all (H3.out.2.1.keep b4)
  have z2 := Lib.hid (evened_one (some ⟨w4.heap.size, 0, none⟩) A3 c3 all V5 hul5 H3.out.2.2.1 (by omega))
  have hb4 := H3.out.1.trans (b4.mono H3.out.1.size)
  have ht4 := H3.out.2.2.2.past b4 H3.out.2.2.2.inside
  have H4 := Lib.hid (And.intro (hb4.trans (hvb5.mono hb4.size)) (And.intro (ht4.past hvb5 ht4.inside) (And.intro (hcX.keep hvb5) (And.intro hoX (And.intro hnX hpX)))))
  clear b4 hb4 ht4 hpX hcX hoX hnX hvb5 hul5 d0 d1 d2 z1
  obtain ⟨E2, hE2⟩ : ∃ E2, consE [all] = E2 := ⟨_, rfl⟩
  rw [hE2] at z2
  go_wp2_with fail
  rw [← hV5]
  clear hV5
  refine z2.out.mono ?_
  rintro _ w5 ⟨A5, k5, eL, rfl, hpe, hue, hoe, hne, b5⟩
  have hb5 := H4.out.1.trans (b5.mono H4.out.1.size)
  have ht5 := H4.out.2.1.past b5 H4.out.2.1.inside
  have z3 := Lib.hid (there_at A5 k5 eL t w5 hue hoe hne)
  have H5 := Lib.hid (And.intro hb5 (And.intro ht5 (And.intro (H4.out.2.2.1.keep b5) (And.intro H4.out.2.2.2.1 (And.intro H4.out.2.2.2.2.1 H4.out.2.2.2.2.2)))))
  obtain ⟨d0, d1, d2⟩ := own3 ht5
  clear b5 hb5 ht5 hue hoe hne z2
  by_cases h2 : E2 = 0
  · subst h2
    have hsm := at_same t hE2 hpe
    rw [← hsm.1, ← hsm.2, HE1.out] at z3
    clear hsm hpe hE2
    go_wp2_with fail
    refine z3.out.mono ?_
    rintro _ w6 ⟨A6, k6, Y, rfl, hpY, hcY, hoY, hnY, b6⟩
    have hsame := Lib.hid (same_yes A4 A6 k4 k6 X Y w6 (H5.out.2.2.1.keep b6) hcY H5.out.2.2.2.1 hoY H5.out.2.2.2.2.1 hnY (by rw [hpY]; exact H5.out.2.2.2.2.2))
    have H6 := Lib.hid (And.intro (H5.out.1.trans (b6.mono H5.out.1.size)) (And.intro (H5.out.2.1.past b6 H5.out.2.1.inside) (And.intro (H5.out.2.2.1.keep b6) (And.intro H5.out.2.2.2.1 (And.intro H5.out.2.2.2.2.1 H5.out.2.2.2.2.2)))))
    clear hpY hcY hoY hnY b6 z3 d0 d1 d2
    go_wp2_with fail
    refine hsame.out.mono ?_
    rintro _ w6' ⟨rfl, b6'⟩
    have HX6 := And.intro (H6.out.1.trans (b6'.mono H6.out.1.size)) (And.intro (H6.out.2.1.past b6' H6.out.2.1.inside) (And.intro (H6.out.2.2.1.keep b6') (And.intro H6.out.2.2.2.1 (And.intro H6.out.2.2.2.2.1 H6.out.2.2.2.2.2))))
    obtain ⟨w6, hw6⟩ : ∃ w6, w6 = w6' := ⟨_, rfl⟩
    subst hw6
    clear b6' hsame
    have HW := Lib.hid (And.intro HX6 (And.intro (fun (W : World) (h : Below w.heap.size w W) => (HL.out.1.1.past h (Nat.le_refl _)).wide h.size) (fun (W : World) (h : Below w.heap.size w W) => (HL.out.2.1.past h (Nat.le_refl _)).wide h.size)))
    have z4 := Lib.hid (there_at A c l t w6 (HW.out.2.1 w6 HW.out.1.1) HL.out.1.2 (by omega))
    obtain ⟨d0, d1, d2⟩ := own3 HX6.2.1
    clear HX6
    obtain ⟨E4, hE4⟩ : ∃ E4, atE l t = E4 := ⟨_, rfl⟩
    obtain ⟨E5, hE5⟩ : ∃ E5, atE m t = E5 := ⟨_, rfl⟩
    rw [hE4] at z4
    have HE45 := Lib.hid (And.intro hE4 hE5)
    clear hE4 hE5
    go_wp2_with fail
    refine z4.out.mono ?_
    rintro _ w7 ⟨A7, k7, P, rfl, hpP, hcP, hoP, hnP, b7⟩
    have hb7 := HW.out.1.1.trans (b7.mono HW.out.1.1.size)
    have ht7 := HW.out.1.2.1.past b7 HW.out.1.2.1.inside
    have z5 := Lib.hid (there_at A' c' m t w7 (HW.out.2.2 w7 hb7) HL.out.2.2 (by omega))
    rw [HE45.out.2] at z5
    obtain ⟨d0, d1, d2⟩ := own3 ht7
    have H7 := Lib.hid (And.intro hb7 (And.intro ht7 (And.intro hpP (And.intro hcP (And.intro hoP (And.intro hnP (HW.out.1.2.2.1.keep b7)))))))
    clear b7 hb7 ht7 hpP hcP hoP hnP z4
    go_wp2_with fail
    refine z5.out.mono ?_
    rintro _ w8 ⟨A8, k8, Q, rfl, hpQ, hcQ, hoQ, hnQ, b8⟩
    have hlP : P.length ≤ l.length := by have := atL_len l t; rw [← H7.out.2.2.1, List.length_map] at this; exact this
    have hlQ : Q.length ≤ m.length := by have := atL_len m t; rw [← hpQ, List.length_map] at this; exact this
    have H8 := Lib.hid (And.intro (H7.out.1.trans (b8.mono H7.out.1.size)) (And.intro (H7.out.2.2.2.1.keep b8) (And.intro hpQ (And.intro hcQ (And.intro hoQ (H7.out.2.2.2.2.2.2.keep b8))))))
    clear b8 hpQ hcQ hoQ hnQ z5 d0 d1 d2
    by_cases h45 : E4 = 0 ∧ E5 = 0
    · obtain ⟨rfl, rfl⟩ := h45
      have hmg := at_merge (a := l) (b := m) (t := t) HE45.out.1 HE45.out.2 H7.out.2.2.1 H8.out.2.2.1
      rw [HA.out, HE1.out] at hmg
      obtain ⟨V9, hV9, hvb9, hcl9⟩ := two_clists w8 A7 A8 k7 k8 P Q H8.out.2.1 H8.out.2.2.2.1
      have z9 := Lib.hid (there_merge (some ⟨w8.heap.size, 0, none⟩) A7 A8 k7 k8 P Q V9 hcl9 H7.out.2.2.2.2.1 H8.out.2.2.2.2.1 (by omega) hmg)
      have HV9 := Lib.hid (And.intro (H8.out.1.trans (hvb9.mono H8.out.1.size)) (H8.out.2.2.2.2.2.keep hvb9))
      clear hvb9 hcl9 hmg
      go_wp2_with fail
      rw [← hV9]
      clear hV9
      refine z9.out.mono ?_
      rintro _ w9 ⟨A9, k9, S, rfl, hpS, hcS, hoS, hnS, b9⟩
      have hsame := Lib.hid (same_yes A4 A9 k4 k9 X S w9 (HV9.out.2.keep b9) hcS HW.out.1.2.2.2.1 hoS HW.out.1.2.2.2.2.1 hnS (by rw [hpS]; exact HW.out.1.2.2.2.2.2))
      have H9 := Lib.hid (HV9.out.1.trans (b9.mono HV9.out.1.size))
      clear hpS hcS hoS hnS b9 z9
      go_wp2_with fail
      refine hsame.out.mono ?_
      rintro _ w10 ⟨rfl, b10⟩
      have H10 := Lib.hid (H9.out.trans (b10.mono H9.out.size))
      clear b10
      go_wp2_with fail
      go_ret
      exact ⟨rfl, H10.out⟩
    · by_cases h1 : E1 = 0
      · subst h1
        by_cases h4 : E4 = 0
        · have t4 : (E4 != 0) = false := by simp [h4]
          have t5 : (E5 != 0) = true := bne_iff_ne.2 fun h => h45 ⟨h4, h⟩
          clear h4 h45
          go_wp2_with fail
          go_ret
          exact ⟨rfl, H8.out.1⟩
        · have t4 : (E4 != 0) = true := bne_iff_ne.2 h4
          clear h4 h45
          go_wp2_with fail
          go_ret
          exact ⟨rfl, H8.out.1⟩
      · have t1 : (E1 == 0) = false := beq_eq_false_iff_ne.2 h1
        have hX0 : X = [] := by
          have := HW.out.1.2.2.2.2.2
          rw [at_ne (by rw [HE1.out]; exact h1)] at this
          exact List.map_eq_nil_iff.1 this
        subst hX0
        clear h1
        by_cases h4 : E4 = 0
        · have t4 : (E4 != 0) = false := by simp [h4]
          have t5 : (E5 != 0) = true := bne_iff_ne.2 fun h => h45 ⟨h4, h⟩
          clear h4 h45
          go_wp2_with fail
          go_ret
          exact ⟨rfl, H8.out.1⟩
        · have t4 : (E4 != 0) = true := bne_iff_ne.2 h4
          clear h4 h45
          go_wp2_with fail
          go_ret
          exact ⟨rfl, H8.out.1⟩
  · have t2 : (E2 == 0) = false := beq_eq_false_iff_ne.2 h2
    obtain ⟨E3, hE3⟩ : ∃ E3, atE eL t = E3 := ⟨_, rfl⟩
    rw [hE3] at z3
    clear hpe hE2 hE3 h2
    go_wp2_with fail
    refine z3.out.mono ?_
    rintro _ w6 ⟨A6, k6, Y, rfl, _, _, _, _, b6⟩
    have HX6 := And.intro (H5.out.1.trans (b6.mono H5.out.1.size)) (And.intro (H5.out.2.1.past b6 H5.out.2.1.inside) (And.intro (H5.out.2.2.1.keep b6) (And.intro H5.out.2.2.2.1 (And.intro H5.out.2.2.2.2.1 H5.out.2.2.2.2.2))))
    clear b6 z3 d0 d1 d2
    have HW := Lib.hid (And.intro HX6 (And.intro (fun (W : World) (h : Below w.heap.size w W) => (HL.out.1.1.past h (Nat.le_refl _)).wide h.size) (fun (W : World) (h : Below w.heap.size w W) => (HL.out.2.1.past h (Nat.le_refl _)).wide h.size)))
    have z4 := Lib.hid (there_at A c l t w6 (HW.out.2.1 w6 HW.out.1.1) HL.out.1.2 (by omega))
    obtain ⟨d0, d1, d2⟩ := own3 HX6.2.1
    clear HX6
    obtain ⟨E4, hE4⟩ : ∃ E4, atE l t = E4 := ⟨_, rfl⟩
    obtain ⟨E5, hE5⟩ : ∃ E5, atE m t = E5 := ⟨_, rfl⟩
    rw [hE4] at z4
    have HE45 := Lib.hid (And.intro hE4 hE5)
    clear hE4 hE5
    go_wp2_with fail
    refine z4.out.mono ?_
    rintro _ w7 ⟨A7, k7, P, rfl, hpP, hcP, hoP, hnP, b7⟩
    have hb7 := HW.out.1.1.trans (b7.mono HW.out.1.1.size)
    have ht7 := HW.out.1.2.1.past b7 HW.out.1.2.1.inside
    have z5 := Lib.hid (there_at A' c' m t w7 (HW.out.2.2 w7 hb7) HL.out.2.2 (by omega))
    rw [HE45.out.2] at z5
    obtain ⟨d0, d1, d2⟩ := own3 ht7
    have H7 := Lib.hid (And.intro hb7 (And.intro ht7 (And.intro hpP (And.intro hcP (And.intro hoP (And.intro hnP (HW.out.1.2.2.1.keep b7)))))))
    clear b7 hb7 ht7 hpP hcP hoP hnP z4
    go_wp2_with fail
    refine z5.out.mono ?_
    rintro _ w8 ⟨A8, k8, Q, rfl, hpQ, hcQ, hoQ, hnQ, b8⟩
    have hlP : P.length ≤ l.length := by have := atL_len l t; rw [← H7.out.2.2.1, List.length_map] at this; exact this
    have hlQ : Q.length ≤ m.length := by have := atL_len m t; rw [← hpQ, List.length_map] at this; exact this
    have H8 := Lib.hid (And.intro (H7.out.1.trans (b8.mono H7.out.1.size)) (And.intro (H7.out.2.2.2.1.keep b8) (And.intro hpQ (And.intro hcQ (And.intro hoQ (H7.out.2.2.2.2.2.2.keep b8))))))
    clear b8 hpQ hcQ hoQ hnQ z5 d0 d1 d2
    by_cases h45 : E4 = 0 ∧ E5 = 0
    · obtain ⟨rfl, rfl⟩ := h45
      have hmg := at_merge (a := l) (b := m) (t := t) HE45.out.1 HE45.out.2 H7.out.2.2.1 H8.out.2.2.1
      rw [HA.out, HE1.out] at hmg
      obtain ⟨V9, hV9, hvb9, hcl9⟩ := two_clists w8 A7 A8 k7 k8 P Q H8.out.2.1 H8.out.2.2.2.1
      have z9 := Lib.hid (there_merge (some ⟨w8.heap.size, 0, none⟩) A7 A8 k7 k8 P Q V9 hcl9 H7.out.2.2.2.2.1 H8.out.2.2.2.2.1 (by omega) hmg)
      have HV9 := Lib.hid (And.intro (H8.out.1.trans (hvb9.mono H8.out.1.size)) (H8.out.2.2.2.2.2.keep hvb9))
      clear hvb9 hcl9 hmg
      go_wp2_with fail
      rw [← hV9]
      clear hV9
      refine z9.out.mono ?_
      rintro _ w9 ⟨A9, k9, S, rfl, hpS, hcS, hoS, hnS, b9⟩
      have hsame := Lib.hid (same_yes A4 A9 k4 k9 X S w9 (HV9.out.2.keep b9) hcS HW.out.1.2.2.2.1 hoS HW.out.1.2.2.2.2.1 hnS (by rw [hpS]; exact HW.out.1.2.2.2.2.2))
      have H9 := Lib.hid (HV9.out.1.trans (b9.mono HV9.out.1.size))
      clear hpS hcS hoS hnS b9 z9
      go_wp2_with fail
      refine hsame.out.mono ?_
      rintro _ w10 ⟨rfl, b10⟩
      have H10 := Lib.hid (H9.out.trans (b10.mono H9.out.size))
      clear b10
      go_wp2_with fail
      go_ret
      exact ⟨rfl, H10.out⟩
    · by_cases h1 : E1 = 0
      · subst h1
        by_cases h4 : E4 = 0
        · have t4 : (E4 != 0) = false := by simp [h4]
          have t5 : (E5 != 0) = true := bne_iff_ne.2 fun h => h45 ⟨h4, h⟩
          clear h4 h45
          go_wp2_with fail
          go_ret
          exact ⟨rfl, H8.out.1⟩
        · have t4 : (E4 != 0) = true := bne_iff_ne.2 h4
          clear h4 h45
          go_wp2_with fail
          go_ret
          exact ⟨rfl, H8.out.1⟩
      · have t1 : (E1 == 0) = false := beq_eq_false_iff_ne.2 h1
        have hX0 : X = [] := by
          have := HW.out.1.2.2.2.2.2
          rw [at_ne (by rw [HE1.out]; exact h1)] at this
          exact List.map_eq_nil_iff.1 this
        subst hX0
        clear h1
        by_cases h4 : E4 = 0
        · have t4 : (E4 != 0) = false := by simp [h4]
          have t5 : (E5 != 0) = true := bne_iff_ne.2 fun h => h45 ⟨h4, h⟩
          clear h4 h45
          go_wp2_with fail
          go_ret
          exact ⟨rfl, H8.out.1⟩
        · have t4 : (E4 != 0) = true := bne_iff_ne.2 h4
          clear h4 h45
          go_wp2_with fail
          go_ret
          exact ⟨rfl, H8.out.1⟩
end Go.Proofs.Ytpfjeibhklacbaa
