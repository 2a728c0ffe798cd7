/- DiffLater returns true. -/
import Derived.Test.YtpfjeibhklacbaaDAll
namespace Go.Proofs.Ytpfjeibhklacbaa
open Go Go.RowKit

theorem two_tm_box (w : World) (a b : Tm) : ∃ V, V = (w.alloc (.cells #[.int .u64 (a.e : Int), .int .u64 (a.a : Int), .int .u64 (a.b : Int)] 36)).alloc (.cells #[.int .u64 (b.e : Int), .int .u64 (b.a : Int), .int .u64 (b.b : Int)] 36) ∧ Below w.heap.size w V ∧ Own V w.heap.size 36 a.cells ∧ Own V (w.heap.size + 1) 36 b.cells := by
  refine ⟨_, rfl, ((Below.refl _ _).alloc (Nat.le_refl _) _).alloc (by simp) _, (Own.made w 36 a.cells).more _, ?_⟩
  have := Own.made (w.alloc (.cells #[.int .u64 (a.e : Int), .int .u64 (a.a : Int), .int .u64 (a.b : Int)] 36)) 36 b.cells
  rw [show (w.alloc (.cells #[.int .u64 (a.e : Int), .int .u64 (a.a : Int), .int .u64 (a.b : Int)] 36)).heap.size = w.heap.size + 1 by simp] at this
  exact this
set_option maxRecDepth 100000 in
set_option maxHeartbeats 12800000 in
theorem later_walk (A : Option Addr) (c : Nat) (l : List Up) (a b : Tm) (w : World) (hl : Ups w w.heap.size A l) (hok : ∀ u ∈ l, UOk u) (_ : l.length ≤ c) (_ : c ≤ maxLen) (hn : l.length ≤ 1048576) :
    Calls Try.prog 8 #[.slice A l.length c, a.val, b.val] w fun e w' => e = .returned (.bool true) ∧ Below w.heap.size w w' := by
  obtain ⟨i0, hi, hz0, hz1, hz2⟩ := info_parts infoUp
  have HI := Lib.hid (And.intro Try.underlying23 (And.intro hi (And.intro hz0 (And.intro hz1 hz2))))
  have y0 := fun W => Lib.hid (lists_true W)
  obtain ⟨V, hV, hvb, hva, hvc⟩ := two_tm_box w a b
  have HL := Lib.hid (And.intro hl hok)
  have HV := Lib.hid (And.intro hvb (And.intro hva hvc))
  rw [show a.val = .agg #[.int .u64 (a.e : Int), .int .u64 (a.a : Int), .int .u64 (a.b : Int)] from rfl, show b.val = .agg #[.int .u64 (b.e : Int), .int .u64 (b.a : Int), .int .u64 (b.b : Int)] from rfl]
  clear hl hok hi hz0 hz1 hz2 hvb hva hvc
  go_enter Try.func8, Try.ntmps8
  go_upto_region 1 with fail
  rw [← hV]
  clear hV
  go_wp2_with fail
  refine (y0 _).out.mono ?_
  rintro e w1 ⟨rfl, b1⟩
  have H1 := Lib.hid (And.intro (HV.out.1.trans (b1.mono HV.out.1.size)) (And.intro (HV.out.2.1.past b1 HV.out.2.1.inside) (HV.out.2.2.past b1 HV.out.2.2.inside)))
  clear b1
  go_wp2_with fail
  go_loopw [7, 23] (fun v7 v23 wr => ∃ j : Nat, v23 = .int .i64 (j : Int) ∧ j ≤ l.length ∧ wr.ownsRow w1.heap.size 38 6 v7 (betw (l.take j) a).length ((betw (l.take j) a).flatMap Up.cells) ∧ Below w1.heap.size w1 wr)
    (fun _ v23 _ => l.length - (intOf v23).toNat)
  case atStart => exact ⟨0, rfl, by omega, World.ownsRow_nil _ _ _ _, Below.refl _ _⟩
  case round =>
    obtain ⟨j, rfl, hj, hownj, hbj⟩ := hrel
    obtain ⟨wi, hwi⟩ : ∃ wi, wi = wr := ⟨_, rfl⟩
    subst hwi
    have hbw : Below w.heap.size w wi := H1.out.1.trans (hbj.mono H1.out.1.size)
    by_cases hjt : j < l.length
    · have hy : l[j]? = some l[j] := List.getElem?_eq_getElem hjt
      have hym := List.mem_of_getElem? hy
      generalize l[j] = u at *
      obtain ⟨g, o, rfl, hB, hys⟩ := lies_up HL.out.1.head (by omega)
      obtain ⟨e0, e1, e2, e3, e4, e5⟩ := ((hys j u hy).past_ hbw hB).six
      obtain ⟨V2, hV2, hvb2, hvs2, hvo2⟩ := upbox wi u
      have hnx := betw_next (a := a) hy
      have hlen := betw_len (l.take j) a
      rw [List.length_take] at hlen
      have hln : (betw (l.take j) a).length ≤ 1048576 := by omega
      have hbV : Below w1.heap.size w1 V2 := hbj.trans (hvb2.mono hbj.size)
      have HJ := Lib.hid (And.intro hnx (And.intro hbV (And.intro (own_below hownj hvb2) hvo2)))
      have hta := H1.out.2.1.past hbV H1.out.2.1.inside
      have hso := hvo2
      have q3 : (0 : Int) ≤ (j : Int) := by omega
      have q4 : (j : Int) < (l.length : Int) := by omega
      have q5 : decide ((j : Int) < (l.length : Int)) = true := decide_eq_true q4
      generalize betw (l.take j) a = us at *
      clear hy hym hys hvb2 hvs2 hownj hnx hlen hbV hvo2 hbj hbw
      go_upto_region 7 with fail
      rw [← hV2]
      clear hV2 e0 e1 e2 e3 e4 e5
      obtain ⟨e0, e1, e2, e3, e4, e5⟩ := own6 hso
      obtain ⟨d0, d1, d2⟩ := own3 hta
      clear hso hta
      go_cut [10] (fun s10 wx => s10 = .bool (u.t.le a) ∧ V2 = wx)
      case first =>
        by_cases x1 : u.t.e ≤ a.e
        · have t1 : decide (u.t.e ≤ a.e) = true := decide_eq_true x1
          by_cases x2 : u.t.a ≤ a.a
          · have t2 : decide (u.t.a ≤ a.a) = true := decide_eq_true x2
            by_cases x3 : u.t.b ≤ a.b
            · have t3 : decide (u.t.b ≤ a.b) = true := decide_eq_true x3
              clear x1 x2 x3
              go_wp2_with fail
              go_meet
              exact ⟨by simp [Tm.le, t1, t2, t3], rfl⟩
            · have t3 : decide (u.t.b ≤ a.b) = false := decide_eq_false x3
              clear x1 x2 x3
              go_wp2_with fail
              go_meet
              exact ⟨by simp [Tm.le, t1, t2, t3], rfl⟩
          · have t2 : decide (u.t.a ≤ a.a) = false := decide_eq_false x2
            clear x1 x2
            go_wp2_with fail
            go_meet
            exact ⟨by simp [Tm.le, t1, t2], rfl⟩
        · have t1 : decide (u.t.e ≤ a.e) = false := decide_eq_false x1
          clear x1
          go_wp2_with fail
          go_meet
          exact ⟨by simp [Tm.le, t1], rfl⟩
      case rest =>
        obtain ⟨rfl, rfl⟩ := hcut
        cases hle : u.t.le a
        case true =>
          have HE := Lib.hid hle
          clear hle
          go_wp2_with fail
          go_roundw
          case rel =>
            refine ⟨j + 1, by go_num, by omega, ?_, HJ.out.2.1⟩
            rw [HJ.out.1, HE.out, if_pos rfl, List.append_nil]
            exact HJ.out.2.2.1
          case measure => simp [intOf]; omega
        case false =>
          have HE := Lib.hid hle
          clear hle
          have hp := Lib.hid (up_made V2 u)
          have hsz : w1.heap.size ≤ V2.heap.size := HJ.out.2.1.size
          have hbX := Lib.hid ((HJ.out.2.1).alloc hsz (.cells #[.slice u.kA u.key.length u.kc, .slice u.rA u.row.length u.rc, .int .u64 (u.t.e : Int), .int .u64 (u.t.a : Int), .int .u64 (u.t.b : Int), .int .i64 u.d] 38))
          have hoX := Lib.hid (own_below HJ.out.2.2.1 ((Below.refl _ V2).alloc (Nat.le_refl _) (.cells #[.slice u.kA u.key.length u.kc, .slice u.rA u.row.length u.rc, .int .u64 (u.t.e : Int), .int .u64 (u.t.a : Int), .int .u64 (u.t.b : Int), .int .i64 u.d] 38)))
          have hsz2 : w1.heap.size ≤ V2.heap.size + 1 := by omega
          go_wp2_with (at_builtin; refine wpList_append_lies _ rfl (.tmp 55) (.tmp 57) 23 38 rfl i0 _ 80 HI.out.1 HI.out.2.1 HI.out.2.2.1 HI.out.2.2.2.1 HI.out.2.2.2.2 rfl (by decide) ucells_len ucells_one w1.heap.size _ _ _ rfl hoX.out 1 rfl hp.out ?m1 ?m2 ?m3 ?m4)
          case m1 => show us.length + 1 ≤ maxLen; unfold maxLen; omega
          case m2 => show (us.length + 1) * 80 ≤ 140737488355328; omega
          case m3 => simp; omega
          intro v' w' ho' hb'
          have HA := Lib.hid (And.intro ho' hb')
          clear ho' hb' e0 e1 e2 e3 e4 e5
          go_wp2_with fail
          go_roundw
          case rel =>
            refine ⟨j + 1, by go_num, by omega, ?_, hbX.out.trans HA.out.2⟩
            rw [HJ.out.1, HE.out, if_neg Bool.false_ne_true, List.flatMap_append, List.length_append]
            exact HA.out.1
          case measure => simp [intOf]; omega
    · have hj2 : j = l.length := by omega
      subst hj2
      rw [List.take_length] at hownj
      obtain ⟨B, hBt⟩ : ∃ B, betw l a = B := ⟨_, rfl⟩
      have hBs : ∀ u ∈ B, u ∈ l := fun u hu => by rw [← hBt] at hu; exact betw_sub hu
      have hBn : B.length ≤ l.length := by rw [← hBt]; exact betw_len l a
      rw [hBt] at hownj
      obtain ⟨A3, c3, rfl, _, _, h3⟩ := lies_of_own (size := 6) (cells := Up.cells) (by decide) ucells_len rfl hownj
      have hu3 : Ups wi wi.heap.size A3 B := ⟨h3, fun u hu => ((HL.out.1.each_ u (hBs u hu)).past hbw (Nat.le_refl _)).wide hbw.size⟩
      have hoB : ∀ u ∈ B, UOk u := fun u hu => HL.out.2 u (hBs u hu)
      have hlW := Lib.hid (fun (W : World) (h : Below w.heap.size w W) => (HL.out.1.past h (Nat.le_refl _)).wide h.size)
      have hta := H1.out.2.1.past hbj H1.out.2.1.inside
      have htb := H1.out.2.2.past hbj H1.out.2.2.inside
      have z1 := Lib.hid (there_at A c l a wi (hlW.out wi hbw) HL.out.2 (by omega))
      obtain ⟨E1, hE1⟩ : ∃ E1, atE l a = E1 := ⟨_, rfl⟩
      obtain ⟨E2, hE2⟩ : ∃ E2, atE l b = E2 := ⟨_, rfl⟩
      obtain ⟨E3, hE3⟩ : ∃ E3, atE B b = E3 := ⟨_, rfl⟩
      rw [hE1] at z1
      have HE := Lib.hid (And.intro hE1 (And.intro hE2 (And.intro hE3 hBt)))
      have H2 := Lib.hid (And.intro hbw (And.intro hu3 (And.intro hoB (And.intro hta htb))))
      obtain ⟨d0, d1, d2⟩ := own3 hta
      have q5 : decide ((l.length : Int) < (l.length : Int)) = false := decide_eq_false (by omega)
      clear hownj hbj hbw hBs h3 hu3 hoB hta htb hE1 hE2 hE3 hBt
      go_wp2_with fail
      refine z1.out.mono ?_
      rintro _ w3 ⟨A4, k4, X, rfl, hpX, hcX, hoX, hnX, b3⟩
      have hb3 := H2.out.1.trans (b3.mono H2.out.1.size)
      have hta := H2.out.2.2.2.1.past b3 H2.out.2.2.2.1.inside
      have htb := H2.out.2.2.2.2.past b3 H2.out.2.2.2.2.inside
      have z2 := Lib.hid (there_at A c l b w3 (hlW.out w3 hb3) HL.out.2 (by omega))
      rw [HE.out.2.1] at z2
      have hlX : X.length ≤ l.length := by have := atL_len l a; rw [← hpX, List.length_map] at this; exact this
      have H3 := Lib.hid (And.intro hb3 (And.intro hta (And.intro htb (And.intro (H2.out.2.1.keep b3) (And.intro hcX (And.intro hoX hpX))))))
      obtain ⟨d0, d1, d2⟩ := own3 htb
      clear hb3 hta htb hcX hoX hnX hpX b3 z1
      go_wp2_with fail
      refine z2.out.mono ?_
      rintro _ w4 ⟨A5, k5, Y, rfl, hpY, hcY, hoY, hnY, b4⟩
      have htb := H3.out.2.2.1.past b4 H3.out.2.2.1.inside
      have z3 := Lib.hid (there_at A3 c3 B b w4 (H3.out.2.2.2.1.keep b4) H2.out.2.2.1 (by omega))
      rw [HE.out.2.2.1] at z3
      have H4 := Lib.hid (And.intro (H3.out.1.trans (b4.mono H3.out.1.size)) (And.intro (H3.out.2.1.past b4 H3.out.2.1.inside) (And.intro htb (And.intro (H3.out.2.2.2.2.1.keep b4) (And.intro hcY (And.intro hoY (And.intro hpY hnY)))))))
      obtain ⟨d0, d1, d2⟩ := own3 htb
      clear htb hcY hoY hnY hpY b4 z2
      go_wp2_with fail
      refine z3.out.mono ?_
      rintro _ w5 ⟨A6, k6, Z, rfl, hpZ, hcZ, hoZ, hnZ, b5⟩
      have hlZ : Z.length ≤ l.length := by have := atL_len B b; rw [← hpZ, List.length_map] at this; omega
      have H5 := Lib.hid (And.intro (H4.out.1.trans (b5.mono H4.out.1.size)) (And.intro (H4.out.2.2.2.1.keep b5) (And.intro (H4.out.2.2.2.2.1.keep b5) (And.intro hcZ (And.intro hoZ hpZ)))))
      obtain ⟨d0, d1, d2⟩ := own3 (H4.out.2.1.past b5 H4.out.2.1.inside)
      obtain ⟨f0, f1, f2⟩ := own3 (H4.out.2.2.1.past b5 H4.out.2.2.1.inside)
      clear hcZ hoZ hnZ hpZ b5 z3
      by_cases x1 : E1 = 0
      case neg =>
        have t1 : (E1 != 0) = true := bne_iff_ne.2 x1
        clear x1
        go_wp2_with fail
        go_ret
        exact ⟨rfl, H5.out.1⟩
      subst x1
      by_cases x2 : E2 = 0
      case neg =>
        have t1 : (E2 != 0) = true := bne_iff_ne.2 x2
        clear x2
        go_wp2_with fail
        go_ret
        exact ⟨rfl, H5.out.1⟩
      subst x2
      by_cases x3 : E3 = 0
      case neg =>
        have t1 : (E3 != 0) = true := bne_iff_ne.2 x3
        clear x3
        go_wp2_with fail
        go_ret
        exact ⟨rfl, H5.out.1⟩
      subst x3
      by_cases y1 : b.e < a.e
      case pos =>
        have t1 : decide (b.e < a.e) = true := decide_eq_true y1
        clear y1
        go_wp2_with fail
        go_ret
        exact ⟨rfl, H5.out.1⟩
      have t1 : decide (b.e < a.e) = false := decide_eq_false y1
      by_cases y2 : b.a < a.a
      case pos =>
        have t2 : decide (b.a < a.a) = true := decide_eq_true y2
        clear y1 y2
        go_wp2_with fail
        go_ret
        exact ⟨rfl, H5.out.1⟩
      have t2 : decide (b.a < a.a) = false := decide_eq_false y2
      by_cases y3 : b.b < a.b
      case pos =>
        have t3 : decide (b.b < a.b) = true := decide_eq_true y3
        clear y1 y2 y3
        go_wp2_with fail
        go_ret
        exact ⟨rfl, H5.out.1⟩
      have t3 : decide (b.b < a.b) = false := decide_eq_false y3
      have hab : a.le b = true := by
        unfold Tm.le
        simp only [Bool.and_eq_true, decide_eq_true_eq]
        omega
      have hmg := at_later hab HE.out.1 HE.out.2.1 (by rw [HE.out.2.2.2]; exact HE.out.2.2.1) H3.out.2.2.2.2.2.2 (by rw [HE.out.2.2.2]; exact H5.out.2.2.2.2.2)
      obtain ⟨V6, hV6, hvb6, hcl6⟩ := two_clists w5 A4 A6 k4 k6 X Z H5.out.2.1 H5.out.2.2.2.1
      have z6 := Lib.hid (there_merge (some ⟨w5.heap.size, 0, none⟩) A4 A6 k4 k6 X Z V6 hcl6 H3.out.2.2.2.2.2.1 H5.out.2.2.2.2.1 (by omega) hmg)
      have H6 := Lib.hid (And.intro (H5.out.1.trans (hvb6.mono H5.out.1.size)) (H5.out.2.2.1.keep hvb6))
      clear hvb6 hcl6 hmg hab y1 y2 y3
      go_wp2_with fail
      rw [← hV6]
      clear hV6
      refine z6.out.mono ?_
      rintro _ w7 ⟨A7, k7, S, rfl, hpS, hcS, hoS, hnS, b7⟩
      have hsame := Lib.hid (same_yes A7 A5 k7 k5 S Y w7 hcS (H6.out.2.keep b7) hoS H4.out.2.2.2.2.2.1 hnS H4.out.2.2.2.2.2.2.2 (by rw [hpS]; exact H4.out.2.2.2.2.2.2.1.symm))
      have H7 := Lib.hid (H6.out.1.trans (b7.mono H6.out.1.size))
      clear hpS hcS hoS hnS b7 z6
      go_wp2_with fail
      refine hsame.out.mono ?_
      rintro _ w8 ⟨rfl, b8⟩
      have H8 := Lib.hid (H7.out.trans (b8.mono H7.out.size))
      clear b8
      go_wp2_with fail
      go_ret
      exact ⟨rfl, H8.out⟩
end Go.Proofs.Ytpfjeibhklacbaa
