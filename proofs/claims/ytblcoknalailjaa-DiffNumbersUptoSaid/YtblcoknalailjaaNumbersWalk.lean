/- DiffNumbers returns true. -/
import Derived.Test.YtblcoknalailjaaSmLives
import Derived.Test.YtblcoknalailjaaNumFacts
import Derived.Deep.RegionLaw
import Derived.IntWalk
namespace Go.Proofs.Ytblcoknalailjaa
open Go Go.RowKit

theorem ints_news {l : List Int} {k : Nat} (h : k < l.length) : ∃ n, l[k]? = some n := ⟨_, List.getElem?_eq_getElem h⟩
set_option maxRecDepth 100000 in
set_option maxHeartbeats 6400000 in
theorem numbers_walk (A : Option Addr) (c : Nat) (l : List Int) (n : Int) (m : Int) (w : World) (hl : Ints w w.heap.size A l) (hc : l.length ≤ c) (hbl : l.length ≤ 1048576) (hm : c ≤ maxLen) (hs : Fit64 l)
    (h1 : -9223372036854775808 ≤ n) (h2 : n ≤ 9223372036854775807) (h3 : 0 ≤ m) (h4 : m ≤ 255) (_ : l.length ≤ 1048576) :
    Calls Try.prog 4 #[.slice A l.length c, .int .i64 n, .int .u8 m] w fun e w' => e = .returned (.bool true) ∧ Below w.heap.size w w' := by
  obtain ⟨i0, hi, hz0, hz1, hz2⟩ := info_parts infoI64
  have hU := Try.underlying22
  have y0 := fun W => Lib.hid (sums_true W)
  have y1 := fun W h => Lib.hid (sum_any A c l W h (Nat.le_trans hc hm) hs)
  have y2 := fun B k W h => Lib.hid (sum_any B k (turnedL l 0) W h (by rw [turned_len]; unfold maxLen; omega) (turned_fit hs 0))
  have y3 := fun B k W h => Lib.hid (sum_any B k (bothL l 0) W h (by have := both_len l 0; unfold maxLen; omega) (both_fit hs 0))
  rw [turned_sum] at y2
  rw [both_sum] at y3
  obtain ⟨q, hq⟩ : ∃ q : Nat, m % 20 = (q : Int) := ⟨(m % 20).toNat, by omega⟩
  have hq20 : q < 20 := by omega
  have y4 := fun B k W h => Lib.hid (sum_any B k (List.replicate q n) W h (by rw [List.length_replicate]; unfold maxLen; omega) (fun x hx => by rw [List.eq_of_mem_replicate hx]; exact ⟨h1, h2⟩))
  have y5 := fun W => Lib.hid (dtimes_any n (q : Int) W h1 h2 (by omega) (by omega))
  rw [many_sum] at y4
  simp only [List.length_replicate] at y4
  generalize l.sum = S at *
  generalize n * (q : Int) = Q at *
  have e0 : fitN 0 = 0 ∧ fitE 0 = 0 := by decide
  rw [e0.1, e0.2] at y3
  have Hl := Lib.hid hl
  have HB := Lib.hid hs
  clear hl hs h1 h2 hc hm e0
  go_enter Try.func4, Try.ntmps4
  go_wp2_with fail
  refine (y0 _).out.mono ?_
  rintro e w1 ⟨rfl, b1⟩
  have H1 := Lib.hid b1
  clear b1
  go_wp2_with fail
  go_loopw [7, 8, 9] (fun v y i wr => ∃ k : Nat, i = .int .i64 ((k : Int) - 1) ∧ k ≤ l.length ∧ wr.ownsRow w.heap.size 2 1 v (turnedL l k).length ((turnedL l k).map cellI) ∧ wr.ownsRow w.heap.size 2 1 y (bothL l k).length ((bothL l k).map cellI) ∧ Sep v y ∧ Below w.heap.size w wr)
    (fun _ _ i _ => (intOf i + 1).toNat)
  case atStart => exact ⟨l.length, rfl, by omega, by rw [(turned_end l).1]; exact World.ownsRow_nil _ _ _ _, by rw [(turned_end l).2]; exact World.ownsRow_nil _ _ _ _, Sep.nil_ _, H1.out⟩
  case round =>
    obtain ⟨k, rfl, hk, hv, hy, hs, hb⟩ := hrel
    cases k with
    | succ j =>
      rw [show (((j + 1 : Nat) : Int) - 1) = (j : Int) by omega]
      have hjl : j < l.length := by omega
      obtain ⟨x, hx⟩ := ints_news hjl
      obtain ⟨b, o, rfl, hB, hcell⟩ := Hl.out (by omega)
      have c0 := (hb.cell (p := ⟨b, o + j, none⟩) hB).trans (hcell j x hx)
      have HV := Lib.hid (hcell j x hx)
      have f1 := turned_step hx
      have f2 := both_step hx
      obtain ⟨n1, e1⟩ : ∃ n, (turnedL l (j + 1)).length = n := ⟨_, rfl⟩
      obtain ⟨n2, e2⟩ : ∃ n, (bothL l (j + 1)).length = n := ⟨_, rfl⟩
      obtain ⟨F, e3⟩ : ∃ F, (turnedL l (j + 1)).map cellI = F := ⟨_, rfl⟩
      obtain ⟨G, e4⟩ : ∃ G, (bothL l (j + 1)).map cellI = G := ⟨_, rfl⟩
      have b1 : n1 ≤ 1048576 := by rw [← e1, turned_len]; omega
      have b2 : n2 ≤ 2097152 := by rw [← e2]; have := both_len l (j + 1); omega
      rw [e1, e3] at hv
      rw [e2, e4] at hy
      have hfx := HB.out x (List.mem_of_getElem? hx)
      have HN := Lib.hid (And.intro e1 (And.intro e2 (And.intro e3 e4)))
      have HH := Lib.hid (And.intro hb (And.intro hv (And.intro hy (And.intro hs (And.intro f1 f2)))))
      clear e1 e2 e3 e4 hb hv hy hs f1 f2 hx hcell
      go_wp2_with (at_builtin; refine wpList_push _ rfl _ _ 22 rfl w.heap.size 2 i0 _ 1 8 hU hi hz0 hz1 hz2 rfl (by decide) _ _ _ rfl HH.out.2.1 #[.int .i64 x] rfl rfl ?c1 ?c2 ?c3 ?c4 ?_)
      case c1 => rfl
      case c2 => unfold maxLen; omega
      case c3 => omega
      case c4 => exact HH.out.1.size
      intro v' w' ho' hb' hv' hg'
      have d0 := ((HH.out.1.trans hb').cell (p := ⟨b, o + j, none⟩) hB).trans HV.out
      have hb2 := HH.out.1.trans hb'
      have hlt : b < w'.heap.size := by have := hb2.size; omega
      have H2 := Lib.hid (And.intro ho' (And.intro hb2 (And.intro (HH.out.2.2.1.kept hg' HH.out.2.2.2.1.kept) (HH.out.2.2.2.1.pushed (fun b hb => (HH.out.2.2.1.lt b hb).2) hv'))))
      clear ho' hb' hv' hg' hb2 c0
      by_cases hbig : -9223372036854775807 < x
      · have t1 : decide (-9223372036854775807 < x) = true := by simpa using hbig
        have ew : IntKind.i64.wrap (-x) = -x := IntWalk.i64_in _ (by omega)
        have dp : ∀ p : Past w', p.w.cell? ⟨b, o + j, none⟩ = some (.int .i64 x) := fun p => (p.h.cell (p := ⟨b, o + j, none⟩) hlt).trans d0
        have HG := Lib.hid hbig
        clear hbig hfx
        go_wp2_with fail
        have hz := H2.out.2.1.size
        go_region_law (refine step_append_lies (size := 1) (cells := fun n => [cellI n]) (l := [x, -x]) (B := w'.heap.size + 1) _ rfl (.tmp 43) (.tmp 53) 22 2 rfl i0 _ 8 hU hi hz0 hz1 hz2 rfl (by decide) (fun _ => rfl) (fun _ _ h => by simp at h; rw [h]; rfl) w.heap.size u8 n2 G rfl (H2.out.2.2.1.alloc _).drew 2 w'.heap.size 0 (by simp [Act.eval, Act.put]) (lies_pair _ _ (by simp [go_sem]) (by simp [go_sem])) (by unfold maxLen; simp; omega) (by simp; omega) (by simp; omega) ?_; intro v2 w2 ho2 hb2 hv2 hg2)
        all_goals
          have H3 := Lib.hid (And.intro ho2 (And.intro hb2 (And.intro hv2 hg2)))
          clear ho2 hb2 hv2 hg2
          go_wp2_with fail
          go_roundw
          case rel =>
            obtain ⟨hb, hv, hy, hs, f1, f2⟩ := HH.out
            obtain ⟨ho', hbw, hy', hs'⟩ := H2.out
            obtain ⟨ho2, hb2, hv2, hg2⟩ := H3.out
            refine ⟨j, rfl, by omega, ?_⟩
            rw [f1, f2, if_pos HG.out]
            exact ⟨own_snoc ((ho'.alloc _).drew.kept hg2 hs'.symm.kept) HN.out.2.2.1 HN.out.1, own_app ho2 HN.out.2.2.2 HN.out.2.1, (hs'.symm.pushed (N := w'.heap.size) (fun b hb => (ho'.lt b hb).2) (by simpa using hv2)).symm, ((hbw.alloc hbw.size _).drew).trans hb2⟩
          case measure => (simp [intOf]) <;> omega
      · have t1 : decide (-9223372036854775807 < x) = false := by simpa using hbig
        have HG := Lib.hid hbig
        clear hbig hfx
        go_wp2_with fail
        go_roundw
        case rel =>
          obtain ⟨hb, hv, hy, hs, f1, f2⟩ := HH.out
          obtain ⟨ho', hbw, hy', hs'⟩ := H2.out
          refine ⟨j, rfl, by omega, ?_⟩
          rw [f1, f2, if_neg HG.out, List.append_nil]
          exact ⟨own_snoc ho' HN.out.2.2.1 HN.out.1, by rw [HN.out.2.1, HN.out.2.2.2]; exact hy', hs', hbw⟩
        case measure => (simp [intOf]) <;> omega
    | zero =>
      obtain ⟨A7, c7, rfl, _, _, t7⟩ := ints_of_own rfl hv
      obtain ⟨A8, c8, rfl, _, _, t8⟩ := ints_of_own rfl hy
      have H7 := Lib.hid (And.intro hb (And.intro t7 t8))
      clear hv hy hs hb t7 t8
      obtain ⟨wo, rfl⟩ : ∃ wo : World, wo = wr := ⟨_, rfl⟩
      rw [show (((0 : Nat) : Int) - 1) = -1 by omega]
      go_wp2_with fail
      refine (y1 _ ((Hl.out.past H7.out.1 (Nat.le_refl _)).wide H7.out.1.size)).out.mono ?_
      rintro e w3 ⟨rfl, b3⟩
      have B3 := Lib.hid b3
      clear b3
      go_wp2_with fail
      refine (y2 A7 c7 _ (ints_keep H7.out.2.1 B3.out)).out.mono ?_
      rintro e w4 ⟨rfl, b4⟩
      have B4 := Lib.hid (belows B3.out b4)
      clear b4
      go_wp2_with fail
      refine (y3 A8 c8 _ (ints_keep H7.out.2.2 B4.out)).out.mono ?_
      rintro e w5 ⟨rfl, b5⟩
      have B5 := Lib.hid (H7.out.1.trans ((belows B4.out b5).mono H7.out.1.size))
      clear b5
      have t20 : m.tmod 20 = (q : Int) := by rw [← hq]; exact Int.tmod_eq_emod_of_nonneg h3
      go_wp2_with fail
      go_loopw [16, 17] (fun v i wr => ∃ k : Nat, i = .int .u8 (k : Int) ∧ k ≤ q ∧ wr.ownsRow w.heap.size 2 1 v (List.replicate k n).length ((List.replicate k n).map cellI) ∧ Below w.heap.size w wr)
        (fun _ i _ => q - (intOf i).toNat)
      case atStart => exact ⟨0, rfl, by omega, World.ownsRow_nil _ _ _ _, B5.out⟩
      case round =>
        obtain ⟨k, rfl, hk, hv, hb⟩ := hrel
        by_cases hlt : k < q
        · have tl : decide ((k : Int) < (q : Int)) = true := by simp; omega
          have e1 : (List.replicate k n).length = k := List.length_replicate
          rw [e1] at hv
          have hrp : List.replicate (k + 1) n = List.replicate k n ++ [n] := by rw [List.replicate_succ']
          have HH := Lib.hid (And.intro hb (And.intro hv (And.intro hrp e1)))
          obtain ⟨F, hF⟩ : ∃ F, (List.replicate k n).map cellI = F := ⟨_, rfl⟩
          rw [hF] at hv
          have HV := Lib.hid (And.intro hv hF)
          clear hb hv hrp e1 hF
          go_wp2_with (at_builtin; refine wpList_push _ rfl _ _ 22 rfl w.heap.size 2 i0 _ 1 8 hU hi hz0 hz1 hz2 rfl (by decide) _ _ _ rfl HV.out.1 #[.int .i64 n] rfl rfl ?c6 ?c7 ?c8 ?c9 ?_)
          case c6 => rfl
          case c7 => unfold maxLen; omega
          case c8 => omega
          case c9 => exact HH.out.1.size
          intro v' w' ho' hb' _ _
          have H9 := Lib.hid (And.intro ho' hb')
          clear ho' hb'
          go_wp2_with fail
          go_roundw
          case rel =>
            obtain ⟨hb, hv, hrp, e1⟩ := HH.out
            refine ⟨k + 1, by go_num, by omega, ?_, hb.trans H9.out.2⟩
            rw [hrp]
            exact own_snoc H9.out.1 HV.out.2 e1
          case measure => (simp [intOf]) <;> omega
        · have tl : decide ((k : Int) < (q : Int)) = false := by simp; omega
          have hkq : k = q := by omega
          subst hkq
          obtain ⟨A9, c9, rfl, _, _, t9⟩ := ints_of_own rfl hv
          have H9 := Lib.hid (And.intro hb t9)
          clear hv hb t9
          obtain ⟨wp, rfl⟩ : ∃ wp : World, wp = wr := ⟨_, rfl⟩
          go_wp2_with fail
          refine (y4 A9 c9 _ H9.out.2).out.mono ?_
          rintro e w6 ⟨rfl, b6⟩
          have B6 := Lib.hid b6
          clear b6
          go_wp2_with fail
          refine (y5 _).out.mono ?_
          rintro e w7 ⟨rfl, b7⟩
          have B7 := Lib.hid b7
          clear b7
          go_wp2_with fail
          go_ret
          exact ⟨rfl, H9.out.1.trans ((belows B6.out B7.out).mono H9.out.1.size)⟩
end Go.Proofs.Ytblcoknalailjaa
