/- Facts and contracts on which BatchAsks rests besides. -/
import Derived.Test.YtbccdmpnojdldaaGreatBatchStepsM9
import Derived.Handy
import Derived.Tactics2
import Derived.Orders
import Derived.RegionTactic
import Derived.Deep.Cut
import Derived.Deep.RegionLaw
import Derived.Deep.CutBlock
import Derived.Deep.Onto
import Derived.Deep.QuietTactic
import Derived.BigQuiet
import Derived.Deep.RegionHeld3
namespace Go.Proofs.YtbccdmpnojdldaaGreat
open Go Go.RowKit

set_option maxRecDepth 100000 in
set_option maxHeartbeats 400000 in
theorem rows_any (A A' : Option Addr) (c c' : Nat) (l m : List Vl) (w : World) (hl : Vals w w.heap.size A l) (hm : Vals w w.heap.size A' m) (hn : l.length ≤ maxLen) (hn' : m.length ≤ maxLen) :
    Calls Tryz.prog 54 #[.slice A l.length c, .slice A' m.length c'] w fun e w' => e = .returned (.int .i64 (cmpRows l m)) ∧ Below w.heap.size w w' := by
  have hcall := Lib.hid (cmpFunc_any A A' c c' l m w hl hm hn hn')
  clear hl hm
  generalize cmpRows l m = r at *
  go_enter Tryz.func54, Tryz.ntmps54
  go_wp2_with fail
  refine hcall.out.mono ?_
  rintro e w1 ⟨rfl, h1⟩
  go_wp2_with fail
  go_ret
  exact ⟨rfl, h1⟩

set_option maxRecDepth 100000 in
set_option maxHeartbeats 1600000 in
theorem refRows_any (A A' : Option Addr) (c c' : Nat) (l m : List Vl) (w : World) (hl : Vals w w.heap.size A l) (hm : Vals w w.heap.size A' m) (hn : l.length ≤ maxLen) (hn' : m.length ≤ maxLen) :
    Calls Tryz.prog 55 #[.slice A l.length c, .slice A' m.length c'] w fun e w' => e = .returned (.int .i64 (cmpRows l m)) ∧ Below w.heap.size w w' := by
  unfold maxLen at hn hn'
  have Hl := Lib.hid (And.intro hl hm)
  clear hl hm
  have hcmp := fun x y W => Lib.hid (vrefCompare_any x y W)
  unfold Vl.val at hcmp
  go_enter Tryz.func55, Tryz.ntmps55
  go_wp2_with fail
  go_loopw [5] (fun i wr => ∃ k : Nat, i = .int .i64 (k : Int) ∧ k ≤ l.length ∧ k ≤ m.length ∧ Below w.heap.size w wr ∧ ∀ (j : Nat) (x y : Vl), j < k → l[j]? = some x → m[j]? = some y → x.cmp y = 0)
    (fun i _ => l.length - (intOf i).toNat)
  case atStart => exact ⟨0, rfl, by omega, by omega, Below.refl _ _, fun j x y hj => absurd hj (by omega)⟩
  case round =>
    obtain ⟨k, rfl, hk, hk', hb, hs⟩ := hrel
    by_cases hlt : k < l.length
    · have t1 : decide (k < l.length) = true := by simpa using hlt
      by_cases hltm : k < m.length
      · have t2 : decide (k < m.length) = true := by simpa using hltm
        have hx : l[k]? = some l[k] := List.getElem?_eq_getElem hlt
        have hy : m[k]? = some m[k] := List.getElem?_eq_getElem hltm
        obtain ⟨b, o, rfl, hB, hl⟩ := Hl.out.1 (by omega)
        obtain ⟨b', o', rfl, hB', hm⟩ := Hl.out.2 (by omega)
        have hl' := (hl k _ hx).past hb hB
        have hm' := (hm k _ hy).past hb hB'
        have hB2 : b < wr.heap.size := by have := hb.size; omega
        have hB3 : b' < wr.heap.size := by have := hb.size; omega
        obtain ⟨c0, c1, c2⟩ := past_vl hl' hB2
        obtain ⟨d0, d1, d2⟩ := past_vl hm' hB3
        have hat := fun h => cmpRows_at hs hx hy h
        have q0 : (0 : Int) ≤ (k : Int) := by omega
        have q1 : (k : Int) < (l.length : Int) := by omega
        have q2 : (k : Int) < (m.length : Int) := by omega
        generalize l[k] = x at *
        generalize m[k] = y at *
        have hcall := fun P : Past wr => hcmp x y P.w
        have HH := Lib.hid (And.intro hb (And.intro hs (And.intro hx (And.intro hy hat))))
        clear hb hs hx hy hl hm hl' hm' hat hcmp
        by_cases hz : x.cmp y = 0
        · simp only [hz] at hcall
          have HZ := Lib.hid hz
          clear hz
          go_wp2_with fail
          refine wp_region_past wr (by kernel_rfl) (by kernel_rfl) (Below.refl _ _) ?_
          repeat (quiet_step ((go_at_call 92; exact calls_past (hcall _).out)))
          refine wpQuiet_nil ?_
          intro _ hw'
          obtain ⟨⟨wz, hbz⟩, hw''⟩ := hw'
          subst hw''
          have H1 := Lib.hid hbz
          clear hbz
          go_wp2_with fail
          obtain ⟨hb, hs, hx, hy, hat⟩ := HH.out
          go_roundw
          case rel =>
            refine ⟨k + 1, by go_num, by omega, by omega, hb.trans (H1.out.mono hb.size), fun j u v hj hu hv => ?_⟩
            by_cases hjk : j = k
            · subst hjk
              rw [hx] at hu; rw [hy] at hv
              injection hu with hu; injection hv with hv
              subst hu hv
              exact HZ.out
            · exact hs j u v (by omega) hu hv
          case measure => simp [intOf]; omega
        · have hzb : (x.cmp y != 0) = true := by simpa using hz
          have hrr := HH.out.2.2.2.2 hz
          generalize x.cmp y = r at hcall hzb hrr
          have HZ := Lib.hid hrr
          clear hz hrr
          go_wp2_with fail
          refine wp_region_past wr (by kernel_rfl) (by kernel_rfl) (Below.refl _ _) ?_
          repeat (quiet_step ((go_at_call 92; exact calls_past (hcall _).out)))
          refine wpQuiet_nil ?_
          intro _ hw'
          obtain ⟨⟨wz, hbz⟩, hw''⟩ := hw'
          subst hw''
          have H1 := Lib.hid hbz
          clear hbz
          go_wp2_with fail
          go_ret
          obtain ⟨hb, hs, hx, hy, hat⟩ := HH.out
          exact ⟨ret_i64 HZ.out.symm, hb.trans (H1.out.mono hb.size)⟩
      · have hkm : k = m.length := by omega
        have t2 : decide (k < m.length) = false := by simp; omega
        have t3 : decide (l.length < m.length) = false := by simp; omega
        have t4 : decide (m.length < l.length) = true := by simp; omega
        have hend := cmpRows_end hs (by omega) (by omega) (.inr hkm)
        rw [if_neg (by omega), if_pos (by omega)] at hend
        have HH := Lib.hid (And.intro hb hend)
        clear hb hs hend hkm
        go_wp2_with fail
        go_ret
        exact ⟨ret_i64 HH.out.2.symm, HH.out.1⟩
    · have hkl : k = l.length := by omega
      have t1 : decide (k < l.length) = false := by simp; omega
      have t3 : decide (m.length < l.length) = false := by simp; omega
      have hend := cmpRows_end hs (by omega) (by omega) (.inl hkl)
      rw [if_neg (show ¬ m.length < l.length by omega)] at hend
      have HH := Lib.hid (And.intro hb (And.intro hend hkl))
      clear hb hs hend
      by_cases hlm : l.length < m.length
      · have q1 : decide (l.length < m.length) = true := by simpa using hlm
        have HE := Lib.hid hlm
        clear hlm hkl
        go_wp2_with fail
        go_ret
        exact ⟨ret_i64 (by rw [HH.out.2.1, if_pos HE.out]), HH.out.1⟩
      · have q1 : decide (l.length < m.length) = false := by simpa using hlm
        have HE := Lib.hid hlm
        clear hlm hkl
        go_wp2_with fail
        go_ret
        exact ⟨ret_i64 (by rw [HH.out.2.1, if_neg HE.out]), HH.out.1⟩
end Go.Proofs.YtbccdmpnojdldaaGreat
namespace Go.Proofs.YtbccdmpnojdldaaGreat
open Go Go.RowKit

set_option maxRecDepth 100000 in
set_option maxHeartbeats 800000 in
theorem refCompare_any (s t : Tm) (w : World) :
    Calls Tryz.prog 115 #[s.val, t.val] w fun e w' => e = .returned (.int .i64 (s.cmp t)) ∧ Below w.heap.size w w' := by
  obtain ⟨a, b, c⟩ := s
  obtain ⟨x, y, z⟩ := t
  unfold Tm.val
  dsimp only
  have i0 : ∀ w, (Instr.index 56 (.agg #[.int .u64 (b : Int), .int .u64 (c : Int)]) (.int .i64 0)).run Tryz.prog w = .ok (.int .u64 (b : Int)) w := fun _ => by kernel_rfl
  have i1 : ∀ w, (Instr.index 56 (.agg #[.int .u64 (b : Int), .int .u64 (c : Int)]) (.int .i64 1)).run Tryz.prog w = .ok (.int .u64 (c : Int)) w := fun _ => by kernel_rfl
  have HB := Lib.hid (fun (o1 o2 : Obj) => (((Below.refl w.heap.size w).alloc (Nat.le_refl _) o1).alloc (by simp) o2))
  go_enter Tryz.func115, Tryz.ntmps115
  go_wp2_with fail
  all_goals try (go_rounds 3)
  all_goals
    go_ret
    refine ⟨ret_i64 ?_, HB.out _ _⟩
    unfold Tm.cmp Tm.cmpN
    dsimp only
    repeat' split
    all_goals first | rfl | omega | (simp_all; done) | (simp_all; omega)
end Go.Proofs.YtbccdmpnojdldaaGreat
namespace Go.Proofs.YtbccdmpnojdldaaGreat
open Go Go.RowKit

set_option maxRecDepth 100000 in
set_option maxHeartbeats 3200000 in
theorem rcompare_any (a b : Up) (w : World) (ha : UIn w w.heap.size a) (hb : UIn w w.heap.size b) (oa : UOk a) (ob : UOk b) :
    Calls Tryz.prog 83 #[a.val, b.val] w fun e w' => e = .returned (.int .i64 (a.k.cmp b.k)) ∧ Below w.heap.size w w' := by
  have y1 := fun W h1 h2 => Lib.hid (refRows_any a.kA b.kA a.kc b.kc a.key b.key W h1 h2 (maxn oa.kn) (maxn ob.kn))
  have y2 := fun W h1 h2 => Lib.hid (refRows_any a.rA b.rA a.rc b.rc a.row b.row W h1 h2 (maxn oa.rn) (maxn ob.rn))
  have y3 := fun W => Lib.hid (refCompare_any a.t b.t W)
  have hc := Lib.hid (show a.k.cmp b.k = if cmpRows a.key b.key = 0 then (if cmpRows a.row b.row = 0 then a.t.cmp b.t else cmpRows a.row b.row) else cmpRows a.key b.key from rfl)
  obtain ⟨W, hW, hg, o1, o2⟩ := two_box w a b
  have HB := Lib.hid (And.intro hg.below (And.intro o1 (And.intro o2 (And.intro (ha.keep hg.below) (hb.keep hg.below)))))
  obtain ⟨a0, a1, a2, a3, a4, a5⟩ := own6 o1
  obtain ⟨b0, b1, b2, b3, b4, b5⟩ := own6 o2
  generalize cmpRows a.key b.key = x at *
  generalize cmpRows a.row b.row = y at *
  generalize a.t.cmp b.t = z at *
  unfold Tm.val at y3
  have hav : a.val = .agg #[.slice a.kA a.key.length a.kc, .slice a.rA a.row.length a.rc, .int .u64 (a.t.e : Int), .int .u64 (a.t.a : Int), .int .u64 (a.t.b : Int), .int .i64 a.d] := rfl
  have hbv : b.val = .agg #[.slice b.kA b.key.length b.kc, .slice b.rA b.row.length b.rc, .int .u64 (b.t.e : Int), .int .u64 (b.t.a : Int), .int .u64 (b.t.b : Int), .int .i64 b.d] := rfl
  rw [hav, hbv]
  clear hav hbv ha hb oa ob hg o1 o2
  go_enter Tryz.func83, Tryz.ntmps83
  go_upto_region 1 with fail
  rw [← hW]
  clear hW
  go_wp2_with fail
  refine (y1 _ HB.out.2.2.2.1.key HB.out.2.2.2.2.key).out.mono ?_
  rintro _ w1 ⟨rfl, g1⟩
  have H1 := Lib.hid (And.intro (HB.out.1.trans (g1.mono HB.out.1.size)) (And.intro (HB.out.2.1.past g1 HB.out.2.1.inside) (And.intro (HB.out.2.2.1.past g1 HB.out.2.2.1.inside) (And.intro (HB.out.2.2.2.1.keep g1) (HB.out.2.2.2.2.keep g1)))))
  clear g1 a0 a1 a2 a3 a4 a5 b0 b1 b2 b3 b4 b5 y1
  obtain ⟨a0, a1, a2, a3, a4, a5⟩ := own6 H1.out.2.1
  obtain ⟨b0, b1, b2, b3, b4, b5⟩ := own6 H1.out.2.2.1
  by_cases hx : x = 0
  case neg =>
    have t1 : (x == 0) = false := beq_eq_false_iff_ne.2 hx
    rw [if_neg hx] at hc
    clear hx
    go_wp2_with fail
    go_ret
    exact ⟨ret_i64 hc.out.symm, H1.out.1⟩
  rw [if_pos hx] at hc
  subst hx
  go_wp2_with fail
  refine (y2 _ H1.out.2.2.2.1.row H1.out.2.2.2.2.row).out.mono ?_
  rintro _ w2 ⟨rfl, g2⟩
  have H2 := Lib.hid (And.intro (H1.out.1.trans (g2.mono H1.out.1.size)) (And.intro (H1.out.2.1.past g2 H1.out.2.1.inside) (H1.out.2.2.1.past g2 H1.out.2.2.1.inside)))
  clear g2 a0 a1 a2 a3 a4 a5 b0 b1 b2 b3 b4 b5 y2
  obtain ⟨a0, a1, a2, a3, a4, a5⟩ := own6 H2.out.2.1
  obtain ⟨b0, b1, b2, b3, b4, b5⟩ := own6 H2.out.2.2
  by_cases hy : y = 0
  case neg =>
    have t1 : (y == 0) = false := beq_eq_false_iff_ne.2 hy
    rw [if_neg hy] at hc
    clear hy
    go_wp2_with fail
    go_ret
    exact ⟨ret_i64 hc.out.symm, H2.out.1⟩
  rw [if_pos hy] at hc
  subst hy
  go_wp2_with fail
  refine (y3 _).out.mono ?_
  rintro _ w3 ⟨rfl, g3⟩
  have H3 := Lib.hid (H2.out.1.trans (g3.mono H2.out.1.size))
  clear g3
  go_wp2_with fail
  go_ret
  exact ⟨ret_i64 hc.out.symm, H3.out⟩
/-- a slice of two rows -/
theorem rows_box (w : World) (u : Up) (hu : UIn w w.heap.size u) : ∃ V, V = w.alloc (.cells #[.slice u.kA u.key.length u.kc, .slice u.rA u.row.length u.rc] 35) ∧ Below w.heap.size w V ∧ V.cell? ⟨w.heap.size, 0, none⟩ = some (.slice u.kA u.key.length u.kc) ∧ V.cell? ⟨w.heap.size, 1, none⟩ = some (.slice u.rA u.row.length u.rc) ∧ UIn V V.heap.size u ∧ w.heap.size < V.heap.size := by
  have ho := Own.made w 35 [.slice u.kA u.key.length u.kc, .slice u.rA u.row.length u.rc]
  exact ⟨_, rfl, (Below.refl _ _).alloc (Nat.le_refl _) _, ho.at_ 0, ho.at_ 1, hu.keep ((Below.refl _ _).alloc (Nat.le_refl _) _), by simp⟩
theorem chkRow_four {l : List Vl} (h : chkRow l ≠ 0) : chkRow l = 4 := by
  unfold chkRow at *
  split at h
  · exact absurd rfl h
  · rename_i h1; rw [if_neg h1]
set_option maxRecDepth 100000 in
set_option maxHeartbeats 6400000 in
theorem rcheck_any (A : Option Addr) (c : Nat) (l : List Up) (w : World) (hl : Ups w w.heap.size A l) (hn : l.length ≤ 140737488351232) (hk : ∀ u ∈ l, UOk u) :
    Calls Tryz.prog 39 #[.slice A l.length c] w fun x w' => x = .returned (.int .i64 (chkUs l)) ∧ Below w.heap.size w w' := by
  have HL := Lib.hid (And.intro hl hk)
  clear hl hk
  go_enter Tryz.func39, Tryz.ntmps39
  go_wp2_with fail
  go_loopw [10] (fun i wr => ∃ k : Nat, i = .int .i64 (k : Int) ∧ k ≤ l.length ∧ Below w.heap.size w wr ∧ chkUs (l.take k) = 0) (fun i _ => l.length - (intOf i).toNat)
  case atStart => exact ⟨0, rfl, by omega, Below.refl _ _, rfl⟩
  case round =>
    obtain ⟨k, rfl, hk, hb, h0⟩ := hrel
    obtain ⟨wi, hwi⟩ : ∃ wi, wi = wr := ⟨_, rfl⟩
    subst hwi
    by_cases hlt : k < l.length
    · have hx : l[k]? = some l[k] := List.getElem?_eq_getElem hlt
      have hmem := List.mem_of_getElem? hx
      obtain ⟨b, o, rfl, hB, hxs⟩ := lies_up HL.out.1.head (by omega)
      have hxa := (hxs k _ hx).past_ hb hB
      have hin := ((HL.out.1.each_ _ hmem).past hb (Nat.le_refl _)).wide hb.size
      have hok := HL.out.2 _ hmem
      have hnx := chkUs_take hx h0
      have hbad := fun h => chkUs_bad hx h0 h
      generalize l[k] = u at *
      obtain ⟨c0, c1, c2, c3, c4, c5⟩ := hxa.six
      obtain ⟨V, hV, hvb, hvs, hvo⟩ := upbox wi u
      obtain ⟨V2, hV2, hvb2, g0, g1, hin2, hlt2⟩ := rows_box V u (hin.keep hvb)
      have hcu : chkU u = orI (chkRow u.key) (orI (chkRow u.row) (chk [u.t])) := rfl
      have y1 := fun W (h : Below V2.heap.size V2 W) => Lib.hid (vrefCheck_any u.kA u.kc u.key W (hin2.keep h).key (maxn hok.kn) (fun v hv => (hok.ks v hv).1))
      have y2 := fun W (h : Below V2.heap.size V2 W) => Lib.hid (vrefCheck_any u.rA u.rc u.row W (hin2.keep h).row (maxn hok.rn) (fun v hv => (hok.rs v hv).1))
      have HV := Lib.hid (And.intro (hb.trans ((hvb.trans (hvb2.mono hvb.size)).mono hb.size)) (And.intro (hvo.past hvb2 hvo.inside) (And.intro hnx (And.intro hbad (And.intro g0 (And.intro g1 (And.intro hcu (And.intro (chkRow_four (l := u.key)) (And.intro (chkRow_four (l := u.row)) (And.intro hlt2 hvs))))))))))
      obtain ⟨d0, d1, d2, d3, d4, d5⟩ := own6 hvo
      have q0 : (0 : Int) ≤ (k : Int) := by omega
      have q1 : (k : Int) < (l.length : Int) := by omega
      have q2 : decide ((k : Int) < (l.length : Int)) = true := decide_eq_true q1
      obtain ⟨K, hK⟩ : ∃ K, chkRow u.key = K := ⟨_, rfl⟩
      obtain ⟨R, hR⟩ : ∃ R, chkRow u.row = R := ⟨_, rfl⟩
      simp only [hK] at y1
      simp only [hR] at y2
      have HK := Lib.hid (And.intro hK hR)
      clear hx hmem hxs hxa hin hok hnx hbad hvb hvb2 hvo hin2 hb h0 hvs hcu g0 g1 hlt2 hK hR
      go_upto_region 4 with fail
      rw [← hV]
      clear hV c0 c1 c2 c3 c4 c5
      go_wp2_with fail
      rw [← hV2]
      clear hV2 d0 d1 d2 d3 d4 d5
      go_loopw [20] (fun v20 wx => ∃ i : Nat, v20 = .int .i64 (i : Int) ∧ i ≤ 2 ∧ Below V2.heap.size V2 wx ∧ (1 ≤ i → K = 0) ∧ (2 ≤ i → R = 0)) (fun v20 _ => 2 - (intOf v20).toNat)
      case atStart => exact ⟨0, rfl, by omega, Below.refl _ _, fun h => (by omega), fun h => (by omega)⟩
      case round =>
        obtain ⟨i, rfl, hi, hbi, hi1, hi2⟩ := hrel
        obtain ⟨wj, hwj⟩ : ∃ wj, wj = wr := ⟨_, rfl⟩
        subst hwj
        have g0 := (hbi.cell (p := ⟨V.heap.size, 0, none⟩) HV.out.2.2.2.2.2.2.2.2.2.1).trans HV.out.2.2.2.2.1
        have g1 := (hbi.cell (p := ⟨V.heap.size, 1, none⟩) HV.out.2.2.2.2.2.2.2.2.2.1).trans HV.out.2.2.2.2.2.1
        match i, hi, hi1, hi2 with
        | 0, _, _, _ =>
          have hcall := y1 wj hbi
          have HJ := Lib.hid hbi
          clear hbi
          go_wp2_with fail
          refine hcall.out.mono ?_
          rintro _ w1 ⟨rfl, b1⟩
          have H1 := Lib.hid (HJ.out.trans (b1.mono HJ.out.size))
          clear b1 hcall g0 g1
          by_cases hz : K = 0
          · have t1 : (K != 0) = false := by simp [hz]
            have HZ := Lib.hid hz
            clear hz
            go_wp2_with fail
            go_roundw
            case rel => exact ⟨1, rfl, by omega, H1.out, fun _ => HZ.out, fun h => (by omega)⟩
            case measure => simp [intOf]
          · have t1 : (K != 0) = true := bne_iff_ne.2 hz
            have h4 := HV.out.2.2.2.2.2.2.2.1 (by rw [HK.out.1]; exact hz)
            have hcu : chkU u = 4 := by rw [HV.out.2.2.2.2.2.2.1]; unfold orI; rw [if_neg (by rw [HK.out.1]; exact hz)]; exact h4
            have hr := Lib.hid ((HV.out.2.2.2.1 (by rw [hcu]; decide)).trans hcu)
            clear hz h4 hcu
            go_wp2_with fail
            go_ret
            exact ⟨ret_i64 hr.out.symm, HV.out.1.trans (H1.out.mono HV.out.1.size)⟩
        | 1, _, hi1, _ =>
          have hK0 := Lib.hid (hi1 (by omega))
          have hcall := y2 wj hbi
          have HJ := Lib.hid hbi
          clear hbi hi1
          go_wp2_with fail
          refine hcall.out.mono ?_
          rintro _ w1 ⟨rfl, b1⟩
          have H1 := Lib.hid (HJ.out.trans (b1.mono HJ.out.size))
          clear b1 hcall g0 g1
          by_cases hz : R = 0
          · have t1 : (R != 0) = false := by simp [hz]
            have HZ := Lib.hid hz
            clear hz
            go_wp2_with fail
            go_roundw
            case rel => exact ⟨2, rfl, by omega, H1.out, fun _ => hK0.out, fun _ => HZ.out⟩
            case measure => simp [intOf]
          · have t1 : (R != 0) = true := bne_iff_ne.2 hz
            have h4 := HV.out.2.2.2.2.2.2.2.2.1 (by rw [HK.out.2]; exact hz)
            have hcu : chkU u = 4 := by rw [HV.out.2.2.2.2.2.2.1]; unfold orI; rw [if_pos (HK.out.1.trans hK0.out), if_neg (by rw [HK.out.2]; exact hz)]; exact h4
            have hr := Lib.hid ((HV.out.2.2.2.1 (by rw [hcu]; decide)).trans hcu)
            clear hz h4 hcu
            go_wp2_with fail
            go_ret
            exact ⟨ret_i64 hr.out.symm, HV.out.1.trans (H1.out.mono HV.out.1.size)⟩
        | 2, _, hi1, hi2 =>
          have hcu : chkU u = chk [u.t] := by rw [HV.out.2.2.2.2.2.2.1]; unfold orI; rw [if_pos (HK.out.1.trans (hi1 (by omega))), if_pos (HK.out.2.trans (hi2 (by omega)))]
          have hvo := HV.out.2.1.past hbi HV.out.2.1.inside
          have htm := times_made wj u.t
          have hcall := Lib.hid (refCheck_any (some ⟨wj.heap.size, 0, none⟩) 1 [u.t] _ htm (by unfold maxLen; simp))
          have HJ := Lib.hid (And.intro (hbi.alloc hbi.size (.cells #[.int .u64 (u.t.e : Int), .int .u64 (u.t.a : Int), .int .u64 (u.t.b : Int)] 58)) hcu)
          obtain ⟨d0, d1, d2, d3, d4, d5⟩ := own6 hvo
          obtain ⟨Q, hQ⟩ : ∃ Q, chk [u.t] = Q := ⟨_, rfl⟩
          rw [hQ] at hcall
          have HQ := Lib.hid hQ
          clear hbi hvo htm hcu hi1 hi2 g0 g1 hQ
          go_wp2_with fail
          refine hcall.out.mono ?_
          rintro _ w1 ⟨rfl, b1⟩
          have H1 := Lib.hid (HJ.out.1.trans (b1.mono HJ.out.1.size))
          clear b1 hcall d0 d1 d2 d3 d4 d5
          by_cases hz : Q = 0
          · have t1 : (Q != 0) = false := by simp [hz]
            have HZ := Lib.hid hz
            clear hz
            go_wp2_with fail
            go_roundw
            case rel => exact ⟨k + 1, by go_num, by omega, HV.out.1.trans (H1.out.mono HV.out.1.size), by rw [HV.out.2.2.1, HJ.out.2, HQ.out, HZ.out]⟩
            case measure => simp [intOf]; omega
          · have t1 : (Q != 0) = true := bne_iff_ne.2 hz
            have hr := Lib.hid ((HV.out.2.2.2.1 (by rw [HJ.out.2, HQ.out]; exact hz)).trans (HJ.out.2.trans HQ.out))
            clear hz
            go_wp2_with fail
            go_ret
            exact ⟨ret_i64 hr.out.symm, HV.out.1.trans (H1.out.mono HV.out.1.size)⟩
        | i + 3, hi, _, _ => omega
    · have hk2 : k = l.length := by omega
      subst hk2
      rw [List.take_length] at h0
      have q2 : decide ((l.length : Int) < (l.length : Int)) = false := decide_eq_false (by omega)
      have HX := Lib.hid (And.intro h0 hb)
      clear h0 hb
      go_wp2_with fail
      go_ret
      exact ⟨ret_i64 HX.out.1.symm, HX.out.2⟩
end Go.Proofs.YtbccdmpnojdldaaGreat
namespace Go.Proofs.YtbccdmpnojdldaaGreat
open Go Go.RowKit

set_option maxRecDepth 100000 in
set_option maxHeartbeats 16000000 in
theorem reven_any (A : Option Addr) (c : Nat) (l : List Up) (w : World) (hl : Ups w w.heap.size A l) (hok : ∀ u ∈ l, UOk u) (hn : l.length ≤ 1099511627776) :
    Calls Tryz.prog 46 #[.slice A l.length c] w (Tells (EvenP l) w) := by
  have HL := Lib.hid (And.intro hl hok)
  clear hl hok
  go_enter Tryz.func46, Tryz.ntmps46
  go_wp2_with fail
  go_loopw [7] (fun v7 wr => ∃ j : Nat, v7 = .int .i64 (j : Int) ∧ j ≤ l.length ∧ Below w.heap.size w wr ∧ (∀ u ∈ l.take j, u.d ≠ 0) ∧ Srt Uk.cmp ((l.take j).map Up.p)) (fun v7 _ => l.length - (intOf v7).toNat)
  case atStart => exact ⟨0, rfl, by omega, Below.refl _ _, fun u hu => (by cases hu), List.Pairwise.nil⟩
  case round =>
    obtain ⟨j, rfl, hj, hbj, hnz, hsrt⟩ := hrel
    obtain ⟨wi, hwi⟩ : ∃ wi, wi = wr := ⟨_, rfl⟩
    subst hwi
    by_cases hjt : j < l.length
    · have hy : l[j]? = some l[j] := List.getElem?_eq_getElem hjt
      have hym := List.mem_of_getElem? hy
      generalize l[j] = u at *
      obtain ⟨b, o, rfl, hB, hys⟩ := lies_up HL.out.1.head (by omega)
      obtain ⟨e0, e1, e2, e3, e4, e5⟩ := ((hys j u hy).past_ hbj hB).six
      obtain ⟨V, hV, hvb, hvs, hvo⟩ := upbox wi u
      have hbV := hbj.trans (hvb.mono hbj.size)
      have hX := fun p : Past V => own6 (hvo.past p.h hvo.inside)
      have hnz2 : u.d ≠ 0 → ∀ x ∈ l.take (j + 1), x.d ≠ 0 := fun h x hx => by
        rw [List.take_add_one, hy] at hx
        rcases List.mem_append.1 hx with hx | hx
        · exact hnz x hx
        · obtain rfl : x = u := by simpa using hx
          exact h
      have HJ := Lib.hid (And.intro hbV (And.intro hy (And.intro hym (And.intro hnz2 hsrt))))
      have q0 : (0 : Int) ≤ (j : Int) := by omega
      have q1 : (j : Int) < (l.length : Int) := by omega
      have q2 : decide ((j : Int) < (l.length : Int)) = true := decide_eq_true q1
      by_cases hd : u.d = 0
      · have t1 : (u.d == 0) = true := beq_iff_eq.2 hd
        have HN := Lib.hid (fun h : EvenP l => h.1 u hym hd)
        clear hy hym hbj hnz hsrt hvb hvs hbV hnz2 hvo hd
        go_upto_region 4 with fail
        rw [← hV]
        clear hV e0 e1 e2 e3 e4 e5
        refine wp_region_past V (by kernel_rfl) (by kernel_rfl) (Below.refl _ _) ?_
        repeat (first | go_big_quiet_step (fail) | quiet_step (fail))
        refine wpQuiet_nil ?_
        intro wz hw'
        obtain ⟨⟨wy, hbz⟩, hw''⟩ := hw'
        dsimp only at hw''
        subst hw''
        have HZ := Lib.hid (HJ.out.1.trans (hbz.mono HJ.out.1.size))
        clear hbz
        go_wp2_with fail
        go_ret
        exact ⟨false, rfl, by simp only [Bool.false_eq_true, false_iff]; exact HN.out, HZ.out⟩
      have t1 : (u.d == 0) = false := beq_eq_false_iff_ne.2 hd
      have HD := Lib.hid hd
      cases j with
      | zero =>
        simp only [Nat.zero_mul, Nat.add_zero] at e0 e1 e2 e3 e4 e5
        have q3 : decide ((0 : Int) < ((0 : Nat) : Int)) = false := by decide
        clear hy hym hbj hnz hsrt hvb hvs hbV hnz2 hvo hd
        go_upto_region 4 with fail
        rw [← hV]
        clear hV e0 e1 e2 e3 e4 e5
        refine wp_region_past V (by kernel_rfl) (by kernel_rfl) (Below.refl _ _) ?_
        repeat (first | go_big_quiet_step (fail) | quiet_step (fail))
        refine wpQuiet_nil ?_
        intro wz hw'
        obtain ⟨⟨wy, hbz⟩, hw''⟩ := hw'
        dsimp only at hw''
        subst hw''
        have HZ := Lib.hid (HJ.out.1.trans (hbz.mono HJ.out.1.size))
        clear hbz
        go_wp2_with fail
        go_roundw
        case rel =>
          refine ⟨1, by go_num, by omega, HZ.out, HJ.out.2.2.2.1 HD.out, ?_⟩
          have : l.take (0 + 1) = [u] := by rw [List.take_add_one, HJ.out.2.1]; rfl
          rw [this]
          unfold Srt
          simp
        case measure => simp [intOf]; omega
      | succ i =>
        have hx : l[i]? = some (l[i]'(by omega)) := List.getElem?_eq_getElem _
        have hxm := List.mem_of_getElem? hx
        generalize (l[i]'(by omega)) = x at *
        have hxs := fun p : Past V => ((hys i x hx).past_ (hbV.trans (p.h.mono hbV.size)) hB).six
        have hin := fun (z : Up) (hz : z ∈ l) (p : Past V) => ((HL.out.1.each_ z hz).past (hbV.trans (p.h.mono hbV.size)) (Nat.le_refl _)).wide (Nat.le_trans hbV.size p.h.size)
        have u1 : ∀ p : Past V, Calls Tryz.prog 83 #[.agg #[.slice x.kA x.key.length x.kc, .slice x.rA x.row.length x.rc, .int .u64 (x.t.e : Int), .int .u64 (x.t.a : Int), .int .u64 (x.t.b : Int), .int .i64 x.d], .agg #[.slice u.kA u.key.length u.kc, .slice u.rA u.row.length u.rc, .int .u64 (u.t.e : Int), .int .u64 (u.t.a : Int), .int .u64 (u.t.b : Int), .int .i64 u.d]] p.w fun e w'' => e = .returned (.int .i64 (x.k.cmp u.k)) ∧ ∃ q : Past V, w'' = q.w := fun p =>
          calls_past ((rcompare_any x u p.w (hin x hxm p) (hin u hym p) (HL.out.2 x hxm) (HL.out.2 u hym)).mono fun e w' h => ⟨h.1, h.2⟩)
        obtain ⟨r, hr⟩ : ∃ r, x.k.cmp u.k = r := ⟨_, rfl⟩
        rw [hr] at u1
        have HX := Lib.hid (And.intro hx hr)
        have q3 : (0 : Int) ≤ (i : Int) := by omega
        have q4 : (i : Int) < (l.length : Int) := by omega
        have q5 : decide (((i + 1 : Nat) : Int) > 0) = true := decide_eq_true (by omega)
        have q5' : decide ((0 : Int) < (i : Int) + 1) = true := decide_eq_true (by omega)
        by_cases hr0 : r < 0
        · have t2 : decide (r ≥ 0) = false := decide_eq_false (by omega)
          have t2' : decide (0 ≤ r) = false := decide_eq_false (by omega)
          have HR0 := Lib.hid hr0
          clear hy hym hbj hnz hsrt hvb hvs hbV hnz2 hvo hd hx hxm hr hin hr0
          go_upto_region 4 with fail
          rw [← hV]
          clear hV e0 e1 e2 e3 e4 e5
          refine wp_region_past V (by kernel_rfl) (by kernel_rfl) (Below.refl _ _) ?_
          repeat (first | go_big_quiet_step (fail) | quiet_step (fail))
          quiet_step ((go_at_call 83; exact u1 _))
          repeat (first | go_big_quiet_step (fail) | quiet_step (fail))
          refine wpQuiet_nil ?_
          intro wz hw'
          obtain ⟨⟨wy, hbz⟩, hw''⟩ := hw'
          dsimp only at hw''
          subst hw''
          have HZ := Lib.hid (HJ.out.1.trans (hbz.mono HJ.out.1.size))
          clear hbz
          go_wp2_with fail
          go_roundw
          case rel => exact ⟨i + 1 + 1, by go_num, by omega, HZ.out, HJ.out.2.2.2.1 HD.out, srt_more HJ.out.2.2.2.2 HX.out.1 HJ.out.2.1 (by rw [HX.out.2]; exact HR0.out)⟩
          case measure => simp [intOf]; omega
        · have t2 : decide (r ≥ 0) = true := decide_eq_true (by omega)
          have t2' : decide (0 ≤ r) = true := decide_eq_true (by omega)
          have HR0 := Lib.hid hr0
          clear hy hym hbj hnz hsrt hvb hvs hbV hnz2 hvo hd hx hxm hr hin hr0
          go_upto_region 4 with fail
          rw [← hV]
          clear hV e0 e1 e2 e3 e4 e5
          refine wp_region_past V (by kernel_rfl) (by kernel_rfl) (Below.refl _ _) ?_
          repeat (first | go_big_quiet_step (fail) | quiet_step (fail))
          quiet_step ((go_at_call 83; exact u1 _))
          repeat (first | go_big_quiet_step (fail) | quiet_step (fail))
          refine wpQuiet_nil ?_
          intro wz hw'
          obtain ⟨⟨wy, hbz⟩, hw''⟩ := hw'
          dsimp only at hw''
          subst hw''
          have HZ := Lib.hid (HJ.out.1.trans (hbz.mono HJ.out.1.size))
          clear hbz
          go_wp2_with fail
          go_ret
          exact ⟨false, rfl, by simp only [Bool.false_eq_true, false_iff]; exact fun h => srt_not HX.out.1 HJ.out.2.1 (by rw [HX.out.2]; have := HR0.out; omega) h.2.1, HZ.out⟩
    · have hj2 : j = l.length := by omega
      have q2 : decide ((j : Int) < (l.length : Int)) = false := decide_eq_false (by omega)
      rw [hj2, List.take_length] at hnz hsrt
      have hcall := Lib.hid (rcheck_any A c l wi ((HL.out.1.past hbj (Nat.le_refl _)).wide hbj.size) (by omega) HL.out.2)
      obtain ⟨K, hK⟩ : ∃ K, chkUs l = K := ⟨_, rfl⟩
      rw [hK] at hcall
      have HJ := Lib.hid (And.intro hbj (And.intro hnz (And.intro hsrt hK)))
      clear hbj hnz hsrt hK
      go_wp2_with fail
      refine hcall.out.mono ?_
      rintro _ w9 ⟨rfl, b9⟩
      have H9 := Lib.hid (HJ.out.1.trans (b9.mono HJ.out.1.size))
      clear b9 hcall
      go_wp2_with fail
      go_ret
      exact ⟨K == 0, rfl, ⟨fun h => ⟨HJ.out.2.1, HJ.out.2.2.1, HJ.out.2.2.2.trans (beq_iff_eq.1 h)⟩, fun h => beq_iff_eq.2 (HJ.out.2.2.2.symm.trans h.2.2)⟩, H9.out⟩
end Go.Proofs.YtbccdmpnojdldaaGreat
namespace Go.Proofs.YtbccdmpnojdldaaGreat
open Go Go.RowKit

def wideV (S : Int) : Value := .agg #[.int .i64 (S / 18446744073709551616), .int .u64 (loW S)]
set_option maxRecDepth 100000 in
set_option maxHeartbeats 800000 in
theorem plus_any (S n : Int) (w : World) (h1 : -9223372036854775808 ≤ n) (h2 : n ≤ 9223372036854775807) (h3 : -85070591730234615865843651857942052864 ≤ S) (h4 : S < 85070591730234615865843651857942052864) :
    Calls Tryz.prog 84 #[.agg #[.int .i64 (S / 18446744073709551616), .int .u64 (loW S)], .int .i64 n] w fun e w' => e = .returned (.agg #[.int .i64 ((S + n) / 18446744073709551616), .int .u64 (loW (S + n))]) ∧ Below w.heap.size w w' := by
  have l0 := loW_bound S
  have e1 : IntKind.u64.wrap (loW S + IntKind.u64.wrap n) = loW (S + n) := by rw [wrapU, wrapU]; unfold loW; omega
  have q0 : 0 ≤ S / 18446744073709551616 + 4611686018427387904 := by omega
  have q1 : S / 18446744073709551616 < 4611686018427387904 := by omega
  have e2 : ((loW (S + n) < loW S ∧ n < 0 → (S + n) / 18446744073709551616 = S / 18446744073709551616) ∧ (loW (S + n) < loW S ∧ 0 ≤ n → (S + n) / 18446744073709551616 = S / 18446744073709551616 + 1)) ∧ ((loW S ≤ loW (S + n) ∧ n < 0 → (S + n) / 18446744073709551616 = S / 18446744073709551616 - 1) ∧ (loW S ≤ loW (S + n) ∧ 0 ≤ n → (S + n) / 18446744073709551616 = S / 18446744073709551616)) := by unfold loW; omega
  generalize S / 18446744073709551616 = H at *
  generalize (S + n) / 18446744073709551616 = H' at *
  generalize loW (S + n) = L at *
  generalize loW S = L0 at *
  have HE := Lib.hid e2
  clear e2
  go_enter Tryz.func84, Tryz.ntmps84
  go_wp2_with fail
  all_goals
    have e2 := HE.out
    exact bodyPost_ret (v := .agg #[.int .i64 H', .int .u64 L]) (by simp [results, Tryz.results84, go_sem]; omega) rfl ⟨rfl, ((Below.refl _ _).alloc (Nat.le_refl _) _).alloc (by simp) _⟩
set_option maxRecDepth 100000 in
set_option maxHeartbeats 800000 in
theorem fit_any (S : Int) (w : World) (h3 : -85070591730234615865843651857942052864 ≤ S) (h4 : S < 85070591730234615865843651857942052864) :
    Calls Tryz.prog 85 #[.agg #[.int .i64 (S / 18446744073709551616), .int .u64 (loW S)]] w fun e w' => e = .returned (.tuple #[.int .i64 (fitN S), .int .i64 (fitE S)]) ∧ Below w.heap.size w w' := by
  obtain ⟨l1, l2⟩ := loW_bound S
  have e0 : wrap64 (loW S) = sg (loW S) := wrapS _ l1 l2
  have hs := Lib.hid (sg_lo S)
  have hs2 : S / 18446744073709551616 = 0 ∧ 0 ≤ sg (loW S) ∨ S / 18446744073709551616 = -1 ∧ sg (loW S) < 0 ↔ fits S = true := by
    rw [fits_iff]; unfold sg loW; split <;> omega
  have HS := Lib.hid hs2
  clear hs2 l1 l2
  go_enter Tryz.func85, Tryz.ntmps85
  go_wp2_with fail
  all_goals
    go_ret2
    refine ⟨?_, (Below.refl _ _).alloc (Nat.le_refl _) _⟩
    have hs2 := HS.out
    by_cases hf : fits S = true
    · have h6 := hs.out hf
      have h7 := hs2.2 hf
      first
      | (exfalso; omega)
      | (unfold fitN fitE; rw [hf, h6]; rfl)
    · have h7 := mt hs2.1 hf
      first
      | (exfalso; omega)
      | (unfold fitN fitE; simp [hf])
end Go.Proofs.YtbccdmpnojdldaaGreat
namespace Go.Proofs.YtbccdmpnojdldaaGreat
open Go Go.RowKit

section
variable {α K : Type} {cmp : K → K → Int} {k : α → K}
theorem lsplit_at {β : Type} {P : List β} {i : Nat} {y : β} (h : P[i]? = some y) : P = P.take i ++ y :: P.drop (i + 1) := by
  obtain ⟨hi, rfl⟩ := List.getElem?_eq_some_iff.1 h
  conv => lhs; rw [← List.take_append_drop i P, List.drop_eq_getElem_cons hi]
theorem ins_same (P : List (Ln α)) (i : Nat) (x : K × Int) (y : Ln α) (h : ∀ z ∈ P.take i, cmp (k z.u) x.1 < 0) (hy : P[i]? = some y) (h0 : cmp (k y.u) x.1 = 0) : (P.set i ⟨y.S + x.2, y.u⟩).map (pL k) = ins cmp x (P.map (pL k)) := by
  have hi := (List.getElem?_eq_some_iff.1 hy).1
  rw [List.set_eq_take_append_cons_drop, if_pos hi]
  conv => rhs; rw [lsplit_at hy]
  rw [List.map_append, List.map_append, ins_skip x _ _ fun z hz => by
    obtain ⟨p, hp, rfl⟩ := List.mem_map.1 hz
    exact h p hp]
  rw [List.map_cons, List.map_cons]
  show _ = (P.take i).map (pL k) ++ (if cmp (k y.u) x.1 = 0 then _ else _)
  rw [if_pos h0]
  rfl
theorem ins_new (P : List (Ln α)) (i : Nat) (u : α) (n : Int) (h : ∀ z ∈ P.take i, cmp (k z.u) (k u) < 0) (hy : ∀ y, P[i]? = some y → 0 < cmp (k y.u) (k u)) : (P.take i ++ ⟨n, u⟩ :: P.drop i).map (pL k) = ins cmp (k u, n) (P.map (pL k)) := by
  conv => rhs; rw [← List.take_append_drop i P]
  rw [List.map_append, List.map_append, ins_skip (k u, n) _ _ fun z hz => by
    obtain ⟨p, hp, rfl⟩ := List.mem_map.1 hz
    exact h p hp]
  congr 1
  cases hd : P.drop i with
  | nil => rfl
  | cons y t =>
    have hy0 : P[i]? = some y := by
      have := congrArg List.head? hd
      rw [List.head?_drop] at this
      exact this
    have h1 := hy y hy0
    rw [List.map_cons, List.map_cons]
    show _ = if cmp (k y.u) (k u) = 0 then _ else if cmp (k y.u) (k u) < 0 then _ else _
    rw [if_neg (by omega), if_neg (by omega)]
    rfl
theorem set_new {β : Type} (P : List β) (i : Nat) (hi : i ≤ P.length) (y z : β) : (P.take i ++ y :: P.drop i).set i z = P.take i ++ z :: P.drop i := by
  rw [List.set_append_right _ _ (by rw [List.length_take]; omega), List.length_take, Nat.min_eq_left hi, Nat.sub_self]
  rfl
theorem get_new {β : Type} (P : List β) (i : Nat) (hi : i ≤ P.length) (y : β) : (P.take i ++ y :: P.drop i)[i]? = some y := by
  rw [List.getElem?_append_right (by rw [List.length_take]; omega), List.length_take, Nat.min_eq_left hi, Nat.sub_self]
  rfl
end
def wcells (S : Int) : List Value := [.int .i64 (S / 18446744073709551616), .int .u64 (loW S)]
theorem wcells_len (S : Int) : (wcells S).length = 2 := rfl
theorem wcells_one (S : Int) : ∀ v ∈ wcells S, v.oneCell' = true := by
  intro v hv
  simp only [wcells, List.mem_cons, List.not_mem_nil, or_false] at hv
  rcases hv with rfl | rfl <;> rfl
theorem wcells_zero : wcells 0 = [.int .i64 0, .int .u64 0] := by unfold wcells loW; rfl
theorem set_wide {X : List Int} {k : Nat} {S : Int} (h : X[k]? = some S) (n : Int) :
    ((X.flatMap wcells).set (k * 2 + 0) (.int .i64 (n / 18446744073709551616))).set (k * 2 + 1) (.int .u64 (loW n)) = (X.set k n).flatMap wcells := by
  rw [flat_change h, flat_part h, flat_sets (size := 2) wcells_len h _ rfl 0 _ (by decide), flat_sets (size := 2) wcells_len h _ rfl 1 _ (by decide)]
  rfl
theorem set_same {β : Type} {l : List β} {i : Nat} {x : β} (h : l[i]? = some x) : l.set i x = l := by obtain ⟨hi, rfl⟩ := List.getElem?_eq_some_iff.1 h; exact List.set_getElem_self hi
theorem asm_snoc {K : Type} {cmp : K → K → Int} (l : List (K × Int)) (x : K × Int) : asm cmp (l ++ [x]) = ins cmp x (asm cmp l) := by unfold asm asmF; rw [List.foldl_append]; rfl
end Go.Proofs.YtbccdmpnojdldaaGreat
namespace Go.Proofs.YtbccdmpnojdldaaGreat
open Go Go.RowKit

set_option maxRecDepth 100000 in
set_option maxHeartbeats 1600000 in
theorem vcopy_any (A : Option Addr) (c : Nat) (l : List Vl) (w : World) (hl : Vals w w.heap.size A l) (hn : l.length ≤ 1099511627776) :
    Calls Tryz.prog 94 #[.slice A l.length c] w fun x w' => ∃ A' c', x = .returned (.slice A' l.length c') ∧ Vals w' w'.heap.size A' l ∧ Below w.heap.size w w' ∧ (∀ b o, A' = some ⟨b, o, none⟩ → w.heap.size ≤ b ∧ b < w'.heap.size) := by
  have hr0 := Lib.hid (show (w.alloc (.cells #[] 63)).ownsRow w.heap.size 63 3 (.slice (some ⟨w.heap.size, 0, none⟩) 0 0) 0 [] from World.ownsRow_made w #[] 0 (Nat.le_refl _) (Nat.zero_le _) rfl)
  have hv := Lib.hid (hl.past ((Below.refl _ w).alloc (Nat.le_refl _) (.cells #[] 63)) (Nat.le_refl _))
  clear hl
  go_enter Tryz.func94, Tryz.ntmps94
  go_wp2_with (at_builtin; refine wpList_append_vl _ rfl _ _ rfl w.heap.size _ _ _ rfl hr0.out w.heap.size A c l rfl hv.out ?m1 ?m2 ?m3)
  case m1 => omega
  case m2 => simp
  intro v' w' ho' hb'
  have hlt := ho'.lt
  obtain ⟨A', c', rfl, _, _, h3⟩ := vals_of_own (l := l) (n := 0 + l.length) (by omega) (by simpa using ho')
  have HA := Lib.hid (And.intro h3 (And.intro (((Below.refl _ w).alloc (Nat.le_refl _) (.cells #[] 63)).trans hb') (show ∀ b o, A' = some ⟨b, o, none⟩ → w.heap.size ≤ b ∧ b < w'.heap.size from fun b o e => by subst e; exact hlt b rfl)))
  clear ho' hb' h3 hlt
  go_wp2_with fail
  go_ret
  exact ⟨A', c', rfl, HA.out.1, HA.out.2.1, HA.out.2.2⟩
theorem own_zeroth {w : World} {P : Nat} {t : TypeId} {z0 z1 z2 z3 z4 z5 : Value} (h : Own w P t [z0, z1, z2, z3, z4, z5]) (f : Value) :
    ∃ X, X = w.setCell ⟨P, 0, none⟩ f ∧ Own X P t [f, z1, z2, z3, z4, z5] ∧ (∀ B u, Below B u w → B ≤ P → Below B u X) ∧ X.heap.size = w.heap.size ∧ (∀ b, b ≠ P → X.heap[b]? = w.heap[b]?) :=
  ⟨_, rfl, h.set_ 0 f, fun B u hb hB => hb.setCell (p := ⟨P, 0, none⟩) hB _, by simp [World.setCell], fun b hb => Below.heap_setCell w ⟨P, 0, none⟩ f b hb⟩
theorem own_first {w : World} {P : Nat} {t : TypeId} {z0 z1 z2 z3 z4 z5 : Value} (h : Own w P t [z0, z1, z2, z3, z4, z5]) (f : Value) :
    ∃ X, X = w.setCell ⟨P, 1, none⟩ f ∧ Own X P t [z0, f, z2, z3, z4, z5] ∧ (∀ B u, Below B u w → B ≤ P → Below B u X) ∧ X.heap.size = w.heap.size ∧ (∀ b, b ≠ P → X.heap[b]? = w.heap[b]?) :=
  ⟨_, rfl, h.set_ 1 f, fun B u hb hB => hb.setCell (p := ⟨P, 1, none⟩) hB _, by simp [World.setCell], fun b hb => Below.heap_setCell w ⟨P, 1, none⟩ f b hb⟩
theorem vals_but {w X : World} {P : Nat} {A : Option Addr} {l : List Vl} (h : Vals w w.heap.size A l) (hA : ∀ b o, A = some ⟨b, o, none⟩ → b ≠ P) (hs : X.heap.size = w.heap.size) (hX : ∀ b, b ≠ P → X.heap[b]? = w.heap[b]?) : Vals X X.heap.size A l := fun hp => by
  obtain ⟨b, o, e, hb, hc⟩ := h hp
  have hk : ∀ j, X.cell? ⟨b, j, none⟩ = w.cell? ⟨b, j, none⟩ := fun j => by unfold World.cell?; rw [hX b (hA b o e)]
  refine ⟨b, o, e, by omega, fun i v hi => ?_⟩
  obtain ⟨a0, a1, a2⟩ := hc i v hi
  exact ⟨(hk _).trans a0, (hk _).trans a1, (hk _).trans a2⟩
def Copied (l : List Up) (w : World) (x : Ending) (w' : World) : Prop :=
  ∃ A c, ∃ outL : List Up, x = .returned (.slice A outL.length c) ∧ outL.map Up.p = l.map Up.p ∧ Ups w' w'.heap.size A outL ∧ (∀ u ∈ outL, UOk u) ∧ Below w.heap.size w w'
/-- the same, and that it is a row of the call's own -/
def CopiedOwn (l : List Up) (w : World) (x : Ending) (w' : World) : Prop :=
  ∃ v, ∃ outL : List Up, x = .returned v ∧ outL.map Up.p = l.map Up.p ∧ w'.ownsRow w.heap.size 60 6 v outL.length (outL.flatMap Up.cells) ∧ (∀ u ∈ outL, UIn w' w'.heap.size u ∧ UOk u ∧ Far w.heap.size v w' u) ∧ Below w.heap.size w w'
theorem copy_snoc {l outL : List Up} {j : Nat} {u u' : Up} (h : l[j]? = some u) (hm : outL.map Up.p = (l.take j).map Up.p) (e : u'.p = u.p) : (outL ++ [u']).map Up.p = (l.take (j + 1)).map Up.p := by
  rw [List.take_add_one, h, List.map_append, List.map_append, hm]
  simp [e]
theorem infoUp' : (Tryz.prog.info? 60).map (fun i => (i.zero, i.size, i.bytes)) = some (some (.agg #[.slice none 0 0, .slice none 0 0, .int .u64 0, .int .u64 0, .int .u64 0, .int .i64 0]), 6, 80) := by kernel_rfl
set_option maxRecDepth 100000 in
set_option maxHeartbeats 6400000 in
theorem copyU_own (A : Option Addr) (c : Nat) (l : List Up) (w : World) (hl : Ups w w.heap.size A l) (hok : ∀ u ∈ l, UOk u) (h8 : ∀ u ∈ l, u.key.length ≤ 1099511627776 ∧ u.row.length ≤ 1099511627776) (hn : l.length ≤ 1099511627776) :
    Calls Tryz.prog 59 #[.slice A l.length c] w (CopiedOwn l w) := by
  obtain ⟨i0, hi, hz0, hz1, hz2⟩ := info_parts infoUp'
  have HI := Lib.hid (And.intro Tryz.underlying24 (And.intro hi (And.intro hz0 (And.intro hz1 hz2))))
  have HL := Lib.hid (And.intro hl (And.intro hok h8))
  clear hl hok h8 hi hz0 hz1 hz2
  go_enter Tryz.func59, Tryz.ntmps59
  go_wp2_with fail
  go_loopw [3, 8] (fun v3 v8 wr => ∃ (j : Nat) (outL : List Up), v8 = .int .i64 (j : Int) ∧ j ≤ l.length ∧ outL.length = j ∧ wr.ownsRow w.heap.size 60 6 v3 outL.length (outL.flatMap Up.cells) ∧ (∀ u ∈ outL, UIn wr wr.heap.size u ∧ UOk u ∧ Far w.heap.size v3 wr u) ∧ outL.map Up.p = (l.take j).map Up.p ∧ Below w.heap.size w wr)
    (fun _ v8 _ => l.length - (intOf v8).toNat)
  case atStart => exact ⟨0, [], rfl, by omega, rfl, World.ownsRow_nil _ _ _ _, fun u hu => (by cases hu), rfl, Below.refl _ _⟩
  case round =>
    obtain ⟨j, outL, rfl, hj, hlen, hown, hout, hmap, hb⟩ := hrel
    obtain ⟨wi, hwi⟩ : ∃ wi, wi = wr := ⟨_, rfl⟩
    subst hwi
    by_cases hjt : j < l.length
    · have hy : l[j]? = some l[j] := List.getElem?_eq_getElem hjt
      have hym := List.mem_of_getElem? hy
      generalize l[j] = u at *
      obtain ⟨g, o, rfl, hB, hys⟩ := lies_up HL.out.1.head (by omega)
      obtain ⟨e0, e1, e2, e3, e4, e5⟩ := ((hys j u hy).past_ hb hB).six
      obtain ⟨V, hV, hvb, hvs, hvo⟩ := upbox wi u
      have hinV : UIn V V.heap.size u := ((((HL.out.1.each_ u hym).past hb (Nat.le_refl _)).wide hb.size).keep hvb)
      have h8 := HL.out.2.2 u hym
      have z1 := Lib.hid (vcopy_any u.kA u.kc u.key V hinV.key (by omega))
      have HV := Lib.hid (And.intro (hb.trans (hvb.mono hb.size)) (And.intro hvo (And.intro hinV (And.intro hy (And.intro (HL.out.2.1 u hym) (And.intro hvb hvs))))))
      have HO := Lib.hid (And.intro hown (And.intro hout (And.intro hmap (And.intro hb hlen))))
      have HW := Lib.hid (((HL.out.1.each_ u hym).past hb (Nat.le_refl _)).wide hb.size)
      have q3 : (0 : Int) ≤ (j : Int) := by omega
      have q4 : (j : Int) < (l.length : Int) := by omega
      have q5 : decide ((j : Int) < (l.length : Int)) = true := decide_eq_true q4
      clear hy hym hys hvb hvs hinV hown hout hmap hb
      go_upto_region 5 with fail
      rw [← hV]
      clear hV e0 e1 e2 e3 e4 e5
      obtain ⟨e0, e1, e2, e3, e4, e5⟩ := own6 hvo
      clear hvo
      go_wp2_with fail
      refine z1.out.mono ?_
      rintro _ w1 ⟨A1, k1, rfl, hv1, b1, hf1⟩
      have ho1 := HV.out.2.1.past b1 HV.out.2.1.inside
      obtain ⟨X1, hX1, hxo1, hxb1, hxs1, hxr1⟩ := own_zeroth ho1 (.slice A1 u.key.length k1)
      have hfz := (own_frozen6 ho1).1
      have hc0 := (own6 ho1).1
      have hbX1 : Below wi.heap.size wi X1 := hxb1 _ _ (HV.out.2.2.2.2.2.1.trans (b1.mono HV.out.2.2.2.2.2.1.size)) (Nat.le_refl _)
      have hrow1 : Vals X1 X1.heap.size u.rA u.row := (HW.out.row.past hbX1 (Nat.le_refl _)).wide hbX1.size
      have hne : ∀ b, V.heap.size ≤ b → b ≠ wi.heap.size := fun b h => by have := HV.out.2.2.2.2.2.2; omega
      have hkey1 := vals_but hv1 (fun b o e => hne b (hf1 b o e).1) hxs1 hxr1
      have z2 := Lib.hid (vcopy_any u.rA u.rc u.row X1 hrow1 (by omega))
      have H1 := Lib.hid (And.intro hbX1 (And.intro hxo1 (And.intro hkey1 (And.intro (fun b o (e : A1 = some ⟨b, o, none⟩) => (⟨(hf1 b o e).1, by rw [hxs1]; exact (hf1 b o e).2⟩ : V.heap.size ≤ b ∧ b < X1.heap.size)) hne))))
      clear hv1 b1 hf1 ho1 hxo1 hxb1 hxs1 hxr1 hbX1 hrow1 hne hkey1 e0 e1 e2 e3 e4 e5 z1
      go_upto_region 6 with fail
      rw [← hX1]
      clear hX1 hfz hc0
      obtain ⟨e0, e1, e2, e3, e4, e5⟩ := own6 H1.out.2.1
      go_wp2_with fail
      refine z2.out.mono ?_
      rintro _ w2 ⟨A2, k2, rfl, hv2, b2, hf2⟩
      have ho2 := H1.out.2.1.past b2 H1.out.2.1.inside
      obtain ⟨X2, hX2, hxo2, hxb2, hxs2, hxr2⟩ := own_first ho2 (.slice A2 u.row.length k2)
      have hfz := (own_frozen6 ho2).2.1
      have hc0 := (own6 ho2).2.1
      have hbX2 : Below wi.heap.size wi X2 := hxb2 _ _ (H1.out.1.trans (b2.mono H1.out.1.size)) (Nat.le_refl _)
      have hsX : V.heap.size ≤ X1.heap.size := by have := H1.out.1.size; have := H1.out.2.1.inside; have := HV.out.2.2.2.2.2.2; omega
      have hkey2 := vals_but (vals_keep H1.out.2.2.1 b2) (fun b o e => H1.out.2.2.2.2 b (H1.out.2.2.2.1 b o e).1) hxs2 hxr2
      have hrow2 := vals_but hv2 (fun b o e => H1.out.2.2.2.2 b (Nat.le_trans hsX (hf2 b o e).1)) hxs2 hxr2
      have hs2 := b2.size
      have hlts : ∀ b o, (A1 = some ⟨b, o, none⟩ ∨ A2 = some ⟨b, o, none⟩) → V.heap.size ≤ b ∧ b < X2.heap.size := fun b o e => by
        rcases e with e | e
        · have h1 := H1.out.2.2.2.1 b o e
          omega
        · have h1 := hf2 b o e
          omega
      obtain ⟨u', hu'⟩ : ∃ u' : Up, u' = ⟨A1, k1, u.key, A2, k2, u.row, u.t, u.d⟩ := ⟨_, rfl⟩
      have hin' : UIn X2 X2.heap.size u' := by subst hu'; exact ⟨hkey2, hrow2⟩
      have hfar' : Far w.heap.size u3 X2 u' := fun b o hb => by
        subst hu'
        have h1 := hlts b o hb
        have h2 := HV.out.2.2.2.2.2.2
        have h3 := HO.out.2.2.2.1.size
        refine ⟨h1.2, fun e => ?_, by omega⟩
        have := (HO.out.1.lt b e).2
        omega
      have hok' : UOk u' := by
        subst hu'
        have := HV.out.2.2.2.2.1
        exact ⟨this.kn, this.rn, this.ks, this.rs, this.dn⟩
      have hp' : u'.p = u.p := by subst hu'; rfl
      have hsw : w.heap.size ≤ X2.heap.size := Nat.le_trans HO.out.2.2.2.1.size hbX2.size
      have H2 := Lib.hid (And.intro hbX2 (And.intro (own_below HO.out.1 hbX2) (And.intro hin' (And.intro hfar' (And.intro hok' hp')))))
      have HU := Lib.hid hu'
      have hln : outL.length ≤ 1099511627776 := by omega
      clear hv2 b2 hf2 ho2 hxb2 hxs2 hxr2 hbX2 hkey2 hrow2 hs2 hlts hin' hfar' hok' hp' e0 e1 e2 e3 e4 e5 z2 hsX hu'
      go_upto_region 7 with fail
      rw [← hX2]
      clear hX2 hfz hc0
      obtain ⟨e0, e1, e2, e3, e4, e5⟩ := own6 hxo2
      have hu' := HU.out
      have c0 : Value.slice A1 u.key.length k1 = .slice u'.kA u'.key.length u'.kc := by rw [hu']
      have c1 : Value.slice A2 u.row.length k2 = .slice u'.rA u'.row.length u'.rc := by rw [hu']
      have c2 : Value.int .u64 (u.t.e : Int) = .int .u64 (u'.t.e : Int) := by rw [hu']
      have c3 : Value.int .u64 (u.t.a : Int) = .int .u64 (u'.t.a : Int) := by rw [hu']
      have c4 : Value.int .u64 (u.t.b : Int) = .int .u64 (u'.t.b : Int) := by rw [hu']
      have c5 : Value.int .i64 u.d = .int .i64 u'.d := by rw [hu']
      rw [c0] at e0
      rw [c1] at e1
      rw [c2] at e2
      rw [c3] at e3
      rw [c4] at e4
      rw [c5] at e5
      clear hu' c0 c1 c2 c3 c4 c5 hxo2
      go_wp2_with (at_builtin; refine wpList_push _ rfl _ _ 24 rfl w.heap.size 60 i0 _ 6 80 HI.out.1 HI.out.2.1 HI.out.2.2.1 HI.out.2.2.2.1 HI.out.2.2.2.2 rfl (by decide) _ _ _ rfl H2.out.2.1 #[.slice u'.kA u'.key.length u'.kc, .slice u'.rA u'.row.length u'.rc, .int .u64 (u'.t.e : Int), .int .u64 (u'.t.a : Int), .int .u64 (u'.t.b : Int), .int .i64 u'.d] rfl rfl ?p1 ?p2 ?p3 ?p4 ?_)
      case p1 => exact ⟨rfl, rfl, rfl, rfl, rfl, rfl⟩
      case p2 => unfold maxLen; omega
      case p3 => omega
      case p4 => exact hsw
      intro v' w' ho' hb' hob hgw
      have hbw' : Below w.heap.size w w' := (HO.out.2.2.2.1.trans (H2.out.1.mono HO.out.2.2.2.1.size)).trans hb'
      have hfarn : ∀ u, Far w.heap.size u3 X2 u → Far w.heap.size v' w' u := fun u hu b o hb => by
        obtain ⟨h1, h2, h3⟩ := hu b o hb
        refine ⟨Nat.lt_of_lt_of_le h1 hgw.size, fun e => ?_, h3⟩
        rcases hob with h | h
        · rw [h] at e; exact h2 e
        · rw [h] at e
          injection e with e
          omega
      have hall : ∀ z ∈ outL ++ [u'], UIn w' w'.heap.size z ∧ UOk z ∧ Far w.heap.size v' w' z := fun z hz => by
        rcases List.mem_append.1 hz with hz | hz
        · have hf3 := (HO.out.2.1 z hz).2.2.next H2.out.1.size
          exact ⟨uin_grown ((HO.out.2.1 z hz).1.keep H2.out.1) hf3 hgw, (HO.out.2.1 z hz).2.1, hfarn z hf3⟩
        · obtain rfl : z = u' := by simpa using hz
          exact ⟨uin_grown H2.out.2.2.1 H2.out.2.2.2.1 hgw, H2.out.2.2.2.2.1, hfarn z H2.out.2.2.2.1⟩
      have hrow' : w'.ownsRow w.heap.size 60 6 v' (outL ++ [u']).length ((outL ++ [u']).flatMap Up.cells) := by
        rw [List.length_append, List.flatMap_append, hlen]
        exact ho'
      have H4 := Lib.hid (And.intro hrow' (And.intro hall (And.intro (copy_snoc HV.out.2.2.2.1 HO.out.2.2.1 H2.out.2.2.2.2.2) hbw')))
      clear ho' hb' hob hgw hbw' hfarn hall hrow' e0 e1 e2 e3 e4 e5
      go_wp2_with fail
      go_roundw
      case rel => exact ⟨j + 1, outL ++ [u'], by go_num, by omega, by rw [List.length_append, List.length_singleton]; omega, H4.out.1, H4.out.2.1, H4.out.2.2.1, H4.out.2.2.2⟩
      case measure => simp [intOf]; omega
    · have hj2 : j = l.length := by omega
      subst hj2
      rw [List.take_length] at hmap
      have HE := Lib.hid (And.intro hmap (And.intro hown (And.intro hout hb)))
      have q5 : decide ((l.length : Int) < (l.length : Int)) = false := decide_eq_false (by omega)
      clear hown hout hmap hb
      go_wp2_with fail
      go_ret
      exact ⟨_, outL, rfl, HE.out.1, HE.out.2.1, HE.out.2.2.1, HE.out.2.2.2⟩
theorem copyU_any (A : Option Addr) (c : Nat) (l : List Up) (w : World) (hl : Ups w w.heap.size A l) (hok : ∀ u ∈ l, UOk u) (h8 : ∀ u ∈ l, u.key.length ≤ 8 ∧ u.row.length ≤ 8) (hn : l.length ≤ 1099511627776) :
    Calls Tryz.prog 59 #[.slice A l.length c] w (Copied l w) := by
  refine (copyU_own A c l w hl hok (fun u hu => by have := h8 u hu; omega) hn).mono ?_
  rintro x w' ⟨v, outL, h1, h2, h3, h4, h5⟩
  obtain ⟨A', c', rfl, _, _, hl'⟩ := lies_of_own (size := 6) (cells := Up.cells) (by decide) ucells_len rfl h3
  exact ⟨A', c', outL, h1, h2, ⟨hl', fun u hu => (h4 u hu).1⟩, fun u hu => (h4 u hu).2.1, h5⟩
end Go.Proofs.YtbccdmpnojdldaaGreat
namespace Go.Proofs.YtbccdmpnojdldaaGreat
open Go

/-- the state behind those operations that have come up: each has left its value -/
def putsR : List (Option Tmp × Option Value) → Act → Act
  | [], a => a
  | (_, none) :: l, a => putsR l a
  | (d, some v) :: l, a => putsR l (a.put d v)
/-- no two operations leave their values in one temporary -/
def ApartR : List (Option Tmp) → Prop
  | [] => True
  | d :: l => (∀ t, d = some t → some t ∉ l) ∧ ApartR l
theorem putsR_put : ∀ (l : List (Option Tmp × Option Value)) (a : Act) (d : Option Tmp) (v : Value), (∀ t, d = some t → some t ∉ l.map Prod.fst) → putsR l (a.put d v) = (putsR l a).put d v
  | [], _, _, _, _ => rfl
  | (_, none) :: l, a, d, v, h => putsR_put l a d v fun t ht hm => h t ht (List.mem_cons_of_mem _ hm)
  | (e, some u) :: l, a, d, v, h => by
    show putsR l ((a.put d v).put e u) = (putsR l (a.put e u)).put d v
    rw [← putsR_put l (a.put e u) d v fun t ht hm => h t ht (List.mem_cons_of_mem _ hm)]
    congr 1
    exact Act.put_comm a v u fun t ht he => h t ht (by subst he; exact List.mem_cons_self)
theorem putsR_set : ∀ (l : List (Option Tmp × Option Value)) (a : Act) (i : Nat) (d : Option Tmp) (v : Value), ApartR (l.map Prod.fst) → l[i]? = some (d, none) → (putsR l a).put d v = putsR (l.set i (d, some v)) a
  | [], _, _, _, _, _, h => by simp at h
  | (e, x) :: l, a, 0, d, v, ha, h => by
    obtain ⟨rfl, rfl⟩ : e = d ∧ x = none := by simpa using h
    show (putsR l a).put e v = putsR l (a.put e v)
    exact (putsR_put l a e v ha.1).symm
  | (e, none) :: l, a, i + 1, d, v, ha, h => putsR_set l a i d v ha.2 (by simpa using h)
  | (e, some u) :: l, a, i + 1, d, v, ha, h => putsR_set l (a.put e u) i d v ha.2 (by simpa using h)
theorem putsR_size : ∀ (l : List (Option Tmp × Option Value)) (a : Act), (putsR l a).tmps.size = a.tmps.size
  | [], _ => rfl
  | (_, none) :: l, a => putsR_size l a
  | (d, some v) :: l, a => (putsR_size l (a.put d v)).trans (by cases d <;> simp [Act.put])
/-- a temporary that none leaves its value in -/
theorem putsR_miss : ∀ (l : List (Option Tmp × Option Value)) (a : Act) (t : Tmp), (∀ v, (some t, some v) ∉ l) → (putsR l a).eval (.tmp t) = a.eval (.tmp t)
  | [], _, _, _ => rfl
  | (_, none) :: l, a, t, h => putsR_miss l a t fun v hm => h v (List.mem_cons_of_mem _ hm)
  | (d, some v) :: l, a, t, h => by
    show (putsR l (a.put d v)).eval (.tmp t) = _
    rw [putsR_miss l (a.put d v) t fun v hm => h v (List.mem_cons_of_mem _ hm)]
    exact Act.eval_put fun e he ht => h v (by cases ht; subst he; exact List.mem_cons_self)
theorem putsR_hit : ∀ (l : List (Option Tmp × Option Value)) (a : Act) (i : Nat) (t : Tmp) (v : Value), ApartR (l.map Prod.fst) → l[i]? = some (some t, some v) → t < a.tmps.size → (putsR l a).eval (.tmp t) = v
  | [], _, _, _, _, _, h, _ => by simp at h
  | (e, x) :: l, a, 0, t, v, ha, h, ht => by
    obtain ⟨rfl, rfl⟩ : e = some t ∧ x = some v := by simpa using h
    show (putsR l (a.put (some t) v)).eval (.tmp t) = v
    rw [putsR_miss l _ t fun u hm => ha.1 t rfl (List.mem_map.2 ⟨_, hm, rfl⟩)]
    simp [Act.eval, Act.put, ht]
  | (e, none) :: l, a, i + 1, t, v, ha, h, ht => putsR_hit l a i t v ha.2 (by simpa using h) ht
  | (e, some u) :: l, a, i + 1, t, v, ha, h, ht => putsR_hit l (a.put e u) i t v ha.2 (by simpa using h) (by cases e <;> simpa [Act.put] using ht)
theorem apartR_of {l : List (Option Tmp)} (h : (l.filterMap id).Nodup) : ApartR l := by
  induction l with
  | nil => trivial
  | cons d l ih =>
    cases d with
    | none => exact ⟨fun t ht => (by cases ht), ih (by simpa using h)⟩
    | some t =>
      have h' : (t :: l.filterMap id).Nodup := by simpa using h
      refine ⟨fun s hs hm => ?_, ih (List.nodup_cons.1 h').2⟩
      cases hs
      exact (List.nodup_cons.1 h').1 (List.mem_filterMap.2 ⟨_, hm, rfl⟩)

section
variable {P : Program} {Q : Exit → Act → World → Prop}
/-- every operation waits for earlier ones alone -/
def earlyR (l : List Oper) : Bool := (List.range l.length).all fun i => ((l[i]?).map fun o => o.after.all fun e => decide (e.on < i)).getD true
theorem earlyR_spec {l : List Oper} (h : earlyR l = true) {i : Nat} {o : Oper} (ho : l[i]? = some o) : ∀ e ∈ o.after, e.on < i := by
  unfold earlyR at h
  rw [List.all_eq_true] at h
  have := h i (List.mem_range.2 (List.getElem?_eq_some_iff.1 ho).1)
  rw [ho] at this
  simp only [Option.map_some, Option.getD_some, Array.all_eq_true_iff_forall_mem, decide_eq_true_eq] at this
  exact this
def slotsR (l : List Oper) (vals : List (Option Value)) : List (Option Tmp × Option Value) := (l.map Oper.dst).zip vals
theorem slotsR_fst {l : List Oper} {vals : List (Option Value)} (h : vals.length = l.length) : (slotsR l vals).map Prod.fst = l.map Oper.dst := by
  unfold slotsR; rw [List.map_fst_zip]; simp [h]
theorem slotsR_at {l : List Oper} {vals : List (Option Value)} {i : Nat} {o : Oper} {x : Option Value} (ho : l[i]? = some o) (hx : vals[i]? = some x) : (slotsR l vals)[i]? = some (o.dst, x) := by
  unfold slotsR; rw [List.getElem?_zip_eq_some]; simp [ho, hx]
theorem slotsR_set {l : List Oper} {vals : List (Option Value)} {i : Nat} {o : Oper} {x : Option Value} (ho : l[i]? = some o) : slotsR l (vals.set i x) = (slotsR l vals).set i (o.dst, x) := by
  unfold slotsR
  apply List.ext_getElem?
  intro j
  by_cases hij : i = j
  · subst hij
    rw [List.getElem?_set]
    rw [if_pos rfl]
    by_cases hl : i < vals.length
    · have : (vals.set i x)[i]? = some x := by simp [hl]
      have h2 := slotsR_at ho this
      unfold slotsR at h2
      rw [h2, if_pos]
      have := (List.getElem?_eq_some_iff.1 ho).1
      simp; omega
    · rw [List.set_eq_of_length_le (by omega), if_neg (by simp; omega)]
      rw [List.getElem?_eq_none]; simp; omega
  · rw [List.getElem?_set_ne hij, List.zip_eq_zipWith, List.zip_eq_zipWith, List.getElem?_zipWith, List.getElem?_zipWith, List.getElem?_set_ne hij]
/-- what has come up: some operations, those that they wait for among them -/
structure CameUp (l : List Oper) (vals : List (Option Value)) : Prop where
  len : vals.length = l.length
  closed : ∀ (i : Nat) (o : Oper) (v : Value), l[i]? = some o → vals[i]? = some (some v) → ∀ e ∈ o.after, Region.binds .any e = true → ∃ u, vals[e.on]? = some (some u)
def flagsR (vals : List (Option Value)) : Array Bool := (vals.map Option.isSome).toArray
theorem flagsR_set (vals : List (Option Value)) (i : Nat) (v : Value) : (flagsR vals).setIfInBounds i true = flagsR (vals.set i (some v)) := by
  unfold flagsR
  apply Array.ext'
  simp [List.map_set]
theorem flagR_at {vals : List (Option Value)} {i : Nat} {d : Bool} (h : i < vals.length) : (flagsR vals).getD i d = (vals[i]).isSome := by
  unfold flagsR
  rw [Array.getD_eq_getD_getElem?]
  simp [h]
/-- **a region that draws its order, one step law an operation**: F holds of what has come up and of the world -/
theorem wp_region_steps {id : Nat} {l : List Oper} {a : Act} {w : World} (hm : P.follows .mixedOrders = true) (he : earlyR l = true) (hd : ((l.map Oper.dst).filterMap _root_.id).Nodup)
    (F : List (Option Value) → World → Prop) (h0 : F (l.map fun _ => none) w.drew)
    (hstep : ∀ (i : Nat) (o : Oper) (vals : List (Option Value)) (w' : World), l[i]? = some o → CameUp l vals → vals[i]? = some none → (∀ e ∈ o.after, Region.binds .any e = true → ∃ u, vals[e.on]? = some (some u)) → F vals w' →
      ∀ K : Act → World → Prop, (∀ v w'', F (vals.set i (some v)) w'' → K ((putsR (slotsR l vals) a).put o.dst v) w'') →
      if Region.wanted o (yielded l.toArray (putsR (slotsR l vals) a).tmps) = true then Oper.wp P o (putsR (slotsR l vals) a) w' K Q else K ((putsR (slotsR l vals) a).put o.dst undef) w')
    (hend : ∀ (vs : List Value) (w' : World), vs.length = l.length → F (vs.map some) w' → Q .normal (putsR (slotsR l (vs.map some)) a) w') :
    (Code.region id l.toArray true).wp P Q a w := by
  refine wp_region_any hm ?_
  have hap : ∀ vals : List (Option Value), vals.length = l.length → ApartR ((slotsR l vals).map Prod.fst) := fun vals hv => by rw [slotsR_fst hv]; exact apartR_of hd
  have key : ∀ (n : Nat) (vals : List (Option Value)) (w' : World), CameUp l vals → (vals.filter (fun x => x.isNone)).length ≤ n → F vals w' → wpAny P .any l.toArray Q n (flagsR vals) (putsR (slotsR l vals) a) w' := by
    have all : ∀ (vals : List (Option Value)), CameUp l vals → Region.ready .any l.toArray (flagsR vals) = [] → ∀ i, i < l.length → ∃ v, vals[i]? = some (some v) := by
      intro vals hc hr i
      induction i using Nat.strongRecOn with
      | _ i ih =>
        intro hi
        have hiv : i < vals.length := by rw [hc.len]; exact hi
        cases hx : vals[i] with
        | some v => exact ⟨v, by rw [List.getElem?_eq_getElem hiv, hx]⟩
        | none =>
          exfalso
          have hmem : i ∈ Region.ready .any l.toArray (flagsR vals) := mem_ready.2 ⟨by rw [flagR_at hiv, hx]; rfl, l[i], by simp [hi], fun e hem hb => by
            have hlt := earlyR_spec he (List.getElem?_eq_getElem hi) e hem
            obtain ⟨u, hu⟩ := ih e.on hlt (by omega)
            have hel : e.on < vals.length := by omega
            rw [flagR_at hel]
            rw [List.getElem?_eq_getElem hel] at hu
            injection hu with hu
            rw [hu]; rfl⟩
          rw [hr] at hmem
          cases hmem
    have done : ∀ (vals : List (Option Value)) (w' : World), CameUp l vals → F vals w' → Region.ready .any l.toArray (flagsR vals) = [] → Q .normal (putsR (slotsR l vals) a) w' := by
      intro vals w' hc hF hr
      have hall := all vals hc hr
      have hv : vals = (vals.map fun x => x.getD undef).map some := by
        apply List.ext_getElem?
        intro i
        rw [List.getElem?_map, List.getElem?_map]
        by_cases hi : i < vals.length
        · obtain ⟨v, hv⟩ := hall i (by rw [← hc.len]; exact hi)
          rw [hv]; rfl
        · rw [List.getElem?_eq_none (by omega)]; rfl
      rw [hv] at hF ⊢
      exact hend _ w' (by rw [List.length_map]; exact hc.len) hF
    intro n
    induction n with
    | zero =>
      intro vals w' hc hn hF
      have hr : Region.ready .any l.toArray (flagsR vals) = [] := by
        rw [List.eq_nil_iff_forall_not_mem]
        intro i hi
        obtain ⟨h1, o, ho, _⟩ := mem_ready.1 hi
        have hil : i < l.length := by have := (Array.getElem?_eq_some_iff.1 ho).1; simpa using this
        have hiv : i < vals.length := by rw [hc.len]; exact hil
        rw [flagR_at hiv] at h1
        have hno : vals[i] = none := by cases h : vals[i] with | none => rfl | some v => rw [h] at h1; cases h1
        have : vals[i] ∈ vals.filter (fun x => x.isNone) := List.mem_filter.2 ⟨List.getElem_mem hiv, by rw [hno]; rfl⟩
        have := List.length_pos_of_mem this
        omega
      exact ⟨hr, done vals w' hc hF hr⟩
    | succ n ih =>
      intro vals w' hc hn hF
      refine ⟨fun hr => done vals w' hc hF hr, fun i hi => ?_⟩
      obtain ⟨h1, o, ho, hdeps⟩ := mem_ready.1 hi
      have ho' : l[i]? = some o := by simpa using ho
      have hil : i < l.length := (List.getElem?_eq_some_iff.1 ho').1
      have hiv : i < vals.length := by rw [hc.len]; exact hil
      rw [flagR_at hiv] at h1
      have hno : vals[i] = none := by cases h : vals[i] with | none => rfl | some v => rw [h] at h1; cases h1
      have hno' : vals[i]? = some none := by rw [List.getElem?_eq_getElem hiv, hno]
      have hdeps' : ∀ e ∈ o.after, Region.binds .any e = true → ∃ u, vals[e.on]? = some (some u) := fun e hem hb => by
        have h2 := hdeps e hem hb
        have hlt := earlyR_spec he ho' e hem
        have hel : e.on < vals.length := by omega
        rw [flagR_at hel] at h2
        obtain ⟨u, hu⟩ := Option.isSome_iff_exists.1 h2
        exact ⟨u, by rw [List.getElem?_eq_getElem hel, hu]⟩
      refine wpOp_step ho fun K' hK => hstep i o vals w' ho' hc hno' hdeps' hF K' fun v w'' hF' => hK _ _ ?_
      have hc' : CameUp l (vals.set i (some v)) := by
        refine ⟨by rw [List.length_set]; exact hc.len, fun j oj u hoj hu e hem hb => ?_⟩
        have hs : ∀ k u, vals[k]? = some (some u) → ∃ u', (vals.set i (some v))[k]? = some (some u') := fun k u hk => by
          by_cases hik : i = k
          · subst hik; rw [hno'] at hk; cases hk
          · exact ⟨u, by rw [List.getElem?_set_ne hik]; exact hk⟩
        by_cases hij : i = j
        · subst hij
          rw [ho'] at hoj
          cases hoj
          obtain ⟨u', hu'⟩ := hdeps' e hem hb
          exact hs _ _ hu'
        · rw [List.getElem?_set_ne hij] at hu
          obtain ⟨u', hu'⟩ := hc.closed j oj u hoj hu e hem hb
          exact hs _ _ hu'
      rw [flagsR_set vals i v, putsR_set _ a i o.dst v (hap vals hc.len) (slotsR_at ho' hno'), ← slotsR_set ho']
      refine ih _ w'' hc' ?_ hF'
      have hcnt : ∀ (vals : List (Option Value)) (i : Nat), vals[i]? = some none → ((vals.set i (some v)).filter (fun x => x.isNone)).length + 1 = (vals.filter (fun x => x.isNone)).length := by
        intro vals
        induction vals with
        | nil => intro i h; simp at h
        | cons x vals ih =>
          intro i h
          cases i with
          | zero =>
            obtain rfl : x = none := by simpa using h
            simp
          | succ i =>
            have := ih i (by simpa using h)
            rw [List.set_cons_succ, List.filter_cons, List.filter_cons]
            split <;> simp_all
      have := hcnt vals i hno'
      omega
  have h := key l.length (l.map fun _ => none) w.drew ⟨by simp, fun i o v _ hv => by rw [List.getElem?_map] at hv; cases l[i]? <;> simp at hv⟩ (by
    refine Nat.le_trans (List.length_filter_le _ _) (by simp)) h0
  have e1 : flagsR (l.map fun _ => none) = Array.replicate l.toArray.size false := by
    unfold flagsR
    apply Array.ext'
    rw [List.map_map]
    show List.map (fun _ => false) l = _
    rw [List.map_const', List.size_toArray, Array.toList_replicate]
  have e2 : putsR (slotsR l (l.map fun _ => none)) a = a := by
    have : ∀ (m : List (Option Tmp × Option Value)) (a : Act), (∀ x ∈ m, x.2 = none) → putsR m a = a := by
      intro m
      induction m with
      | nil => intro a _; rfl
      | cons x m ih =>
        intro a h
        obtain ⟨d, y⟩ := x
        obtain rfl : y = none := h (d, y) List.mem_cons_self
        exact ih a fun z hz => h z (List.mem_cons_of_mem _ hz)
    refine this _ a fun x hx => ?_
    obtain ⟨d, y⟩ := x
    have := (List.of_mem_zip hx).2
    simp at this
    exact this.2.symm
  rw [e1, e2] at h
  simpa using h
end
end Go.Proofs.YtbccdmpnojdldaaGreat
namespace Go.Proofs.YtbccdmpnojdldaaGreat
open Go Go.RowKit

/-- the operations of the region: T the slice's type, 'so' its slot, 'sa' the place's, op5 what makes the new one -/
abbrev insOps (T TI T5 : TypeId) (d0 d1 d2 d3 d4 d5 d6 d7 d8 d9 d10 d11 so sa : Tmp) (op5 : Op) (p0 p1 p2 p3 p4 p5 p6 p7 p8 p9 p10 p11 p12 : String) : List Oper :=
  [{ dst := some d0, op := .buildSlice T 0 #[], type := T, pos := p0, after := #[], guard := none },
   { dst := some d1, op := .move (.tmp so), type := T, pos := p1, after := #[], guard := none },
   { dst := some d2, op := .move (.tmp sa), type := TI, pos := p2, after := #[], guard := none },
   { dst := some d3, op := .slice T (.tmp d1) none (some (.tmp d2)) none, type := T, pos := p3, after := #[{ on := 1, ground := .data }, { on := 2, ground := .data }], guard := none },
   { dst := some d4, op := .call { callee := .builtin .append, args := #[.tmp d0, .tmp d3], argTypes := #[T, T] }, type := T, pos := p4, after := #[{ on := 0, ground := .data }, { on := 3, ground := .data }], guard := none },
   { dst := some d5, op := op5, type := T5, pos := p5, after := #[], guard := none },
   { dst := some d6, op := .buildSlice T 1 #[(0, .tmp d5)], type := T, pos := p6, after := #[{ on := 5, ground := .data }], guard := none },
   { dst := some d7, op := .call { callee := .builtin .append, args := #[.tmp d4, .tmp d6], argTypes := #[T, T] }, type := T, pos := p7, after := #[{ on := 4, ground := .data }, { on := 6, ground := .data }, { on := 4, ground := .chain }], guard := none },
   { dst := some d8, op := .move (.tmp so), type := T, pos := p8, after := #[], guard := none },
   { dst := some d9, op := .move (.tmp sa), type := TI, pos := p9, after := #[], guard := none },
   { dst := some d10, op := .slice T (.tmp d8) (some (.tmp d9)) none none, type := T, pos := p10, after := #[{ on := 8, ground := .data }, { on := 9, ground := .data }], guard := none },
   { dst := some d11, op := .call { callee := .builtin .append, args := #[.tmp d7, .tmp d10], argTypes := #[T, T] }, type := T, pos := p11, after := #[{ on := 7, ground := .data }, { on := 10, ground := .data }, { on := 7, ground := .chain }], guard := none },
   { dst := some so, op := .assign (.tmp d11), type := T, pos := p12, after := #[{ on := 11, ground := .data }, { on := 11, ground := .chain }, { on := 0, ground := .phase }, { on := 1, ground := .phase }, { on := 2, ground := .phase }, { on := 3, ground := .phase }, { on := 4, ground := .phase }, { on := 5, ground := .phase }, { on := 6, ground := .phase }, { on := 7, ground := .phase }, { on := 8, ground := .phase }, { on := 9, ground := .phase }, { on := 10, ground := .phase }, { on := 11, ground := .phase }], guard := none }]
section
variable {P : Program} {α : Type} {size : Nat} {cells : α → List Value}
/-- what holds while they come up -/
structure InsG (V : World) (e : TypeId) (size : Nat) (cells : α → List Value) (l : List α) (x : α) (i : Nat) (O I S1 S2 X : Value) (x0 x1 x2 x3 x4 x5 x6 x7 x8 x9 x10 x11 x12 : Option Value) (w : World) : Prop where
  below : Below V.heap.size V w
  m1 : ∀ v, x1 = some v → v = O
  m2 : ∀ v, x2 = some v → v = I
  s3 : ∀ v, x3 = some v → v = S1
  k5 : ∀ v, x5 = some v → v = X
  m8 : ∀ v, x8 = some v → v = O
  m9 : ∀ v, x9 = some v → v = I
  s10 : ∀ v, x10 = some v → v = S2
  r0 : ∀ v, x0 = some v → x4 = none → w.ownsRow V.heap.size e size v 0 []
  r4 : ∀ v, x4 = some v → x7 = none → w.ownsRow V.heap.size e size v i ((l.take i).flatMap cells)
  b6 : ∀ v, x6 = some v → x7 = none → ∃ g, v = .slice (some ⟨g, 0, none⟩) 1 1 ∧ Own w g e (cells x) ∧ ∀ v0, x0 = some v0 → x4 = none → v0.ownBlock ≠ some g
  r7 : ∀ v, x7 = some v → x11 = none → w.ownsRow V.heap.size e size v (i + 1) ((l.take i ++ [x]).flatMap cells)
  r11 : ∀ v, x11 = some v → w.ownsRow V.heap.size e size v (l.length + 1) ((l.take i ++ x :: l.drop i).flatMap cells)
  a12 : ∀ v, x12 = some v → x11 = some v
theorem step_value {P : Program} {Q : Exit → Act → World → Prop} {ops : Array Oper} {o : Oper} {a : Act} {K : Act → World → Prop} {w w' : World} {v : Value} {E : Prop} (hg : o.guard = none) (hr : (execOp a.eval o).run P w = .ok (.value v) w') (h : K (a.put o.dst v) w') :
    if Region.wanted o (yielded ops a.tmps) = true then Oper.wp P o a w K Q else E := by
  have hw : Region.wanted o (yielded ops a.tmps) = true := by simp [Region.wanted, hg]
  rw [if_pos hw]
  unfold Oper.wp
  rw [hr]
  exact h
theorem nodup_at {β : Type} {l : List β} (h : l.Nodup) {i j : Nat} {x : β} (hi : l[i]? = some x) (hj : l[j]? = some x) : i = j := by
  obtain ⟨h1, e1⟩ := List.getElem?_eq_some_iff.1 hi
  obtain ⟨h2, e2⟩ := List.getElem?_eq_some_iff.1 hj
  exact (List.getElem_inj h).1 (e1.trans e2.symm)
theorem slots_mem {l : List Oper} {vals : List (Option Value)} {t : Tmp} {v : Value} (h : (some t, some v) ∈ slotsR l vals) : ∃ j : Nat, (l.map Oper.dst)[j]? = some (some t) ∧ vals[j]? = some (some v) := by
  obtain ⟨j, hj⟩ := List.mem_iff_getElem?.1 h
  unfold slotsR at hj
  rw [List.getElem?_zip_eq_some] at hj
  exact ⟨j, hj.1, hj.2⟩
theorem step_app {Q : Exit → Act → World → Prop} (w : World) {ops : Array Oper} {o : Oper} {a : Act} {K : Act → World → Prop} {E : Prop} (hgd : o.guard = none) (s x : Operand) (t e : TypeId)
    (ho : o.op = .call { callee := .builtin .append, args := #[s, x], argTypes := #[t, t] })
    (i0 : TypeInfo) (z : Value) (bytes : Nat) (ht : P.underlying t = some (.slice e)) (hi : P.info? e = some i0) (hz0 : i0.zero = some z) (hz1 : i0.size = size) (hz2 : i0.bytes = bytes) (hzs : z.cells.size = size) (hpos : 0 < size) (hcl : ∀ x, (cells x).length = size) (hone : ∀ x, ∀ u ∈ cells x, u.oneCell' = true)
    (base : Nat) (v : Value) (n : Nat) (xs : List Value) (hs : a.eval s = v) (hown : w.ownsRow base e size v n xs)
    (B : Nat) (A : Option Addr) (c : Nat) (l : List α) (k : Nat) (hk : l.length = k) (hx : a.eval x = .slice A k c) (hl : Lies size cells w B A l) (h63 : n + k ≤ maxLen) (hn : (n + k) * bytes ≤ 140737488355328) (hbase : base ≤ w.heap.size)
    (h : ∀ v' w', w'.ownsRow base e size v' (n + k) (xs ++ l.flatMap cells) → Below base w w' → w.grownBy w' v.ownBlock → K (a.put o.dst v') w') :
    if Region.wanted o (yielded ops a.tmps) = true then Oper.wp P o a w K Q else E := by
  subst hk
  obtain ⟨v', w', hrun, ho', hb, hg⟩ : ∃ v' w', (Builtin.append_ #[t, t] o.type #[v, .slice A l.length c]).run P w = .ok v' w' ∧ w'.ownsRow base e size v' (n + l.length) (xs ++ l.flatMap cells) ∧ Below base w w' ∧ w.grownBy w' v.ownBlock := by
    cases A with
    | none =>
      have h0 : l = [] := by
        cases l with
        | nil => rfl
        | cons x l => obtain ⟨_, _, e, _⟩ := hl (by simp); cases e
      subst h0
      exact ⟨v, w, run_append_none w base _ _ _ i0 size ht hi v n xs hown c, by simpa using hown, Below.refl _ _, ⟨rfl, rfl, rfl, Nat.le_refl _, fun _ _ _ => rfl⟩⟩
    | some ad =>
      have hnews : ∀ j u, (l.flatMap cells)[j]? = some u → w.cell? (ad.add j) = some u := by
        intro j u hu
        obtain ⟨i, r, y, rfl, hi, hr⟩ := flat_back hpos hcl l j u hu
        have hp : 0 < l.length := by have := (List.getElem?_eq_some_iff.1 hi).1; omega
        obtain ⟨b, o, e, _, hc⟩ := hl hp
        obtain rfl : ad = ⟨b, o, none⟩ := by injection e
        have ea : (⟨b, o, none⟩ : Addr).add (i * size + r) = ⟨b, o + i * size + r, none⟩ := by unfold Addr.add; split <;> simp_all <;> omega
        rw [ea]
        exact hc i y hi r u hr
      obtain ⟨v', w', hr, h2, h3, _, _⟩ := run_append_own_at (P := P) w base t o.type e i0 _ size bytes ht hi hz0 hz1 hz2 hzs hpos v n xs hown ad l.length c (l.flatMap cells) (flat_size hcl l) hnews
        (fun u hu => by obtain ⟨y, _, hy⟩ := List.mem_flatMap.1 hu; exact hone y u hy) h63 hn hbase
      exact ⟨v', w', hr, h2, (Below.refl base w).grown h3 hbase (fun k hk => (hown.lt k hk).1), h3⟩
  refine step_value (v := v') (w' := w') hgd ?_ (h v' w' ho' hb hg)
  unfold execOp
  simp only [ho, resolve, invoke, builtin, Sem.run_bind, Sem.run_pure, Result.andThen_ok, List.map_toArray, List.map_cons, List.map_nil, hs, hx, hrun]
set_option maxRecDepth 100000 in
set_option maxHeartbeats 3200000 in
/-- **the three appends**, in whatever order: the new row lies in memory of its own -/
theorem wp_ins {id : Nat} {Q : Exit → Act → World → Prop} {a : Act} {V : World} (hm : P.follows .mixedOrders = true) {T TI T5 e : TypeId} {d0 d1 d2 d3 d4 d5 d6 d7 d8 d9 d10 d11 so sa : Tmp} {op5 : Op} {p0 p1 p2 p3 p4 p5 p6 p7 p8 p9 p10 p11 p12 : String}
    (hd : [d0, d1, d2, d3, d4, d5, d6, d7, d8, d9, d10, d11, so].Nodup) (hda : sa ∉ [d0, d1, d2, d3, d4, d5, d6, d7, d8, d9, d10, d11, so]) (nt : Nat) (hnt : a.tmps.size = nt) (hsz : ∀ d ∈ [d0, d1, d2, d3, d4, d5, d6, d7, d8, d9, d10, d11, so], d < nt)
    (i0 : TypeInfo) (z : Value) (bytes : Nat) (ht : P.underlying T = some (.slice e)) (hi : P.info? e = some i0) (hz0 : i0.zero = some z) (hz1 : i0.size = size) (hz2 : i0.bytes = bytes) (hzs : z.cells.size = size) (hpos : 0 < size) (hcl : ∀ x, (cells x).length = size) (hone : ∀ x, ∀ u ∈ cells x, u.oneCell' = true)
    (l : List α) (x : α) (i : Nat) (A : Option Addr) (c n : Nat) (hln : l.length = n) (hil : i ≤ n) (hnc : n ≤ c) (hbig : n + 1 ≤ maxLen) (hby : (n + 1) * bytes ≤ 140737488355328)
    (ho : a.eval (.tmp so) = .slice A n c) (hat : a.eval (.tmp sa) = .int .i64 (i : Int)) (hl : Lies size cells V V.heap.size A l)
    (X : Value) (h5 : ∀ (a' : Act) (w' : World) (t5 : TypeId), (∀ t, t ∉ [d0, d1, d2, d3, d4, d5, d6, d7, d8, d9, d10, d11, so] → a'.eval (.tmp t) = a.eval (.tmp t)) → Below V.heap.size V w' → (execOp a'.eval { dst := some d5, op := op5, type := T5, pos := p5, after := #[], guard := none }).run P w' = .ok (.value X) w')
    (hb0 : ∀ w' : World, (Instr.buildSlice T 0 #[]).run P w' = .ok (.slice (some ⟨w'.heap.size, 0, none⟩) 0 0) (w'.alloc (.cells #[] e)))
    (hb1 : ∀ w' : World, (Instr.buildSlice T 1 #[(0, X)]).run P w' = .ok (.slice (some ⟨w'.heap.size, 0, none⟩) 1 1) (w'.alloc (.cells (cells x).toArray e)))
    (hend : ∀ (v0 v1 v2 v3 v4 v5 v6 v7 v8 v9 v10 v11 : Value) (w' : World), Below V.heap.size V w' → w'.ownsRow V.heap.size e size v11 (n + 1) ((l.take i ++ x :: l.drop i).flatMap cells) →
      Q .normal (((((((((((((a.put (some d0) v0).put (some d1) v1).put (some d2) v2).put (some d3) v3).put (some d4) v4).put (some d5) v5).put (some d6) v6).put (some d7) v7).put (some d8) v8).put (some d9) v9).put (some d10) v10).put (some d11) v11).put (some so) v11) w') :
    (Code.region id (insOps T TI T5 d0 d1 d2 d3 d4 d5 d6 d7 d8 d9 d10 d11 so sa op5 p0 p1 p2 p3 p4 p5 p6 p7 p8 p9 p10 p11 p12).toArray true).wp P Q a V := by
  subst hln hnt
  have hdst : (insOps T TI T5 d0 d1 d2 d3 d4 d5 d6 d7 d8 d9 d10 d11 so sa op5 p0 p1 p2 p3 p4 p5 p6 p7 p8 p9 p10 p11 p12).map Oper.dst = [d0, d1, d2, d3, d4, d5, d6, d7, d8, d9, d10, d11, so].map some := rfl
  have hdn : ((insOps T TI T5 d0 d1 d2 d3 d4 d5 d6 d7 d8 d9 d10 d11 so sa op5 p0 p1 p2 p3 p4 p5 p6 p7 p8 p9 p10 p11 p12).map Oper.dst).Nodup := by
    rw [hdst]
    exact List.Pairwise.map some (fun a b h e => h (Option.some.inj e)) hd
  obtain ⟨L, hL⟩ : ∃ L, insOps T TI T5 d0 d1 d2 d3 d4 d5 d6 d7 d8 d9 d10 d11 so sa op5 p0 p1 p2 p3 p4 p5 p6 p7 p8 p9 p10 p11 p12 = L := ⟨_, rfl⟩
  obtain ⟨S1, hS1⟩ : ∃ S1, sliced A 0 i c size = S1 := ⟨_, rfl⟩
  obtain ⟨S2, hS2⟩ : ∃ S2, sliced A i l.length c size = S2 := ⟨_, rfl⟩
  have hL1 : ∃ A1, S1 = .slice A1 i c ∧ Lies size cells V V.heap.size A1 (l.take i) := by
    refine ⟨_, hS1.symm, fun hp => ?_⟩
    rw [List.length_take] at hp
    obtain ⟨b, o, rfl, hB, hc⟩ := hl (by omega)
    refine ⟨b, o, ?_, hB, fun k y hk => hc k y ?_⟩
    · rw [if_neg (by omega)]
      simp [Addr.add]
    · rw [List.getElem?_take] at hk
      split at hk
      · exact hk
      · cases hk
  have hL2 : ∃ A2, S2 = .slice A2 (l.length - i) (c - i) ∧ Lies size cells V V.heap.size A2 (l.drop i) := by
    refine ⟨_, hS2.symm, fun hp => ?_⟩
    rw [List.length_drop] at hp
    obtain ⟨b, o, rfl, hB, hc⟩ := hl (by omega)
    refine ⟨b, o + i * size, ?_, hB, fun k y hk j u hu => ?_⟩
    · rw [if_neg (by omega)]
      unfold Addr.add
      simp only [Option.map_some, Option.some.injEq]
      split <;> simp_all
    · rw [List.getElem?_drop] at hk
      have := hc (i + k) y hk j u hu
      rw [Nat.add_mul] at this
      rw [← this]
      congr 2
      omega
  have hte : P.underlying T = some (.slice (P.elem T)) := by rw [ht]; simp [Program.elem, ht]
  have hel : P.elem T = e := by simp [Program.elem, ht]
  have hsof : ∀ w' : World, (sizeOf (P.elem T)).run P w' = .ok size w' := fun w' => by rw [hel]; simp [sizeOf, typeInfo, hi, hz1]
  refine wp_region_steps hm (by kernel_rfl) (by rw [show List.filterMap _root_.id ((insOps T TI T5 d0 d1 d2 d3 d4 d5 d6 d7 d8 d9 d10 d11 so sa op5 p0 p1 p2 p3 p4 p5 p6 p7 p8 p9 p10 p11 p12).map Oper.dst) = [d0, d1, d2, d3, d4, d5, d6, d7, d8, d9, d10, d11, so] from rfl]; exact hd)
    (fun vals w' => ∃ x0 x1 x2 x3 x4 x5 x6 x7 x8 x9 x10 x11 x12 : Option Value, vals = [x0, x1, x2, x3, x4, x5, x6, x7, x8, x9, x10, x11, x12] ∧ InsG V e size cells l x i (.slice A l.length c) (.int .i64 (i : Int)) S1 S2 X x0 x1 x2 x3 x4 x5 x6 x7 x8 x9 x10 x11 x12 w') ?h0 ?hs ?he
  case h0 => exact ⟨none, none, none, none, none, none, none, none, none, none, none, none, none, rfl, ⟨(Below.refl _ _).drew, (fun _ hv => by cases hv), (fun _ hv => by cases hv), (fun _ hv => by cases hv), (fun _ hv => by cases hv), (fun _ hv => by cases hv), (fun _ hv => by cases hv), (fun _ hv => by cases hv), (fun _ hv _ => by cases hv), (fun _ hv _ => by cases hv), (fun _ hv _ => by cases hv), (fun _ hv _ => by cases hv), (fun _ hv => by cases hv), (fun _ hv => by cases hv)⟩⟩
  case he =>
    rintro vs w' hvs ⟨x0, x1, x2, x3, x4, x5, x6, x7, x8, x9, x10, x11, x12, hx, h⟩
    match vs, hvs, hx with
    | [v0, v1, v2, v3, v4, v5, v6, v7, v8, v9, v10, v11, v12], _, hx =>
      simp only [List.map_cons, List.map_nil, List.cons.injEq, and_true] at hx
      obtain ⟨rfl, rfl, rfl, rfl, rfl, rfl, rfl, rfl, rfl, rfl, rfl, rfl, rfl⟩ := hx
      obtain rfl : v11 = v12 := Option.some.inj (h.a12 _ rfl)
      exact hend v0 v1 v2 v3 v4 v5 v6 v7 v8 v9 v10 v11 w' h.below (h.r11 _ rfl)
  case hs =>
    rintro j o vals w' hoj hc hn hdep ⟨x0, x1, x2, x3, x4, x5, x6, x7, x8, x9, x10, x11, x12, rfl, h⟩ K hK
    have hE : ∀ (k : Nat) (t : Tmp) (v : Value), ([d0, d1, d2, d3, d4, d5, d6, d7, d8, d9, d10, d11, so])[k]? = some t → ([x0, x1, x2, x3, x4, x5, x6, x7, x8, x9, x10, x11, x12])[k]? = some (some v) → (putsR (slotsR (insOps T TI T5 d0 d1 d2 d3 d4 d5 d6 d7 d8 d9 d10 d11 so sa op5 p0 p1 p2 p3 p4 p5 p6 p7 p8 p9 p10 p11 p12) [x0, x1, x2, x3, x4, x5, x6, x7, x8, x9, x10, x11, x12]) a).eval (.tmp t) = v := fun k t v hk hv => by
      refine putsR_hit _ a k t v (by rw [slotsR_fst rfl]; exact apartR_of (by rw [show List.filterMap _root_.id ((insOps T TI T5 d0 d1 d2 d3 d4 d5 d6 d7 d8 d9 d10 d11 so sa op5 p0 p1 p2 p3 p4 p5 p6 p7 p8 p9 p10 p11 p12).map Oper.dst) = [d0, d1, d2, d3, d4, d5, d6, d7, d8, d9, d10, d11, so] from rfl]; exact hd)) ?_ (hsz t (List.mem_of_getElem? hk))
      unfold slotsR
      rw [List.getElem?_zip_eq_some, hdst, List.getElem?_map, hk]
      exact ⟨rfl, hv⟩
    have hM : ∀ t : Tmp, (∀ (k : Nat) (v : Value), ([d0, d1, d2, d3, d4, d5, d6, d7, d8, d9, d10, d11, so])[k]? = some t → ([x0, x1, x2, x3, x4, x5, x6, x7, x8, x9, x10, x11, x12])[k]? ≠ some (some v)) → (putsR (slotsR (insOps T TI T5 d0 d1 d2 d3 d4 d5 d6 d7 d8 d9 d10 d11 so sa op5 p0 p1 p2 p3 p4 p5 p6 p7 p8 p9 p10 p11 p12) [x0, x1, x2, x3, x4, x5, x6, x7, x8, x9, x10, x11, x12]) a).eval (.tmp t) = a.eval (.tmp t) := fun t ht => by
      refine putsR_miss _ a t fun v hm => ?_
      obtain ⟨k, h1, h2⟩ := slots_mem hm
      rw [hdst, List.getElem?_map] at h1
      obtain ⟨t', ht', e⟩ := Option.map_eq_some_iff.1 h1
      cases e
      exact ht k v ht' h2
    have hother : ∀ t, t ∉ [d0, d1, d2, d3, d4, d5, d6, d7, d8, d9, d10, d11, so] → (putsR (slotsR (insOps T TI T5 d0 d1 d2 d3 d4 d5 d6 d7 d8 d9 d10 d11 so sa op5 p0 p1 p2 p3 p4 p5 p6 p7 p8 p9 p10 p11 p12) [x0, x1, x2, x3, x4, x5, x6, x7, x8, x9, x10, x11, x12]) a).eval (.tmp t) = a.eval (.tmp t) := fun t ht => hM t fun k v hk => absurd (List.mem_of_getElem? hk) ht
    have hI : (putsR (slotsR (insOps T TI T5 d0 d1 d2 d3 d4 d5 d6 d7 d8 d9 d10 d11 so sa op5 p0 p1 p2 p3 p4 p5 p6 p7 p8 p9 p10 p11 p12) [x0, x1, x2, x3, x4, x5, x6, x7, x8, x9, x10, x11, x12]) a).eval (.tmp sa) = .int .i64 (i : Int) := (hother sa hda).trans hat
    have hO : x12 = none → (putsR (slotsR (insOps T TI T5 d0 d1 d2 d3 d4 d5 d6 d7 d8 d9 d10 d11 so sa op5 p0 p1 p2 p3 p4 p5 p6 p7 p8 p9 p10 p11 p12) [x0, x1, x2, x3, x4, x5, x6, x7, x8, x9, x10, x11, x12]) a).eval (.tmp so) = .slice A l.length c := fun h12 => (hM so fun k v hk hv => by
      have : k = 12 := nodup_at hd hk rfl
      subst this
      rw [h12] at hv
      cases hv).trans ho
    have cl : ∀ (p q : Nat) (oo : Oper) (gr : Ground) (v : Value), (insOps T TI T5 d0 d1 d2 d3 d4 d5 d6 d7 d8 d9 d10 d11 so sa op5 p0 p1 p2 p3 p4 p5 p6 p7 p8 p9 p10 p11 p12)[p]? = some oo → ({ on := q, ground := gr } : Edge) ∈ oo.after → Region.binds .any { on := q, ground := gr } = true → ([x0, x1, x2, x3, x4, x5, x6, x7, x8, x9, x10, x11, x12])[p]? = some (some v) → ∃ u, ([x0, x1, x2, x3, x4, x5, x6, x7, x8, x9, x10, x11, x12])[q]? = some (some u) := fun p q oo gr v h1 h2 h3 h4 => hc.closed p oo v h1 h4 _ h2 h3
    have c4a : ∀ v, x4 = some v → ∃ u, x0 = some u := fun v hv => by obtain ⟨u, hu⟩ := cl 4 0 _ .data v rfl (by simp) rfl (by rw [hv]; rfl); exact ⟨u, Option.some.inj hu⟩
    have c4b : ∀ v, x4 = some v → ∃ u, x3 = some u := fun v hv => by obtain ⟨u, hu⟩ := cl 4 3 _ .data v rfl (by simp) rfl (by rw [hv]; rfl); exact ⟨u, Option.some.inj hu⟩
    have c7a : ∀ v, x7 = some v → ∃ u, x4 = some u := fun v hv => by obtain ⟨u, hu⟩ := cl 7 4 _ .data v rfl (by simp) rfl (by rw [hv]; rfl); exact ⟨u, Option.some.inj hu⟩
    have c7b : ∀ v, x7 = some v → ∃ u, x6 = some u := fun v hv => by obtain ⟨u, hu⟩ := cl 7 6 _ .data v rfl (by simp) rfl (by rw [hv]; rfl); exact ⟨u, Option.some.inj hu⟩
    have c11a : ∀ v, x11 = some v → ∃ u, x7 = some u := fun v hv => by obtain ⟨u, hu⟩ := cl 11 7 _ .data v rfl (by simp) rfl (by rw [hv]; rfl); exact ⟨u, Option.some.inj hu⟩
    have c12a : ∀ v, x12 = some v → ∃ u, x11 = some u := fun v hv => by obtain ⟨u, hu⟩ := cl 12 11 _ .data v rfl (by simp) rfl (by rw [hv]; rfl); exact ⟨u, Option.some.inj hu⟩
    have c12b : ∀ v, x12 = some v → ∃ u, x1 = some u := fun v hv => by obtain ⟨u, hu⟩ := cl 12 1 _ .phase v rfl (by simp) rfl (by rw [hv]; rfl); exact ⟨u, Option.some.inj hu⟩
    have c12c : ∀ v, x12 = some v → ∃ u, x8 = some u := fun v hv => by obtain ⟨u, hu⟩ := cl 12 8 _ .phase v rfl (by simp) rfl (by rw [hv]; rfl); exact ⟨u, Option.some.inj hu⟩
    have none_of : ∀ {p q : Option Value}, (∀ v, p = some v → ∃ u, q = some u) → q = none → p = none := fun {p q} hpq hq => by
      cases hp : p with
      | none => rfl
      | some v => obtain ⟨u, hu⟩ := hpq v hp; rw [hq] at hu; cases hu
    have dd : ∀ (q : Nat) (gr : Ground) (oo : Oper), o = oo → ({ on := q, ground := gr } : Edge) ∈ oo.after → Region.binds .any { on := q, ground := gr } = true → ∃ u, ([x0, x1, x2, x3, x4, x5, x6, x7, x8, x9, x10, x11, x12])[q]? = some (some u) := fun q gr oo h1 h2 h3 => hdep _ (h1 ▸ h2) h3
    have hv : ∀ (k : Nat) (t : Tmp) (v : Value), ([d0, d1, d2, d3, d4, d5, d6, d7, d8, d9, d10, d11, so])[k]? = some t → ([x0, x1, x2, x3, x4, x5, x6, x7, x8, x9, x10, x11, x12])[k]? = some (some v) → (putsR (slotsR (insOps T TI T5 d0 d1 d2 d3 d4 d5 d6 d7 d8 d9 d10 d11 so sa op5 p0 p1 p2 p3 p4 p5 p6 p7 p8 p9 p10 p11 p12) [x0, x1, x2, x3, x4, x5, x6, x7, x8, x9, x10, x11, x12]) a).eval (.tmp t) = v := hE
    have hjl : j < 13 := by have := (List.getElem?_eq_some_iff.1 hoj).1; exact this
    have hVw := h.below.size
    generalize putsR (slotsR (insOps T TI T5 d0 d1 d2 d3 d4 d5 d6 d7 d8 d9 d10 d11 so sa op5 p0 p1 p2 p3 p4 p5 p6 p7 p8 p9 p10 p11 p12) [x0, x1, x2, x3, x4, x5, x6, x7, x8, x9, x10, x11, x12]) a = a' at *
    clear cl hE hM hc
    obtain rfl | rfl | rfl | rfl | rfl | rfl | rfl | rfl | rfl | rfl | rfl | rfl | rfl : j = 0 ∨ j = 1 ∨ j = 2 ∨ j = 3 ∨ j = 4 ∨ j = 5 ∨ j = 6 ∨ j = 7 ∨ j = 8 ∨ j = 9 ∨ j = 10 ∨ j = 11 ∨ j = 12 := by omega
    · have eo := Option.some.inj hoj
      subst eo
      obtain rfl : x0 = none := Option.some.inj hn
      obtain rfl : x4 = none := none_of c4a rfl
      obtain rfl : x7 = none := none_of c7a rfl
      obtain rfl : x11 = none := none_of c11a rfl
      refine step_value (v := .slice (some ⟨w'.heap.size, 0, none⟩) 0 0) (w' := w'.alloc (.cells #[] e)) rfl ?_ (hK _ _ ⟨some (.slice (some ⟨w'.heap.size, 0, none⟩) 0 0), x1, x2, x3, none, x5, x6, none, x8, x9, x10, none, x12, rfl, ⟨h.below.alloc hVw _, h.m1, h.m2, h.s3, h.k5, h.m8, h.m9, h.s10, (fun _ hv _ => by cases hv; exact World.ownsRow_made w' #[] 0 hVw (Nat.zero_le _) (by simp)), (fun _ hv _ => by cases hv), (fun v hv h7 => by obtain ⟨g, e1, e2, e3⟩ := h.b6 v hv h7; exact ⟨g, e1, e2.more _, fun v0 hv0 _ hg => by cases hv0; have := e2.inside; simp only [Value.ownBlock, Option.some.injEq] at hg; omega⟩), (fun _ hv _ => by cases hv), (fun _ hv => by cases hv), h.a12⟩⟩)
      · unfold execOp
        simp only [List.map_toArray, List.map_nil, Sem.run_bind, hb0, Result.andThen_ok, Sem.run_pure]
    · have eo := Option.some.inj hoj
      subst eo
      obtain rfl : x1 = none := Option.some.inj hn
      obtain rfl : x12 = none := none_of c12b rfl
      refine step_value (v := .slice A l.length c) (w' := w') rfl ?_ (hK _ _ ⟨x0, some (.slice A l.length c), x2, x3, x4, x5, x6, x7, x8, x9, x10, x11, none, rfl, ⟨h.below, (fun _ hv => by cases hv; rfl), h.m2, h.s3, h.k5, h.m8, h.m9, h.s10, h.r0, h.r4, h.b6, h.r7, h.r11, h.a12⟩⟩)
      · show Result.ok (Next.value (a'.eval (.tmp so))) w' = _
        rw [hO rfl]
    · have eo := Option.some.inj hoj
      subst eo
      obtain rfl : x2 = none := Option.some.inj hn
      refine step_value (v := .int .i64 (i : Int)) (w' := w') rfl ?_ (hK _ _ ⟨x0, x1, some (.int .i64 (i : Int)), x3, x4, x5, x6, x7, x8, x9, x10, x11, x12, rfl, ⟨h.below, h.m1, (fun _ hv => by cases hv; rfl), h.s3, h.k5, h.m8, h.m9, h.s10, h.r0, h.r4, h.b6, h.r7, h.r11, h.a12⟩⟩)
      · show Result.ok (Next.value (a'.eval (.tmp sa))) w' = _
        rw [hI]
    · have eo := Option.some.inj hoj
      subst eo
      obtain rfl : x3 = none := Option.some.inj hn
      obtain ⟨u1, hu1⟩ := dd 1 .data _ rfl (by simp) rfl
      obtain ⟨u2, hu2⟩ := dd 2 .data _ rfl (by simp) rfl
      have e1 := hv 1 d1 u1 rfl hu1
      have e2 := hv 2 d2 u2 rfl hu2
      rw [h.m1 u1 (Option.some.inj hu1)] at e1
      rw [h.m2 u2 (Option.some.inj hu2)] at e2
      refine step_value (v := S1) (w' := w') rfl ?_ (hK _ _ ⟨x0, x1, x2, some (S1), x4, x5, x6, x7, x8, x9, x10, x11, x12, rfl, ⟨h.below, h.m1, h.m2, (fun _ hv => by cases hv; rfl), h.k5, h.m8, h.m9, h.s10, h.r0, h.r4, h.b6, h.r7, h.r11, h.a12⟩⟩)
      · have r1 : (Instr.sliceAt T (.slice A l.length c) none (some (.int .i64 (i : Int))) none).run P w' = .ok S1 w' := by
          rw [run_sliceAt_slice w' T _ _ _ _ hte, run_slice_h w' T A l.length c hte .i64 (i : Int) (by omega) (by omega), hsof, Result.andThen_ok, Int.toNat_natCast, hS1]
        unfold execOp
        simp only [Option.map_some, Option.map_none, e1, e2, Sem.run_bind, r1, Result.andThen_ok, Sem.run_pure]
    · have eo := Option.some.inj hoj
      obtain rfl : x4 = none := Option.some.inj hn
      obtain rfl : x7 = none := none_of c7a rfl
      obtain rfl : x11 = none := none_of c11a rfl
      obtain ⟨v0, hu0⟩ := dd 0 .data _ eo.symm (by simp) rfl
      obtain ⟨u3, hu3⟩ := dd 3 .data _ eo.symm (by simp) rfl
      have e0 := hv 0 d0 v0 rfl hu0
      have e3 := hv 3 d3 u3 rfl hu3
      obtain rfl : x0 = some v0 := Option.some.inj hu0
      obtain ⟨A1, hA1, hl1⟩ := hL1
      rw [h.s3 u3 (Option.some.inj hu3), hA1] at e3
      subst eo
      refine step_app w' rfl (.tmp d0) (.tmp d3) T e rfl i0 z bytes ht hi hz0 hz1 hz2 hzs hpos hcl hone V.heap.size v0 0 [] e0 (h.r0 v0 rfl rfl) V.heap.size A1 c (l.take i) i (by rw [List.length_take]; omega) e3 (hl1.past h.below (Nat.le_refl _)) (by omega) (by rw [Nat.zero_add]; exact Nat.le_trans (Nat.mul_le_mul_right _ (by omega)) hby) hVw ?_
      intro v' w'' ho' hb' hg'
      rw [Nat.zero_add, List.nil_append] at ho'
      exact hK _ _ ⟨some v0, x1, x2, x3, some v', x5, x6, none, x8, x9, x10, none, x12, rfl, ⟨h.below.trans hb', h.m1, h.m2, h.s3, h.k5, h.m8, h.m9, h.s10, (fun _ _ h4 => by cases h4), (fun _ hv _ => by cases hv; exact ho'), (fun v hv h7 => by obtain ⟨g, e1, e2, e4⟩ := h.b6 v hv h7; exact ⟨g, e1, (hg'.block g e2.inside (fun hh => e4 v0 rfl rfl hh.symm)).trans e2, fun _ _ h4 => by cases h4⟩), (fun _ hv _ => by cases hv), (fun _ hv => by cases hv), h.a12⟩⟩
    · have eo := Option.some.inj hoj
      subst eo
      obtain rfl : x5 = none := Option.some.inj hn
      refine step_value (v := X) (w' := w') rfl ?_ (hK _ _ ⟨x0, x1, x2, x3, x4, some (X), x6, x7, x8, x9, x10, x11, x12, rfl, ⟨h.below, h.m1, h.m2, h.s3, (fun _ hv => by cases hv; rfl), h.m8, h.m9, h.s10, h.r0, h.r4, h.b6, h.r7, h.r11, h.a12⟩⟩)
      · exact h5 a' w' T5 hother h.below
    · have eo := Option.some.inj hoj
      obtain rfl : x6 = none := Option.some.inj hn
      obtain rfl : x7 = none := none_of c7b rfl
      obtain rfl : x11 = none := none_of c11a rfl
      obtain ⟨u5, hu5⟩ := dd 5 .data _ eo.symm (by simp) rfl
      have e5 := hv 5 d5 u5 rfl hu5
      rw [h.k5 u5 (Option.some.inj hu5)] at e5
      subst eo
      have hal : Below w'.heap.size w' (w'.alloc (.cells (cells x).toArray e)) := (Below.refl _ _).alloc (Nat.le_refl _) _
      refine step_value (v := .slice (some ⟨w'.heap.size, 0, none⟩) 1 1) (w' := w'.alloc (.cells (cells x).toArray e)) rfl ?_ (hK _ _ ⟨x0, x1, x2, x3, x4, x5, some (.slice (some ⟨w'.heap.size, 0, none⟩) 1 1), none, x8, x9, x10, none, x12, rfl, ⟨h.below.alloc hVw _, h.m1, h.m2, h.s3, h.k5, h.m8, h.m9, h.s10, (fun v hv h4 => own_below (h.r0 v hv h4) hal), (fun v hv h7 => own_below (h.r4 v hv h7) hal), (fun v hv h7 => by cases hv; exact ⟨_, rfl, Own.made w' e (cells x), fun v0 hv0 h4 hg => by have := ((h.r0 v0 hv0 h4).lt _ hg).2; omega⟩), (fun _ hv _ => by cases hv), (fun _ hv => by cases hv), h.a12⟩⟩)
      · unfold execOp
        simp only [List.map_toArray, List.map_cons, List.map_nil, e5, Sem.run_bind, hb1, Result.andThen_ok, Sem.run_pure]
    · have eo := Option.some.inj hoj
      obtain rfl : x7 = none := Option.some.inj hn
      obtain rfl : x11 = none := none_of c11a rfl
      obtain ⟨v4, hu4⟩ := dd 4 .data _ eo.symm (by simp) rfl
      obtain ⟨v6, hu6⟩ := dd 6 .data _ eo.symm (by simp) rfl
      have e4 := hv 4 d4 v4 rfl hu4
      have e6 := hv 6 d6 v6 rfl hu6
      obtain rfl : x4 = some v4 := Option.some.inj hu4
      obtain rfl : x6 = some v6 := Option.some.inj hu6
      obtain ⟨g, rfl, hog, _⟩ := h.b6 v6 rfl rfl
      subst eo
      have hlx : Lies size cells w' (g + 1) (some ⟨g, 0, none⟩) [x] := fun _ => by
        refine ⟨g, 0, rfl, by omega, fun k y hk j u hu => ?_⟩
        match k, hk with
        | 0, hk =>
          obtain rfl : x = y := by simpa using hk
          rw [show (0 : Nat) + 0 * size + j = j by omega, hog.at_ j]
          exact hu
      refine step_app w' rfl (.tmp d4) (.tmp d6) T e rfl i0 z bytes ht hi hz0 hz1 hz2 hzs hpos hcl hone V.heap.size v4 i _ e4 (h.r4 v4 rfl rfl) (g + 1) (some ⟨g, 0, none⟩) 1 [x] 1 rfl e6 hlx (by omega) (Nat.le_trans (Nat.mul_le_mul_right _ (by omega)) hby) hVw ?_
      intro v' w'' ho' hb' hg'
      rw [← List.flatMap_append] at ho'
      exact hK _ _ ⟨x0, x1, x2, x3, some v4, x5, some (.slice (some ⟨g, 0, none⟩) 1 1), some v', x8, x9, x10, none, x12, rfl, ⟨h.below.trans hb', h.m1, h.m2, h.s3, h.k5, h.m8, h.m9, h.s10, (fun _ _ h4 => by cases h4), (fun _ _ h7 => by cases h7), (fun _ _ h7 => by cases h7), (fun _ hv _ => by cases hv; exact ho'), (fun _ hv => by cases hv), h.a12⟩⟩
    · have eo := Option.some.inj hoj
      subst eo
      obtain rfl : x8 = none := Option.some.inj hn
      obtain rfl : x12 = none := none_of c12c rfl
      refine step_value (v := .slice A l.length c) (w' := w') rfl ?_ (hK _ _ ⟨x0, x1, x2, x3, x4, x5, x6, x7, some (.slice A l.length c), x9, x10, x11, none, rfl, ⟨h.below, h.m1, h.m2, h.s3, h.k5, (fun _ hv => by cases hv; rfl), h.m9, h.s10, h.r0, h.r4, h.b6, h.r7, h.r11, h.a12⟩⟩)
      · show Result.ok (Next.value (a'.eval (.tmp so))) w' = _
        rw [hO rfl]
    · have eo := Option.some.inj hoj
      subst eo
      obtain rfl : x9 = none := Option.some.inj hn
      refine step_value (v := .int .i64 (i : Int)) (w' := w') rfl ?_ (hK _ _ ⟨x0, x1, x2, x3, x4, x5, x6, x7, x8, some (.int .i64 (i : Int)), x10, x11, x12, rfl, ⟨h.below, h.m1, h.m2, h.s3, h.k5, h.m8, (fun _ hv => by cases hv; rfl), h.s10, h.r0, h.r4, h.b6, h.r7, h.r11, h.a12⟩⟩)
      · show Result.ok (Next.value (a'.eval (.tmp sa))) w' = _
        rw [hI]
    · have eo := Option.some.inj hoj
      subst eo
      obtain rfl : x10 = none := Option.some.inj hn
      obtain ⟨u8, hu8⟩ := dd 8 .data _ rfl (by simp) rfl
      obtain ⟨u9, hu9⟩ := dd 9 .data _ rfl (by simp) rfl
      have e8 := hv 8 d8 u8 rfl hu8
      have e9 := hv 9 d9 u9 rfl hu9
      rw [h.m8 u8 (Option.some.inj hu8)] at e8
      rw [h.m9 u9 (Option.some.inj hu9)] at e9
      refine step_value (v := S2) (w' := w') rfl ?_ (hK _ _ ⟨x0, x1, x2, x3, x4, x5, x6, x7, x8, x9, some (S2), x11, x12, rfl, ⟨h.below, h.m1, h.m2, h.s3, h.k5, h.m8, h.m9, (fun _ hv => by cases hv; rfl), h.r0, h.r4, h.b6, h.r7, h.r11, h.a12⟩⟩)
      · have r1 : (Instr.sliceAt T (.slice A l.length c) (some (.int .i64 (i : Int))) none none).run P w' = .ok S2 w' := by
          rw [run_sliceAt_slice w' T _ _ _ _ hte, run_slice_l w' T A l.length c hte .i64 (i : Int) (by omega) (by omega), hsof, Result.andThen_ok, Int.toNat_natCast, hS2]
        unfold execOp
        simp only [Option.map_some, Option.map_none, e8, e9, Sem.run_bind, r1, Result.andThen_ok, Sem.run_pure]
    · have eo := Option.some.inj hoj
      obtain rfl : x11 = none := Option.some.inj hn
      obtain rfl : x12 = none := none_of c12a rfl
      obtain ⟨v7, hu7⟩ := dd 7 .data _ eo.symm (by simp) rfl
      obtain ⟨u10, hu10⟩ := dd 10 .data _ eo.symm (by simp) rfl
      have e7 := hv 7 d7 v7 rfl hu7
      have e10 := hv 10 d10 u10 rfl hu10
      obtain rfl : x7 = some v7 := Option.some.inj hu7
      obtain ⟨A2, hA2, hl2⟩ := hL2
      rw [h.s10 u10 (Option.some.inj hu10), hA2] at e10
      subst eo
      refine step_app w' rfl (.tmp d7) (.tmp d10) T e rfl i0 z bytes ht hi hz0 hz1 hz2 hzs hpos hcl hone V.heap.size v7 (i + 1) _ e7 (h.r7 v7 rfl rfl) V.heap.size A2 (c - i) (l.drop i) (l.length - i) (by rw [List.length_drop]) e10 (hl2.past h.below (Nat.le_refl _)) (by omega) (Nat.le_trans (Nat.mul_le_mul_right _ (by omega)) hby) hVw ?_
      intro v' w'' ho' hb' hg'
      rw [← List.flatMap_append, List.append_assoc, show i + 1 + (l.length - i) = l.length + 1 by omega] at ho'
      exact hK _ _ ⟨x0, x1, x2, x3, x4, x5, x6, some v7, x8, x9, x10, some v', none, rfl, ⟨h.below.trans hb', h.m1, h.m2, h.s3, h.k5, h.m8, h.m9, h.s10, (fun v hv h4 => by obtain ⟨u, hu⟩ := c7a v7 rfl; rw [h4] at hu; cases hu), (fun _ _ h7 => by cases h7), (fun _ _ h7 => by cases h7), (fun _ _ h11 => by cases h11), (fun _ hv => by cases hv; exact ho'), (fun _ hv => by cases hv)⟩⟩
    · have eo := Option.some.inj hoj
      obtain rfl : x12 = none := Option.some.inj hn
      obtain ⟨v11, hu11⟩ := dd 11 .data _ eo.symm (by simp) rfl
      have e11 := hv 11 d11 v11 rfl hu11
      obtain rfl : x11 = some v11 := Option.some.inj hu11
      subst eo
      refine step_value (v := v11) (w' := w') rfl ?_ (hK _ _ ⟨x0, x1, x2, x3, x4, x5, x6, x7, x8, x9, x10, some v11, some v11, rfl, ⟨h.below, h.m1, h.m2, h.s3, h.k5, h.m8, h.m9, h.s10, h.r0, h.r4, h.b6, h.r7, h.r11, (fun _ hv => by cases hv; rfl)⟩⟩)
      · show Result.ok (Next.value (a'.eval (.tmp d11))) w' = _
        rw [e11]
end
theorem load_own {P : Program} {w : World} {g : Nat} {t ty : TypeId} {l : List Value} {d : TypeDesc} (h : Own w g t l) (hu : P.underlying ty = some d) (hd : (match d with | .struct _ | .array _ _ => true | _ => false) = true) (hi : (P.info? ty).map (·.size) = some l.length) :
    (Instr.loadAt ty (.pointer (some ⟨g, 0, none⟩))).run P w = .ok (.agg l.toArray) w := by
  simp only [Instr.loadAt, Instr.sureAddr, Sem.run_bind, Sem.run_pure, Result.andThen_ok]
  exact run_loadVar_row w g t ty l.toArray (0, 0) d h hu hd (by simpa using hi)
/-- the new one is read from a variable -/
theorem load_op {P : Program} {a a' : Act} {V w' : World} {g sb : Nat} {tx ty T5 : TypeId} {l : List Value} {d : TypeDesc} {d5 : Tmp} {p5 : String} (hs : a'.eval (.tmp sb) = a.eval (.tmp sb)) (ha : a.eval (.tmp sb) = .pointer (some ⟨g, 0, none⟩)) (h : Own V g tx l) (hb : Below V.heap.size V w')
    (hu : P.underlying ty = some d) (hd : (match d with | .struct _ | .array _ _ => true | _ => false) = true) (hi : (P.info? ty).map (·.size) = some l.length) :
    (execOp a'.eval { dst := some d5, op := .load ty (.tmp sb), type := T5, pos := p5, after := #[], guard := none }).run P w' = .ok (.value (.agg l.toArray)) w' := by
  unfold execOp
  simp only [hs, ha, Sem.run_bind, load_own (h.past hb h.inside) hu hd hi, Result.andThen_ok, Sem.run_pure]
end Go.Proofs.YtbccdmpnojdldaaGreat
namespace Go.Proofs.YtbccdmpnojdldaaGreat
open Go Go.RowKit

theorem infoWd : (Tryz.prog.info? 107).map (fun i => (i.zero, i.size, i.bytes)) = some (some (.agg #[.int .i64 0, .int .u64 0]), 2, 16) := by kernel_rfl
/-- what lies in the two rows, of the first j updates -/
structure Ref2 (w : World) (base : Nat) (v8 v9 : Value) (P : List (Ln Up)) : Prop where
  outs : w.ownsRow base 60 6 v8 P.length ((P.map Ln.u).flatMap Up.cells)
  sums : w.ownsRow base 107 2 v9 P.length ((P.map Ln.S).flatMap wcells)
  apart : ∀ b, v8.ownBlock = some b → v9.ownBlock ≠ some b
theorem bsU0 (w' : World) : (Instr.buildSlice 24 0 #[]).run Tryz.prog w' = .ok (.slice (some ⟨w'.heap.size, 0, none⟩) 0 0) (w'.alloc (.cells #[] 60)) := by kernel_rfl
theorem bsU1 (u : Up) (w' : World) : (Instr.buildSlice 24 1 #[(0, .agg u.cells.toArray)]).run Tryz.prog w' = .ok (.slice (some ⟨w'.heap.size, 0, none⟩) 1 1) (w'.alloc (.cells u.cells.toArray 60)) := by kernel_rfl
theorem bsW0 (w' : World) : (Instr.buildSlice 105 0 #[]).run Tryz.prog w' = .ok (.slice (some ⟨w'.heap.size, 0, none⟩) 0 0) (w'.alloc (.cells #[] 107)) := by kernel_rfl
theorem bsW1 (w' : World) : (Instr.buildSlice 105 1 #[(0, .agg #[.int .i64 0, .int .u64 0])]).run Tryz.prog w' = .ok (.slice (some ⟨w'.heap.size, 0, none⟩) 1 1) (w'.alloc (.cells (wcells 0).toArray 107)) := by kernel_rfl
theorem bsWz (w' : World) : (Instr.build 107 #[]).run Tryz.prog w' = .ok (.agg #[.int .i64 0, .int .u64 0]) w' := by kernel_rfl
/-- those that are left -/
def evn (P : List (Ln Up)) : List Up := (P.filter fun x => x.S != 0).map fun x => { x.u with d := x.S }
theorem evn_snoc {P : List (Ln Up)} {k : Nat} {x : Ln Up} (h : P[k]? = some x) : evn (P.take (k + 1)) = evn (P.take k) ++ (if x.S = 0 then [] else [{ x.u with d := x.S }]) := by
  unfold evn
  rw [List.take_add_one, h, List.filter_append, List.map_append]
  congr 1
  by_cases h0 : x.S = 0
  · rw [if_pos h0]; simp [h0]
  · rw [if_neg h0]; simp [h0]
theorem evn_p (P : List (Ln Up)) : (evn P).map Up.p = (P.map (pL Up.k)).filter fun x => x.2 != 0 := by
  unfold evn
  rw [List.filter_map, List.map_map]
  rfl
/-- whether an update has no place yet -/
def needsR (P : List (Ln Up)) (i : Nat) (u : Up) : Bool := match P[i]? with | none => true | some y => decide (0 < y.u.k.cmp u.k)
set_option maxRecDepth 100000 in
set_option maxHeartbeats 16000000 in
theorem rcons_new (A : Option Addr) (c : Nat) (L : List (Rw Up)) (w : World) (hl : ULs w w.heap.size A L) (hok : ∀ s ∈ L, ∀ u ∈ s.l, UOk u) (hn : (flatR L).length ≤ 1048576) (hn2 : L.length ≤ 1048576) :
    Calls Tryz.prog 40 #[.slice A L.length c] w (UpsNew (consL (L.map Rw.l)) (consE (L.map Rw.l)) w) := by
  obtain ⟨i0, hi, hz0, hz1, hz2⟩ := info_parts infoUp'
  have HI := Lib.hid (And.intro Tryz.underlying24 (And.intro hi (And.intro hz0 (And.intro hz1 hz2))))
  obtain ⟨j0, hi, hz0, hz1, hz2⟩ := info_parts infoWd
  have HJ0 := Lib.hid (And.intro Tryz.underlying105 (And.intro hi (And.intro hz0 (And.intro hz1 hz2))))
  have HL := Lib.hid (And.intro hl hok)
  clear hl hok hi hz0 hz1 hz2
  go_enter Tryz.func40, Tryz.ntmps40
  go_wp2_with fail
  go_loopw [4, 20] (fun v4 v20 wr => ∃ k : Nat, v20 = .int .i64 (k : Int) ∧ k ≤ L.length ∧ wr.ownsRow w.heap.size 60 6 v4 (flatR (L.take k)).length ((flatR (L.take k)).flatMap Up.cells) ∧ Below w.heap.size w wr ∧ chkLs ((L.map Rw.l).take k) = 0)
    (fun _ v20 _ => L.length - (intOf v20).toNat)
  case atStart => exact ⟨0, rfl, by omega, World.ownsRow_nil _ _ _ _, Below.refl _ _, rfl⟩
  case round =>
    obtain ⟨k, rfl, hk, hown, hbw, hchk⟩ := hrel
    obtain ⟨wo, hwo⟩ : ∃ wo, wo = wr := ⟨_, rfl⟩
    subst hwo
    by_cases hlt : k < L.length
    · have hx : L[k]? = some L[k] := List.getElem?_eq_getElem hlt
      have hxm := List.mem_of_getElem? hx
      generalize L[k] = s at *
      obtain ⟨b, o, rfl, hB, hc0, hups⟩ := HL.out.1.at_ hx
      have hc0 := (hbw.cell (p := ⟨b, o + k, none⟩) hB).trans hc0
      have hxl : (L.map Rw.l)[k]? = some s.l := by rw [List.getElem?_map, hx]; rfl
      have hsn : (flatR (L.take k)).length + s.l.length ≤ 1048576 := by have := flatR_len hx (Nat.le_refl _); omega
      have hcall := Lib.hid (rcheck_any s.A s.c s.l wo ((hups.past hbw (Nat.le_refl _)).wide hbw.size) (by omega) (HL.out.2 s hxm))
      have hnx := chkLs_take hxl hchk
      have hbad := fun h => chkLs_bad hxl hchk h
      have HO := Lib.hid (And.intro hown (And.intro hbw (And.intro hx (And.intro hxm (And.intro hups (And.intro hnx hbad))))))
      have q0 : (0 : Int) ≤ (k : Int) := by omega
      have q1 : (k : Int) < (L.length : Int) := by omega
      have q2 : decide ((k : Int) < (L.length : Int)) = true := decide_eq_true q1
      obtain ⟨K, hK⟩ : ∃ K, chkUs s.l = K := ⟨_, rfl⟩
      obtain ⟨KA, hKA⟩ : ∃ KA, s.A = KA := ⟨_, rfl⟩
      rw [hK, hKA] at hcall
      rw [hKA] at hc0
      have HKA := Lib.hid hKA
      have HK := Lib.hid hK
      clear hown hbw hchk hx hxm hups hxl hnx hbad hK hKA
      go_wp2_with fail
      refine hcall.out.mono ?_
      rintro _ w1 ⟨rfl, b1⟩
      have hb1 := HO.out.2.1.trans (b1.mono HO.out.2.1.size)
      have hL1 := HO.out.2.2.2.2.1.head.past hb1 (Nat.le_refl _)
      rw [HKA.out] at hL1
      have hs1 : w.heap.size ≤ w1.heap.size := hb1.size
      have H1 := Lib.hid (And.intro hb1 (And.intro (own_below HO.out.1 b1) hL1))
      clear b1 hcall hc0 hb1 hL1
      by_cases hK0 : K = 0
      case neg =>
        have t1 : (K != 0) = true := bne_iff_ne.2 hK0
        have hb := HO.out.2.2.2.2.2.2 (by rw [HK.out]; exact hK0)
        have hcl : consL (L.map Rw.l) = [] := by unfold consL; rw [if_neg (by rw [hb, HK.out]; exact hK0)]
        have hce : consE (L.map Rw.l) = K := by unfold consE; rw [if_neg (by rw [hb, HK.out]; exact hK0), hb, HK.out]
        have HR := Lib.hid (And.intro hcl hce)
        clear hK0 hb hcl hce
        go_wp2_with fail
        go_ret2
        exact ⟨none, 0, [], by rw [HR.out.2]; rfl, HR.out.1.symm, ⟨Lies.nil_, fun u hu => (by cases hu)⟩, fun u hu => (by cases hu), H1.out.1, lo_nil _⟩
      subst hK0
      go_wp2_with (at_builtin; refine wpList_append_lies _ rfl (.tmp 29) (.tmp 30) 24 60 rfl i0 _ 80 HI.out.1 HI.out.2.1 HI.out.2.2.1 HI.out.2.2.2.1 HI.out.2.2.2.2 rfl (by decide) ucells_len ucells_one w.heap.size _ _ _ rfl H1.out.2.1 s.c rfl H1.out.2.2 ?m1 ?m2 ?m3 ?m4)
      case m1 => unfold maxLen; omega
      case m2 => omega
      case m3 => exact hs1
      intro v' w' ho' hb'
      have HA := Lib.hid (And.intro ho' (H1.out.1.trans hb'))
      clear ho' hb'
      go_wp2_with fail
      go_roundw
      case rel =>
        refine ⟨k + 1, by go_num, by omega, ?_, HA.out.2, by rw [HO.out.2.2.2.2.2.1, HK.out]⟩
        rw [flatR_take HO.out.2.2.1, List.length_append, List.flatMap_append]
        exact HA.out.1
      case measure => simp [intOf]; omega
    · have hk2 : k = L.length := by omega
      subst hk2
      have q2 : decide ((L.length : Int) < (L.length : Int)) = false := decide_eq_false (by omega)
      rw [List.take_length] at hown
      rw [List.take_of_length_le (by rw [List.length_map]; exact Nat.le_refl _)] at hchk
      obtain ⟨all, hall⟩ : ∃ all, flatR L = all := ⟨_, rfl⟩
      rw [hall] at hown hn
      obtain ⟨A4, c4, rfl, _, _, h4⟩ := lies_of_own (size := 6) (cells := Up.cells) (by decide) ucells_len rfl hown
      have hgood : ∀ u ∈ all, chkU u = 0 ∧ UOk u ∧ UIn w w.heap.size u := fun u hu => by
        rw [← hall] at hu
        obtain ⟨s, hs, hus⟩ := List.mem_flatMap.1 hu
        exact ⟨chkUs_all.1 (chkLs_all.1 hchk s.l (List.mem_map_of_mem hs)) u hus, HL.out.2 s hs u hus, (HL.out.1.each_ s hs).each_ u hus⟩
      have hu4 : Ups wo wo.heap.size A4 all := ⟨h4, fun u hu => ((hgood u hu).2.2.past hbw (Nat.le_refl _)).wide hbw.size⟩
      have hcl : consL (L.map Rw.l) = resL Uk.cmp (all.map Up.p) := by unfold consL; rw [if_pos hchk, ← flatR_flat, hall]
      have hce : consE (L.map Rw.l) = resE Uk.cmp (all.map Up.p) := by unfold consE; rw [if_pos hchk, ← flatR_flat, hall]
      have HW := Lib.hid (And.intro hu4 (And.intro hbw (And.intro hgood (And.intro hcl hce))))
      clear hown hchk h4 hgood hu4 hbw hcl hce hall
      go_wp2_with fail
      go_loopw [8, 9, 35] (fun v8 v9 v35 wr => ∃ (j : Nat) (P : List (Ln Up)), v35 = .int .i64 (j : Int) ∧ j ≤ all.length ∧ P.length ≤ j ∧ Ref2 wr wo.heap.size v8 v9 P ∧ P.map (pL Up.k) = asm Uk.cmp ((all.take j).map Up.p) ∧ (∀ x ∈ P, x.u ∈ all ∧ -(9223372036854775808 * (j : Int)) ≤ x.S ∧ x.S ≤ 9223372036854775808 * (j : Int)) ∧ Below wo.heap.size wo wr)
        (fun _ _ v35 _ => all.length - (intOf v35).toNat)
      case atStart => exact ⟨0, [], rfl, by omega, by simp, ⟨World.ownsRow_nil _ _ _ _, World.ownsRow_nil _ _ _ _, fun b e => (by cases e)⟩, rfl, fun x hx => (by cases hx), Below.refl _ _⟩
      case round =>
        obtain ⟨j, P, rfl, hj, hPj, hrf, hasm, hin, hbj⟩ := hrel
        obtain ⟨wi, hwi⟩ : ∃ wi, wi = wr := ⟨_, rfl⟩
        subst hwi
        by_cases hjt : j < all.length
        · have hy : all[j]? = some all[j] := List.getElem?_eq_getElem hjt
          have hym := List.mem_of_getElem? hy
          generalize all[j] = u at *
          obtain ⟨g, o, rfl, hB, hys⟩ := lies_up HW.out.1.head (by omega)
          obtain ⟨e0, e1, e2, e3, e4, e5⟩ := ((hys j u hy).past_ hbj hB).six
          obtain ⟨V, hV, hvb, hvs, hvo⟩ := upbox wi u
          have hbV := hbj.trans (hvb.mono hbj.size)
          have hrfV : Ref2 V wo.heap.size u8 u9 P := ⟨own_below hrf.outs hvb, own_below hrf.sums hvb, hrf.apart⟩
          obtain ⟨A8, c8, hv8, hc8, hm8, hl8⟩ := lies_of_own (size := 6) (cells := Up.cells) (l := P.map Ln.u) (by decide) ucells_len (by rw [List.length_map]) hrfV.outs
          obtain ⟨A9, c9, hv9, hc9, hm9, hl9⟩ := lies_of_own (size := 2) (cells := wcells) (l := P.map Ln.S) (by decide) wcells_len (by rw [List.length_map]) hrfV.sums
          rw [List.length_map] at hv8 hc8 hv9 hc9
          subst hv8 hv9
          have HJ := Lib.hid (And.intro hy (And.intro hym (And.intro hasm (And.intro hin (And.intro hbV (And.intro hvo (And.intro hrfV (And.intro hl8 hl9))))))))
          have q3 : (0 : Int) ≤ (j : Int) := by omega
          have q4 : (j : Int) < (all.length : Int) := by omega
          have q5 : decide ((j : Int) < (all.length : Int)) = true := decide_eq_true q4
          clear hy hym hys hvb hvs hrf hasm hin hbj hbV hrfV hl8 hl9 hvo
          go_upto_region 15 with fail
          rw [← hV]
          clear hV e0 e1 e2 e3 e4 e5
          go_upto_block 4 with fail
          go_cut [12] (fun v12 wx => ∃ i : Nat, v12 = .int .i64 (i : Int) ∧ i ≤ P.length ∧ (∀ z ∈ P.take i, z.u.k.cmp u.k < 0) ∧ (∀ y, P[i]? = some y → 0 ≤ y.u.k.cmp u.k) ∧ Below V.heap.size V wx)
          case first =>
            go_wp2_with fail
            go_loopw [12] (fun v12 wx => ∃ i : Nat, v12 = .int .i64 (i : Int) ∧ i ≤ P.length ∧ (∀ z ∈ P.take i, z.u.k.cmp u.k < 0) ∧ Below V.heap.size V wx) (fun v12 _ => P.length - (intOf v12).toNat)
            case atStart => exact ⟨0, rfl, by omega, fun z hz => (by cases hz), Below.refl _ _⟩
            case round =>
              obtain ⟨i, rfl, hi, hlow, hbi⟩ := hrel
              obtain ⟨wx, hwx⟩ : ∃ wx, wx = wr := ⟨_, rfl⟩
              subst hwx
              by_cases hit : i < P.length
              · have hz : P[i]? = some P[i] := List.getElem?_eq_getElem hit
                generalize P[i] = y at *
                have hzm := List.mem_of_getElem? hz
                have hzu : (P.map Ln.u)[i]? = some y.u := by rw [List.getElem?_map, hz]; rfl
                obtain ⟨g8, o8, rfl, hB8, hx8⟩ := lies_up HJ.out.2.2.2.2.2.2.2.1 (by rw [List.length_map]; omega)
                have hyg := HW.out.2.2.1 y.u (HJ.out.2.2.2.1 y hzm).1
                have hug := HW.out.2.2.1 u HJ.out.2.1
                have hbw2 : Below w.heap.size w V := HW.out.2.1.trans (HJ.out.2.2.2.2.1.mono HW.out.2.1.size)
                have hin := fun (z : Up) (hz : UIn w w.heap.size z) (p : Past wx) => ((hz.past hbw2 (Nat.le_refl _)).wide hbw2.size).keep (hbi.trans (p.h.mono hbi.size))
                have u1 : ∀ p : Past wx, Calls Tryz.prog 83 #[.agg #[.slice y.u.kA y.u.key.length y.u.kc, .slice y.u.rA y.u.row.length y.u.rc, .int .u64 (y.u.t.e : Int), .int .u64 (y.u.t.a : Int), .int .u64 (y.u.t.b : Int), .int .i64 y.u.d], .agg #[.slice u.kA u.key.length u.kc, .slice u.rA u.row.length u.rc, .int .u64 (u.t.e : Int), .int .u64 (u.t.a : Int), .int .u64 (u.t.b : Int), .int .i64 u.d]] p.w fun e w'' => e = .returned (.int .i64 (y.u.k.cmp u.k)) ∧ ∃ q : Past wx, w'' = q.w := fun p =>
                  calls_past (rcompare_any y.u u p.w (hin y.u hyg.2.2 p) (hin u hug.2.2 p) hyg.2.1 hug.2.1)
                have u3 := fun p : Past wx => own6 (HJ.out.2.2.2.2.2.1.past (hbi.trans (p.h.mono hbi.size)) HJ.out.2.2.2.2.2.1.inside)
                have u4 := fun p : Past wx => ((hx8 i y.u hzu).past_ (hbi.trans (p.h.mono hbi.size)) hB8).six
                obtain ⟨r, hr⟩ : ∃ r, y.u.k.cmp u.k = r := ⟨_, rfl⟩
                rw [hr] at u1
                have HR := Lib.hid (And.intro hr (And.intro hz (And.intro hlow hbi)))
                have q6 : (0 : Int) ≤ (i : Int) := by omega
                have q7 : (i : Int) < (P.length : Int) := by omega
                have q8 : decide ((i : Int) < (P.length : Int)) = true := decide_eq_true q7
                by_cases hr0 : r < 0
                · have t1 : decide (r < 0) = true := decide_eq_true hr0
                  have HR0 := Lib.hid hr0
                  clear hr0 hr hz hzm hzu hx8 hyg hug hin hlow hbi hbw2
                  go_upto_region 16 with fail
                  refine wp_region_past wx (by kernel_rfl) (by kernel_rfl) (Below.refl _ _) ?_
                  repeat (first | go_big_quiet_step ((go_at_call 83; exact u1 _)) | quiet_step ((go_at_call 83; exact u1 _)))
                  refine wpQuiet_nil ?_
                  intro wz hw'
                  obtain ⟨⟨wy, hbz⟩, hw''⟩ := hw'
                  dsimp only at hw''
                  subst hw''
                  have HZ := Lib.hid (HR.out.2.2.2.trans (hbz.mono HR.out.2.2.2.size))
                  clear u1 u3 u4 hbz t1
                  go_wp2_with fail
                  go_roundw
                  case rel =>
                    refine ⟨i + 1, by go_num, by omega, fun z hz => ?_, HZ.out⟩
                    rw [List.take_add_one, HR.out.2.1] at hz
                    rcases List.mem_append.1 hz with hz | hz
                    · exact HR.out.2.2.1 z hz
                    · obtain rfl : z = y := by simpa using hz
                      rw [HR.out.1]
                      exact HR0.out
                  case measure => simp [intOf]; omega
                · have t1 : decide (r < 0) = false := decide_eq_false hr0
                  have HR0 := Lib.hid hr0
                  clear hr0 hr hz hzm hzu hx8 hyg hug hin hlow hbi hbw2
                  go_upto_region 16 with fail
                  refine wp_region_past wx (by kernel_rfl) (by kernel_rfl) (Below.refl _ _) ?_
                  repeat (first | go_big_quiet_step ((go_at_call 83; exact u1 _)) | quiet_step ((go_at_call 83; exact u1 _)))
                  refine wpQuiet_nil ?_
                  intro wz hw'
                  obtain ⟨⟨wy, hbz⟩, hw''⟩ := hw'
                  dsimp only at hw''
                  subst hw''
                  have HZ := Lib.hid (HR.out.2.2.2.trans (hbz.mono HR.out.2.2.2.size))
                  clear u1 u3 u4 hbz t1
                  go_wp2_with fail
                  go_meet
                  exact ⟨i, rfl, by omega, HR.out.2.2.1, fun z hz => by
                    rw [HR.out.2.1] at hz
                    obtain rfl := Option.some.inj hz
                    rw [HR.out.1]
                    have := HR0.out
                    omega, HZ.out⟩
              · have q8 : decide ((i : Int) < (P.length : Int)) = false := decide_eq_false (by omega)
                have HR := Lib.hid (And.intro hlow hbi)
                clear hlow hbi
                go_upto_region 16 with fail
                go_quiet (fail)
                go_wp2_with fail
                go_meet
                exact ⟨i, rfl, hi, HR.out.1, fun z hz => by
                  have := (List.getElem?_eq_some_iff.1 hz).1
                  omega, below_draws HR.out.2 _⟩
          case rest =>
            obtain ⟨i, rfl, hi, hlow, hup, hbi⟩ := hcut
            obtain ⟨wx, hwx⟩ : ∃ wx, wx = wc := ⟨_, rfl⟩
            subst hwx
            have HX := Lib.hid (And.intro hlow (And.intro hup hbi))
            clear hlow hup hbi
            go_upto_region 18 with fail
            go_cut [66] (fun v66 wz => v66 = .bool (needsR P i u) ∧ Below V.heap.size V wz)
            case first =>
              by_cases hit : i < P.length
              · have hz : P[i]? = some P[i] := List.getElem?_eq_getElem hit
                generalize P[i] = y at *
                have hzm := List.mem_of_getElem? hz
                have hzu : (P.map Ln.u)[i]? = some y.u := by rw [List.getElem?_map, hz]; rfl
                obtain ⟨g8, o8, rfl, hB8, hx8⟩ := lies_up HJ.out.2.2.2.2.2.2.2.1 (by rw [List.length_map]; omega)
                have hyg := HW.out.2.2.1 y.u (HJ.out.2.2.2.1 y hzm).1
                have hug := HW.out.2.2.1 u HJ.out.2.1
                have hbw2 : Below w.heap.size w V := HW.out.2.1.trans (HJ.out.2.2.2.2.1.mono HW.out.2.1.size)
                have hbi := HX.out.2.2
                have hin := fun (z : Up) (hz : UIn w w.heap.size z) (p : Past wx) => ((hz.past hbw2 (Nat.le_refl _)).wide hbw2.size).keep (hbi.trans (p.h.mono hbi.size))
                have u1 : ∀ p : Past wx, Calls Tryz.prog 83 #[.agg #[.slice y.u.kA y.u.key.length y.u.kc, .slice y.u.rA y.u.row.length y.u.rc, .int .u64 (y.u.t.e : Int), .int .u64 (y.u.t.a : Int), .int .u64 (y.u.t.b : Int), .int .i64 y.u.d], .agg #[.slice u.kA u.key.length u.kc, .slice u.rA u.row.length u.rc, .int .u64 (u.t.e : Int), .int .u64 (u.t.a : Int), .int .u64 (u.t.b : Int), .int .i64 u.d]] p.w fun e w'' => e = .returned (.int .i64 (y.u.k.cmp u.k)) ∧ ∃ q : Past wx, w'' = q.w := fun p =>
                  calls_past (rcompare_any y.u u p.w (hin y.u hyg.2.2 p) (hin u hug.2.2 p) hyg.2.1 hug.2.1)
                have u3 := fun p : Past wx => own6 (HJ.out.2.2.2.2.2.1.past (hbi.trans (p.h.mono hbi.size)) HJ.out.2.2.2.2.2.1.inside)
                have u4 := fun p : Past wx => ((hx8 i y.u hzu).past_ (hbi.trans (p.h.mono hbi.size)) hB8).six
                obtain ⟨r, hr⟩ : ∃ r, y.u.k.cmp u.k = r := ⟨_, rfl⟩
                rw [hr] at u1
                have hnd : needsR P i u = decide (0 < r) := by unfold needsR; rw [hz, ← hr]
                have HR := Lib.hid hbi
                have q6 : (0 : Int) ≤ (i : Int) := by omega
                have q7 : (i : Int) < (P.length : Int) := by omega
                have q8 : ((i : Int) == (P.length : Int)) = false := by rw [beq_eq_false_iff_ne]; omega
                have q9 : decide (i = P.length) = false := decide_eq_false (by omega)
                obtain ⟨B, hB'⟩ : ∃ B, decide (0 < r) = B := ⟨_, rfl⟩
                have HN := Lib.hid (hnd.trans hB')
                clear hr hz hzm hzu hx8 hyg hug hin hbi hbw2 hnd
                go_upto_region 18 with fail
                refine wp_region_past wx (by kernel_rfl) (by kernel_rfl) (Below.refl _ _) ?_
                repeat (first | go_big_quiet_step ((go_at_call 83; exact u1 _)) | quiet_step ((go_at_call 83; exact u1 _)))
                refine wpQuiet_nil ?_
                intro wz hw'
                obtain ⟨⟨wy, hbz⟩, hw''⟩ := hw'
                dsimp only at hw''
                subst hw''
                have HZ := Lib.hid (HR.out.trans (hbz.mono HR.out.size))
                clear u1 u3 u4 hbz
                go_wp2_with fail
                go_meet
                exact ⟨by rw [HN.out], HZ.out⟩
              · have q8 : ((i : Int) == (P.length : Int)) = true := by rw [beq_iff_eq]; omega
                have hnd : needsR P i u = true := by unfold needsR; rw [List.getElem?_eq_none (by omega)]
                have HN := Lib.hid hnd
                clear hnd
                go_upto_region 18 with fail
                go_quiet (fail)
                go_wp2_with fail
                go_meet
                exact ⟨by rw [HN.out], below_draws HX.out.2.2 _⟩
            case rest =>
              obtain ⟨rfl, hbz⟩ := hcut
              obtain ⟨wn, hwn⟩ : ∃ wn, wn = wc := ⟨_, rfl⟩
              subst hwn
              have HZ := Lib.hid hbz
              clear hbz
              obtain ⟨nb, hnb⟩ : ∃ nb, needsR P i u = nb := ⟨_, rfl⟩
              rw [hnb]
              have HNB := Lib.hid hnb
              clear hnb
              go_upto_if 66 with fail
              go_cut [8, 9] (fun v8 v9 wz => ∃ (P1 : List (Ln Up)) (y : Ln Up), P1[i]? = some y ∧ Ref2 wz wo.heap.size v8 v9 P1 ∧ (P1.set i ⟨y.S + u.d, y.u⟩).map (pL Up.k) = ins Uk.cmp u.p (P.map (pL Up.k)) ∧ P1.length ≤ P.length + 1 ∧ (∀ x ∈ P1, x ∈ P ∨ x = ⟨0, u⟩) ∧ Below V.heap.size V wz)
              case first =>
                cases nb with
                | false =>
                  go_wp2_with fail
                  go_meet
                  obtain ⟨y, hy, hr⟩ : ∃ y, P[i]? = some y ∧ ¬ 0 < y.u.k.cmp u.k := by
                    have := HNB.out
                    unfold needsR at this
                    cases hp : P[i]? with
                    | none => rw [hp] at this; cases this
                    | some y => rw [hp] at this; exact ⟨y, rfl, of_decide_eq_false this⟩
                  have h0 := HX.out.2.1 y hy
                  exact ⟨P, y, hy, ⟨own_below HJ.out.2.2.2.2.2.2.1.outs HZ.out, own_below HJ.out.2.2.2.2.2.2.1.sums HZ.out, HJ.out.2.2.2.2.2.2.1.apart⟩, ins_same P i u.p y HX.out.1 hy (by show y.u.k.cmp u.k = 0; omega), by omega, fun x hx => .inl hx, HZ.out⟩
                | true =>
                  have Hl8 := Lib.hid ((HJ.out.2.2.2.2.2.2.2.1.past HZ.out (Nat.le_refl _)).wide HZ.out.size)
                  have HU := Lib.hid (HJ.out.2.2.2.2.2.1.past HZ.out HJ.out.2.2.2.2.2.1.inside)
                  go_upto_region 19 with fail
                  refine wp_ins (by kernel_rfl) (by decide) (by decide) 131 rfl (by decide) i0 _ 80 HI.out.1 HI.out.2.1 HI.out.2.2.1 HI.out.2.2.2.1 HI.out.2.2.2.2 rfl (by decide) ucells_len ucells_one (P.map Ln.u) u i A8 c8 P.length (by rw [List.length_map]) hi hc8 (by unfold maxLen; omega) (by omega) rfl rfl Hl8.out (.agg u.cells.toArray) (fun a' w' t5 hot hb => load_op (hot 11 (by decide)) rfl HU.out hb Tryz.underlying60 rfl (by kernel_rfl)) bsU0 (bsU1 u) ?_
                  intro z0 z1 z2 z3 z4 z5 z6 z7 z8 z9 z10 z11 w19 b19 o19
                  simp only [Act.put, List.setIfInBounds_toArray, List.set_cons_zero, List.set_cons_succ]
                  have H19 := Lib.hid (And.intro b19 o19)
                  have Hl9 := Lib.hid ((HJ.out.2.2.2.2.2.2.2.2.past (HZ.out.trans (b19.mono HZ.out.size)) (Nat.le_refl _)).wide (HZ.out.trans (b19.mono HZ.out.size)).size)
                  clear b19 o19
                  go_upto_region 20 with fail
                  refine wp_ins (by kernel_rfl) (by decide) (by decide) 131 rfl (by decide) j0 _ 16 HJ0.out.1 HJ0.out.2.1 HJ0.out.2.2.1 HJ0.out.2.2.2.1 HJ0.out.2.2.2.2 rfl (by decide) wcells_len wcells_one (P.map Ln.S) 0 i A9 c9 P.length (by rw [List.length_map]) hi hc9 (by unfold maxLen; omega) (by omega) rfl rfl Hl9.out (.agg #[.int .i64 0, .int .u64 0]) (fun a' w' t5 hot hb => by unfold execOp; simp only [List.map_toArray, List.map_nil, Sem.run_bind, bsWz, Result.andThen_ok, Sem.run_pure]) bsW0 bsW1 ?_
                  intro y0 y1 y2 y3 y4 y5 y6 y7 y8 y9 y10 y11 w20 b20 o20
                  simp only [Act.put, List.setIfInBounds_toArray, List.set_cons_zero, List.set_cons_succ]
                  have H20 := Lib.hid (And.intro b20 o20)
                  clear b20 o20
                  go_wp2_with fail
                  go_meet
                  have hzs := HZ.out.size
                  have hz1 := H19.out.1.size
                  have hvs : wo.heap.size ≤ V.heap.size := HJ.out.2.2.2.2.1.size
                  have hP1u : (P.map Ln.u).take i ++ u :: (P.map Ln.u).drop i = (P.take i ++ ⟨0, u⟩ :: P.drop i).map Ln.u := by simp [List.map_append, List.map_take, List.map_drop]
                  have hP1S : (P.map Ln.S).take i ++ (0 : Int) :: (P.map Ln.S).drop i = (P.take i ++ ⟨0, u⟩ :: P.drop i).map Ln.S := by simp [List.map_append, List.map_take, List.map_drop]
                  have hP1l : (P.take i ++ (⟨0, u⟩ : Ln Up) :: P.drop i).length = P.length + 1 := by simp; omega
                  refine ⟨P.take i ++ ⟨0, u⟩ :: P.drop i, ⟨0, u⟩, get_new P i hi _, ⟨?_, ?_, ?_⟩, ?_, by omega, ?_, (HZ.out.trans (H19.out.1.mono hzs)).trans (H20.out.1.mono (by omega))⟩
                  · have := World.ownsRow.mono (own_below H19.out.2 H20.out.1) (show wo.heap.size ≤ wn.heap.size by omega)
                    rw [hP1l, ← hP1u]; exact this
                  · have := World.ownsRow.mono H20.out.2 (show wo.heap.size ≤ w19.heap.size by omega)
                    rw [hP1l, ← hP1S]; exact this
                  · intro b h8 h9
                    have := (H19.out.2.lt b h8).2
                    have := (H20.out.2.lt b h9).1
                    omega
                  · rw [set_new P i hi]
                    have h := ins_new (cmp := Uk.cmp) (k := Up.k) P i u (0 + u.d) HX.out.1 (fun y hy => by
                      have := HNB.out
                      unfold needsR at this
                      rw [hy] at this
                      exact of_decide_eq_true this)
                    rw [Int.zero_add] at h ⊢
                    exact h
                  · intro x hx
                    rcases List.mem_append.1 hx with hx | hx
                    · exact .inl (List.mem_of_mem_take hx)
                    · rcases List.mem_cons.1 hx with hx | hx
                      · exact .inr hx
                      · exact .inl (List.mem_of_mem_drop hx)
              case rest =>
                obtain ⟨P1, y, hy1, hrf1, hins, hl1, hm1, hb1⟩ := hcut
                obtain ⟨wm, hwm⟩ : ∃ wm, wm = wc := ⟨_, rfl⟩
                subst hwm
                have hi1 := (List.getElem?_eq_some_iff.1 hy1).1
                obtain ⟨g9, cap9, rfl⟩ : ∃ g9 cap9, u9 = .slice (some ⟨g9, 0, none⟩) P1.length cap9 := by
                  rcases hrf1.sums.2 with ⟨_, h0⟩ | ⟨g, cap, cur, e, _⟩
                  · omega
                  · exact ⟨g, cap, e⟩
                have hg9 := hrf1.sums.lt g9 rfl
                have hyS : -(9223372036854775808 * (j : Int)) ≤ y.S ∧ y.S ≤ 9223372036854775808 * (j : Int) := by
                  rcases hm1 y (List.mem_of_getElem? hy1) with h | h
                  · exact (HJ.out.2.2.2.1 y h).2
                  · subst h; simp only; omega
                have hud := (HW.out.2.2.1 u HJ.out.2.1).2.1
                have z1 := fun W => Lib.hid (plus_any y.S u.d W hud.dn.1 hud.dn.2 (by omega) (by omega))
                have hz0 : (P1.map Ln.S)[i]? = some y.S := by rw [List.getElem?_map, hy1]; rfl
                have hx0 : wm.cell? ⟨g9, i * 2, none⟩ = some (.int .i64 (y.S / 18446744073709551616)) := (hrf1.sums.cellAt (i * 2) (by omega)).trans (flat_of wcells_len (P1.map Ln.S) i 0 y.S _ hz0 rfl)
                have hx1 : wm.cell? ⟨g9, i * 2 + 1, none⟩ = some (.int .u64 (loW y.S)) := (hrf1.sums.cellAt (i * 2 + 1) (by omega)).trans (flat_of wcells_len (P1.map Ln.S) i 1 y.S _ hz0 rfl)
                have hf0 := fun k => hrf1.sums.frozenAt k
                have hvx := HJ.out.2.2.2.2.2.1.past hb1 HJ.out.2.2.2.2.2.1.inside
                obtain ⟨e0, e1, e2, e3, e4, e5⟩ := own6 hvx
                have hself : Below wm.heap.size wm wm.drew := (Below.refl _ _).drew
                have HM := Lib.hid (And.intro hy1 (And.intro hrf1 (And.intro hins (And.intro hl1 (And.intro hm1 (And.intro hb1 (And.intro hyS hud)))))))
                have HF := Lib.hid hf0
                have q6 : (0 : Int) ≤ (i : Int) := by omega
                have q7 : (i : Int) < (P1.length : Int) := by omega
                obtain ⟨y1, hy1'⟩ : ∃ y1, y.S / 18446744073709551616 = y1 := ⟨_, rfl⟩
                obtain ⟨y2, hy2'⟩ : ∃ y2, loW y.S = y2 := ⟨_, rfl⟩
                obtain ⟨s1, hs1'⟩ : ∃ s1, (y.S + u.d) / 18446744073709551616 = s1 := ⟨_, rfl⟩
                obtain ⟨s2, hs2'⟩ : ∃ s2, loW (y.S + u.d) = s2 := ⟨_, rfl⟩
                rw [hy1'] at hx0
                rw [hy2'] at hx1
                rw [hy1', hy2', hs1', hs2'] at z1
                have HS := Lib.hid (And.intro hs1' hs2')
                have hg9' := hg9.2
                clear hy1 hrf1 hins hl1 hm1 hb1 hyS hud hz0 hvx hf0 hy1' hy2' hs1' hs2' hg9 e0 e1 e2 e3 e4
                go_upto_region 21 with fail
                go_region_with (go_at_call 84; refine (z1 _).out.mono ?_; rintro _ w2 ⟨rfl, b2⟩; have b2' := belows hself b2; have c0' := (b2'.cell (p := ⟨g9, i * 2, none⟩) hg9').trans hx0; have c1' := (b2'.cell (p := ⟨g9, i * 2 + 1, none⟩) hg9').trans hx1; have f0 := (b2'.frozen (p := ⟨g9, i * 2, none⟩) hg9').trans (HF.out _); have f1 := (b2'.frozen (p := ⟨g9, i * 2 + 1, none⟩) hg9').trans (HF.out _))
                all_goals (have H2 := Lib.hid b2'; clear c0' c1' f0 f1 b2 b2' hself hx0 hx1 e5; go_wp2_with fail; go_roundw)
                iterate 2
                  case rel =>
                    obtain ⟨hy1, hrf1, hins, hl1, hm1, hb1, hyS, hud⟩ := HM.out
                    obtain ⟨hs1', hs2'⟩ := HS.out
                    have hz0 : (P1.map Ln.S)[i]? = some y.S := by rw [List.getElem?_map, hy1]; rfl
                    have hwo : wo.heap.size ≤ g9 := (hrf1.sums.lt g9 rfl).1
                    have hsm2 := own_below hrf1.sums H2.out
                    have hou2 := own_below hrf1.outs H2.out
                    obtain ⟨k1, k2⟩ := hsm2.stored (i * 2) (.int .i64 s1)
                    obtain ⟨k3, k4⟩ := k1.stored (i * 2 + 1) (.int .u64 s2)
                    have hne : ∀ v : Value, (∀ b, v.ownBlock = some b → (Value.slice (some ⟨g9, 0, none⟩) P1.length cap9).ownBlock ≠ some b) → v.ownBlock = none ∨ v.ownBlock ≠ some g9 := fun v hv => .inr fun e => hv g9 e rfl
                    refine ⟨j + 1, P1.set i ⟨y.S + u.d, y.u⟩, by go_num, by omega, by rw [List.length_set]; omega, ⟨?_, ?_, hrf1.apart⟩, ?_, ?_, ?_⟩
                    · rw [List.length_set, List.map_set]
                      have : (P1.map Ln.u).set i y.u = P1.map Ln.u := set_same (by rw [List.getElem?_map, hy1]; rfl)
                      rw [show Ln.u (⟨y.S + u.d, y.u⟩ : Ln Up) = y.u from rfl, this]
                      exact (hou2.kept k2 (hne _ hrf1.apart)).kept k4 (hne _ hrf1.apart)
                    · rw [List.length_set, List.map_set, ← set_wide hz0]
                      rw [show Ln.S (⟨y.S + u.d, y.u⟩ : Ln Up) = y.S + u.d from rfl, hs1', hs2']
                      exact k3
                    · rw [hins, HJ.out.2.2.1, List.take_add_one, HJ.out.1, Option.toList_some, List.map_append, List.map_cons, List.map_nil, asm_snoc]
                    · intro x hx
                      rcases List.mem_or_eq_of_mem_set hx with hx | hx
                      · rcases hm1 x hx with h | h
                        · have := HJ.out.2.2.2.1 x h
                          exact ⟨this.1, by omega, by omega⟩
                        · subst h
                          exact ⟨HJ.out.2.1, by simp only; omega, by simp only; omega⟩
                      · subst hx
                        have hdn := hud.dn
                        refine ⟨?_, by simp only; omega, by simp only; omega⟩
                        rcases hm1 y (List.mem_of_getElem? hy1) with h | h
                        · exact (HJ.out.2.2.2.1 y h).1
                        · subst h; exact HJ.out.2.1
                    · have hvs := HJ.out.2.2.2.2.1.size
                      have h1 := HJ.out.2.2.2.2.1.trans (hb1.mono hvs)
                      have h2 := h1.trans (H2.out.mono h1.size)
                      exact (h2.setCell (p := ⟨g9, i * 2, none⟩) hwo _).setCell (p := ⟨g9, i * 2 + 1, none⟩) hwo _
                  case measure => simp [intOf]; omega
        · have hj2 : j = all.length := by omega
          subst hj2
          have hta : all.take all.length = all := List.take_length
          rw [hta] at hasm
          obtain ⟨A8, c8, hv8, hc8, hm8, hl8⟩ := lies_of_own (size := 6) (cells := Up.cells) (l := P.map Ln.u) (by decide) ucells_len (by rw [List.length_map]) hrf.outs
          obtain ⟨A9, c9, hv9, hc9, hm9, hl9⟩ := lies_of_own (size := 2) (cells := wcells) (l := P.map Ln.S) (by decide) wcells_len (by rw [List.length_map]) hrf.sums
          rw [List.length_map] at hv8 hc8 hv9 hc9
          subst hv8 hv9
          have hlo : Below w.heap.size w wi := HW.out.2.1.trans (hbj.mono HW.out.2.1.size)
          have HJ := Lib.hid (And.intro hasm (And.intro hin (And.intro hlo (And.intro hl8 hl9))))
          have q5 : decide ((all.length : Int) < (all.length : Int)) = false := decide_eq_false (by omega)
          clear hasm hin hbj hrf hl8 hl9 hta hj hlo
          go_wp2_with fail
          go_loopw [13, 104] (fun v13 v104 wr => ∃ k : Nat, v104 = .int .i64 (k : Int) ∧ k ≤ P.length ∧ wr.ownsRow wi.heap.size 60 6 v13 (evn (P.take k)).length ((evn (P.take k)).flatMap Up.cells) ∧ (P.take k).all (fun x => fits x.S) = true ∧ Below wi.heap.size wi wr)
            (fun _ v104 _ => P.length - (intOf v104).toNat)
          case atStart => exact ⟨0, rfl, by omega, World.ownsRow_nil _ _ _ _, rfl, Below.refl _ _⟩
          case round =>
            obtain ⟨k, rfl, hk, hown, hfit, hbk⟩ := hrel
            obtain ⟨wk, hwk⟩ : ∃ wk, wk = wr := ⟨_, rfl⟩
            subst hwk
            by_cases hkt : k < P.length
            · have hx : P[k]? = some P[k] := List.getElem?_eq_getElem hkt
              generalize P[k] = x at *
              have hxm := HJ.out.2.1 x (List.mem_of_getElem? hx)
              have hxg := HW.out.2.2.1 x.u hxm.1
              have hxu : (P.map Ln.u)[k]? = some x.u := by rw [List.getElem?_map, hx]; rfl
              have hxS : (P.map Ln.S)[k]? = some x.S := by rw [List.getElem?_map, hx]; rfl
              obtain ⟨g8, o8, rfl, hB8, hys8⟩ := lies_up HJ.out.2.2.2.1 (by rw [List.length_map]; omega)
              obtain ⟨g9, o9, rfl, hB9, hys9⟩ := HJ.out.2.2.2.2 (by rw [List.length_map]; omega)
              obtain ⟨e0, e1, e2, e3, e4, e5⟩ := ((hys8 k x.u hxu).past_ hbk hB8).six
              obtain ⟨V, hV, hvb, hvs, hvo⟩ := upbox wk x.u
              have hbV := hbk.trans (hvb.mono hbk.size)
              have d0 : V.cell? ⟨g9, o9 + k * 2, none⟩ = some (.int .i64 (x.S / 18446744073709551616)) := (hbV.cell (p := ⟨g9, o9 + k * 2, none⟩) hB9).trans (hys9 k x.S hxS 0 _ rfl)
              have d1 : V.cell? ⟨g9, o9 + k * 2 + 1, none⟩ = some (.int .u64 (loW x.S)) := (hbV.cell (p := ⟨g9, o9 + k * 2 + 1, none⟩) hB9).trans (hys9 k x.S hxS 1 _ rfl)
              have z1 := fun W => Lib.hid (fit_any x.S W (by omega) (by omega))
              have hev : evn (P.take (k + 1)) = evn (P.take k) ++ (if x.S = 0 then [] else [{ x.u with d := x.S }]) := evn_snoc hx
              have hall : fits x.S = true → (P.take (k + 1)).all (fun x => fits x.S) = true := fun h => by rw [List.take_add_one, hx, List.all_append, hfit]; simpa using h
              have hbad : fits x.S = false → (asm Uk.cmp (all.map Up.p)).all (fun x => fits x.2) = false := fun h => by
                rw [← HJ.out.1, List.all_map]
                rw [List.all_eq_false]
                exact ⟨x, List.mem_of_getElem? hx, by show ¬ fits x.S = true; rw [h]; decide⟩
              have hlen : (evn (P.take k)).length ≤ P.length := by unfold evn; rw [List.length_map]; exact Nat.le_trans (List.length_filter_le _ _) (by rw [List.length_take]; omega)
              have HK := Lib.hid (And.intro hown (And.intro hbV (And.intro hvo (And.intro hev (And.intro hall (And.intro hbad (And.intro hvb hvs)))))))
              have q3 : (0 : Int) ≤ (k : Int) := by omega
              have q4 : (k : Int) < (P.length : Int) := by omega
              have q6 : decide ((k : Int) < (P.length : Int)) = true := decide_eq_true q4
              obtain ⟨y1, hy1'⟩ : ∃ y1, x.S / 18446744073709551616 = y1 := ⟨_, rfl⟩
              obtain ⟨y2, hy2'⟩ : ∃ y2, loW x.S = y2 := ⟨_, rfl⟩
              rw [hy1'] at d0
              rw [hy2'] at d1
              rw [hy1', hy2'] at z1
              have hfe : fits x.S = false → fitE x.S = 10 := fun h => by unfold fitE; rw [h]; rfl
              have hfo : fits x.S = true → fitE x.S = 0 ∧ fitN x.S = x.S := fun h => by unfold fitE fitN; rw [h]; exact ⟨rfl, rfl⟩
              obtain ⟨En, hEn⟩ : ∃ En, fitE x.S = En := ⟨_, rfl⟩
              obtain ⟨Nn, hNn⟩ : ∃ Nn, fitN x.S = Nn := ⟨_, rfl⟩
              rw [hEn, hNn] at z1 hfo
              rw [hEn] at hfe
              have HE := Lib.hid (And.intro hfe hfo)
              have HG := Lib.hid hxg
              clear hown hbV hev hall hbad hvb hvs hx hxm hxu hxS hys8 hys9 hy1' hy2' hEn hNn hfe hfo hxg hfit
              go_upto_region 27 with fail
              rw [← hV]
              clear hV e0 e1 e2 e3 e4 e5
              go_wp2_with fail
              refine (z1 _).out.mono ?_
              rintro _ w2 ⟨rfl, b2⟩
              have ho2 := HK.out.2.2.1.past b2 HK.out.2.2.1.inside
              have H2 := Lib.hid (HK.out.2.1.trans (b2.mono HK.out.2.1.size))
              have hown2 := own_below (own_below HK.out.1 HK.out.2.2.2.2.2.2.1) b2
              have HO2 := Lib.hid hown2
              have hins := ho2.inside
              clear b2 d0 d1 hown2
              cases hf : fits x.S
              case false =>
                have hen := HE.out.1 hf
                have hres : resE Uk.cmp (all.map Up.p) = 10 ∧ resL Uk.cmp (all.map Up.p) = [] := by
                  unfold resE resL
                  rw [HK.out.2.2.2.2.2.1 hf]
                  exact ⟨rfl, rfl⟩
                have HR := Lib.hid hres
                have t1 : (En != 0) = true := by rw [hen]; rfl
                have HN := Lib.hid hen
                clear hf hen hres ho2
                go_wp2_with fail
                go_ret2
                exact ⟨none, 0, [], by rw [HW.out.2.2.2.2, HR.out.1, HN.out]; rfl, by rw [HW.out.2.2.2.1, HR.out.2]; rfl, ⟨Lies.nil_, fun u hu => (by cases hu)⟩, fun u hu => (by cases hu), HJ.out.2.2.1.trans (H2.out.mono HJ.out.2.2.1.size), lo_nil _⟩
              case true =>
                obtain ⟨rfl, rfl⟩ := HE.out.2 hf
                have hfb := (fits_iff x.S).1 hf
                have HF := Lib.hid (And.intro hf hfb)
                clear hf hfb HE
                have y5 := ho2.open_ 5
                have c5 := (own6 ho2).2.2.2.2.2
                have ho3 : Own (w2.setCell ⟨wk.heap.size, 5, none⟩ (.int .i64 x.S)) wk.heap.size 60 [.slice x.u.kA x.u.key.length x.u.kc, .slice x.u.rA x.u.row.length x.u.rc, .int .u64 (x.u.t.e : Int), .int .u64 (x.u.t.a : Int), .int .u64 (x.u.t.b : Int), .int .i64 x.S] := own_of (ho2.set_ 5 _) rfl
                have hb3 : Below wi.heap.size wi (w2.setCell ⟨wk.heap.size, 5, none⟩ (.int .i64 x.S)) := H2.out.setCell (p := ⟨wk.heap.size, 5, none⟩) hbk.size _
                have hne3 : ∀ b, (u13 : Value).ownBlock = some b → b ≠ wk.heap.size := fun b e => by have := (HK.out.1.lt b e).2; omega
                have hown3 := HO2.out.kept (w' := w2.setCell ⟨wk.heap.size, 5, none⟩ (.int .i64 x.S)) (row := some wk.heap.size) ⟨rfl, rfl, rfl, by simp [World.setCell], fun k _ hk => Below.heap_setCell w2 ⟨wk.heap.size, 5, none⟩ _ k fun e => hk (by rw [e])⟩ (.inr fun e => hne3 _ e rfl)
                obtain ⟨W3, hW3⟩ : ∃ W3, W3 = w2.setCell ⟨wk.heap.size, 5, none⟩ (.int .i64 x.S) := ⟨_, rfl⟩
                rw [← hW3] at ho3 hb3 hown3
                have H3 := Lib.hid (And.intro ho3 (And.intro hb3 hown3))
                have hs3 := hb3.size
                clear ho3 hb3 hne3 hown3 ho2
                by_cases hS0 : x.S = 0
                · have t1 : (x.S != 0) = false := by simp [hS0]
                  have HS0 := Lib.hid hS0
                  clear hS0
                  go_upto_region 31 with fail
                  rw [← hW3]
                  clear hW3 y5 c5
                  go_wp2_with fail
                  go_roundw
                  case rel =>
                    have h3 := H3.out.2.2
                    have hv := HK.out.2.2.2.1
                    rw [if_pos HS0.out, List.append_nil] at hv
                    refine ⟨k + 1, by go_num, by omega, ?_, HK.out.2.2.2.2.1 HF.out.1, H3.out.2.1⟩
                    rw [hv]
                    exact h3
                  case measure => simp [intOf]; omega
                · have t1 : (x.S != 0) = true := bne_iff_ne.2 hS0
                  have HS0 := Lib.hid hS0
                  clear hS0
                  go_upto_region 31 with fail
                  rw [← hW3]
                  clear hW3 y5 c5
                  obtain ⟨e0, e1, e2, e3, e4, e5⟩ := own6 H3.out.1
                  go_wp2_with (at_builtin; refine wpList_push _ rfl _ _ 24 rfl wi.heap.size 60 i0 _ 6 80 HI.out.1 HI.out.2.1 HI.out.2.2.1 HI.out.2.2.2.1 HI.out.2.2.2.2 rfl (by decide) _ _ _ rfl H3.out.2.2 #[.slice x.u.kA x.u.key.length x.u.kc, .slice x.u.rA x.u.row.length x.u.rc, .int .u64 (x.u.t.e : Int), .int .u64 (x.u.t.a : Int), .int .u64 (x.u.t.b : Int), .int .i64 x.S] rfl rfl ?p1 ?p2 ?p3 ?p4 ?_)
                  case p1 => exact ⟨rfl, rfl, rfl, rfl, rfl, rfl⟩
                  case p2 => unfold maxLen; omega
                  case p3 => omega
                  case p4 => exact hs3
                  intro v' w' ho' hb' hob hgw
                  have H4 := Lib.hid (And.intro ho' (H3.out.2.1.trans hb'))
                  clear ho' hb' hob hgw e0 e1 e2 e3 e4 e5
                  go_wp2_with fail
                  go_roundw
                  case rel =>
                    have h3 := H4.out.1
                    have hv := HK.out.2.2.2.1
                    rw [if_neg HS0.out] at hv
                    refine ⟨k + 1, by go_num, by omega, ?_, HK.out.2.2.2.2.1 HF.out.1, H4.out.2⟩
                    rw [hv, List.length_append, List.flatMap_append]
                    exact h3
                  case measure => simp [intOf]; omega
            · have hk2 : k = P.length := by omega
              subst hk2
              rw [List.take_length] at hown hfit
              have q6 : decide ((P.length : Int) < (P.length : Int)) = false := decide_eq_false (by omega)
              obtain ⟨A13, c13, rfl, _, _, hl13⟩ := lies_of_own (size := 6) (cells := Up.cells) (by decide) ucells_len rfl hown
              have hbw : Below w.heap.size w wk := HJ.out.2.2.1.trans (hbk.mono HJ.out.2.2.1.size)
              have hmem : ∀ v ∈ evn P, ∃ x ∈ P, v = { x.u with d := x.S } ∧ fits x.S = true := fun v hv => by
                obtain ⟨x, hx, rfl⟩ := List.mem_map.1 hv
                have hx := (List.mem_filter.1 hx).1
                exact ⟨x, hx, rfl, List.all_eq_true.1 hfit x hx⟩
              have hups : Ups wk wk.heap.size A13 (evn P) := ⟨hl13, fun v hv => by
                obtain ⟨x, hx, rfl, _⟩ := hmem v hv
                have := ((HW.out.2.2.1 x.u (HJ.out.2.1 x hx).1).2.2.past hbw (Nat.le_refl _)).wide hbw.size
                exact ⟨this.key, this.row⟩⟩
              have hok : ∀ v ∈ evn P, UOk v := fun v hv => by
                obtain ⟨x, hx, rfl, hf⟩ := hmem v hv
                have := (HW.out.2.2.1 x.u (HJ.out.2.1 x hx).1).2.1
                exact ⟨this.kn, this.rn, this.ks, this.rs, (fits_iff x.S).1 hf⟩
              have h8 : ∀ v ∈ evn P, v.key.length ≤ 8 ∧ v.row.length ≤ 8 := fun v hv => by
                obtain ⟨x, hx, rfl, hf⟩ := hmem v hv
                have hz := chkK_zero (HW.out.2.2.1 x.u (HJ.out.2.1 x hx).1).1
                exact ⟨(chkRow_zero hz.1).2, (chkRow_zero hz.2.1).2⟩
              have hcp := Lib.hid (copyU_own A13 c13 (evn P) wk hups hok (fun u hu => by have := h8 u hu; omega) (by unfold evn; rw [List.length_map]; exact Nat.le_trans (List.length_filter_le _ _) (by omega)))
              have hres : resE Uk.cmp (all.map Up.p) = 0 ∧ resL Uk.cmp (all.map Up.p) = (evn P).map Up.p := by
                have h1 : (asm Uk.cmp (all.map Up.p)).all (fun x => fits x.2) = true := by rw [← HJ.out.1, List.all_map]; exact hfit
                unfold resE resL nz
                rw [if_pos h1, if_pos h1, ← HJ.out.1]
                exact ⟨rfl, (evn_p P).symm⟩
              have HR := Lib.hid (And.intro hres hbw)
              clear hown hfit hl13 hmem hups hok h8 hres hbw hbk
              go_wp2_with fail
              refine hcp.out.mono ?_
              rintro _ w5 ⟨v5, outL, rfl, hp5, hown5, hout5, b5⟩
              obtain ⟨A5, c5, rfl, _, _, hl5⟩ := lies_of_own (size := 6) (cells := Up.cells) (by decide) ucells_len rfl hown5
              have hlo : Lo w.heap.size A5 outL := ⟨fun b o e => by subst e; exact Nat.le_trans HR.out.2.size (hown5.lt b rfl).1, fun u hu b o hb => Nat.le_trans HR.out.2.size ((hout5 u hu).2.2 b o hb).2.2⟩
              have H5 := Lib.hid (And.intro hp5 (And.intro (⟨hl5, fun u hu => (hout5 u hu).1⟩ : Ups w5 w5.heap.size A5 outL) (And.intro (fun u hu => (hout5 u hu).2.1) (And.intro b5 hlo))))
              clear hp5 hown5 hout5 b5 hcp hl5 hlo
              go_wp2_with fail
              go_ret2
              exact ⟨A5, c5, outL, by rw [HW.out.2.2.2.2, HR.out.1.1]; rfl, by rw [HW.out.2.2.2.1, HR.out.1.2]; exact H5.out.1, H5.out.2.1, H5.out.2.2.1, HR.out.2.trans (H5.out.2.2.2.1.mono HR.out.2.size), H5.out.2.2.2.2⟩
theorem rcons_any (A : Option Addr) (c : Nat) (L : List (Rw Up)) (w : World) (hl : ULs w w.heap.size A L) (hok : ∀ s ∈ L, ∀ u ∈ s.l, UOk u) (hn : (flatR L).length ≤ 1048576) (hn2 : L.length ≤ 1048576) :
    Calls Tryz.prog 40 #[.slice A L.length c] w (UpsSays (consL (L.map Rw.l)) (consE (L.map Rw.l)) w) :=
  (rcons_new A c L w hl hok hn hn2).mono fun x w' ⟨A', c', outL, h1, h2, h3, h4, h5, _⟩ => ⟨A', c', outL, h1, h2, h3, h4, h5⟩
end Go.Proofs.YtbccdmpnojdldaaGreat
namespace Go.Proofs.YtbccdmpnojdldaaGreat
open Go Go.RowKit
attribute [local go_sem ↓] Go.wp_at_zero Go.wp_at_succ

theorem sort_fixed : sortT [⟨2, 0, 1⟩, ⟨1, 0, 2⟩, ⟨3, 0, 2⟩] = [⟨1, 0, 2⟩, ⟨2, 0, 1⟩, ⟨3, 0, 2⟩] := by
  simp [sortT, List.mergeSort, List.MergeSort.Internal.splitInTwo, List.merge, ltT]
theorem front_fixed : frontL [⟨2, 0, 1⟩, ⟨1, 0, 2⟩, ⟨3, 0, 2⟩] = [⟨1, 0, 2⟩, ⟨2, 0, 1⟩] := by
  unfold frontL; rw [sort_fixed]; decide
theorem below_new {a b : World} (h : Below a.heap.size a b) (o : Obj) : Below a.heap.size a (b.alloc o) := h.alloc h.size o
theorem times_one' {w : World} {N : Nat} (s : Tm) (hN : w.heap.size = N) : Times (w.alloc (.cells #[.int .u64 (s.e : Int), .int .u64 (s.a : Int), .int .u64 (s.b : Int)] 58)) (N + 1) (some ⟨N, 0, none⟩) [s] := hN ▸ times_one w s
theorem keep3 {a b : World} {g o : Nat} {x y z : Value} (hB : g < a.heap.size) (h0 : a.cell? ⟨g, o, none⟩ = some x) (h1 : a.cell? ⟨g, o + 1, none⟩ = some y) (h2 : a.cell? ⟨g, o + 2, none⟩ = some z) (h : Below a.heap.size a b) :
    Below a.heap.size a b ∧ b.cell? ⟨g, o, none⟩ = some x ∧ b.cell? ⟨g, o + 1, none⟩ = some y ∧ b.cell? ⟨g, o + 2, none⟩ = some z :=
  ⟨h, (h.cell (p := ⟨g, o, none⟩) hB).trans h0, (h.cell (p := ⟨g, o + 1, none⟩) hB).trans h1, (h.cell (p := ⟨g, o + 2, none⟩) hB).trans h2⟩
theorem times_lit3 {w : World} {N : Nat} (s t u : Tm) (hN : w.heap.size = N) : Times (w.alloc (.cells #[.int .u64 (s.e : Int), .int .u64 (s.a : Int), .int .u64 (s.b : Int), .int .u64 (t.e : Int), .int .u64 (t.a : Int), .int .u64 (t.b : Int), .int .u64 (u.e : Int), .int .u64 (u.a : Int), .int .u64 (u.b : Int)] 58)) (N + 1) (some ⟨N, 0, none⟩) [s, t, u] := by
  subst hN
  intro _
  refine ⟨_, _, rfl, by omega, fun i x hx => ?_⟩
  match i, hx with
  | 0, hx => obtain rfl : s = x := by simpa using hx
             exact ⟨by simp [go_sem], by simp [go_sem], by simp [go_sem]⟩
  | 1, hx => obtain rfl : t = x := by simpa using hx
             exact ⟨by simp [go_sem], by simp [go_sem], by simp [go_sem]⟩
  | 2, hx => obtain rfl : u = x := by simpa using hx
             exact ⟨by simp [go_sem], by simp [go_sem], by simp [go_sem]⟩

end Go.Proofs.YtbccdmpnojdldaaGreat
namespace Go.Proofs.YtbccdmpnojdldaaGreat
open Go Go.RowKit

theorem boxes1 (w : World) (s : Tm) : ∃ W, W = w.alloc (.cells #[.int .u64 (s.e : Int), .int .u64 (s.a : Int), .int .u64 (s.b : Int)] 58) ∧ Below w.heap.size w W ∧ Own W w.heap.size 58 s.cells :=
  ⟨_, rfl, (Below.refl _ _).alloc (Nat.le_refl _) _, by have := Own.made w 58 s.cells; simpa [Tm.cells] using this⟩
theorem boxes2 (w : World) (s t : Tm) : ∃ W, W = (w.alloc (.cells #[.int .u64 (s.e : Int), .int .u64 (s.a : Int), .int .u64 (s.b : Int)] 58)).alloc (.cells #[.int .u64 (t.e : Int), .int .u64 (t.a : Int), .int .u64 (t.b : Int)] 58) ∧
    Below w.heap.size w W ∧ Own W w.heap.size 58 s.cells ∧ Own W (w.heap.size + 1) 58 t.cells := by
  obtain ⟨W, hW, fb, f0⟩ := boxes1 w s
  have h1 : W.heap.size = w.heap.size + 1 := by rw [hW]; simp
  rw [← hW]
  obtain ⟨V, hV, gb, g0⟩ := boxes1 W t
  rw [← hV]
  rw [h1] at g0
  exact ⟨V, rfl, fb.trans (gb.mono (by omega)), f0.past gb f0.inside, g0⟩
theorem boxes3 (w : World) (s t u : Tm) : ∃ W, W = ((w.alloc (.cells #[.int .u64 (s.e : Int), .int .u64 (s.a : Int), .int .u64 (s.b : Int)] 58)).alloc (.cells #[.int .u64 (t.e : Int), .int .u64 (t.a : Int), .int .u64 (t.b : Int)] 58)).alloc (.cells #[.int .u64 (u.e : Int), .int .u64 (u.a : Int), .int .u64 (u.b : Int)] 58) ∧
    Below w.heap.size w W ∧ Own W w.heap.size 58 s.cells ∧ Own W (w.heap.size + 1) 58 t.cells ∧ Own W (w.heap.size + 1 + 1) 58 u.cells := by
  obtain ⟨W, hW, fb, f0, f1⟩ := boxes2 w s t
  have h1 : W.heap.size = w.heap.size + 1 + 1 := by rw [hW]; simp
  rw [← hW]
  obtain ⟨V, hV, gb, g0⟩ := boxes1 W u
  rw [← hV]
  rw [h1] at g0
  exact ⟨V, rfl, fb.trans (gb.mono (by omega)), f0.past gb f0.inside, f1.past gb f1.inside, g0⟩
theorem own_cells {a b : World} {g : Nat} {t : Tm} (h : Own a g 58 t.cells) (hb : Below a.heap.size a b) :
    b.cell? ⟨g, 0, none⟩ = some (.int .u64 (t.e : Int)) ∧ b.cell? ⟨g, 1, none⟩ = some (.int .u64 (t.a : Int)) ∧ b.cell? ⟨g, 2, none⟩ = some (.int .u64 (t.b : Int)) := by
  have h2 := h.past hb h.inside
  exact ⟨h2.at_ 0, h2.at_ 1, h2.at_ 2⟩
theorem keepB1 {a b : World} {g : Nat} {s : Tm} (h : Own a g 58 s.cells) (hb : Below a.heap.size a b) :
    Below a.heap.size a b ∧ b.cell? ⟨g, 0, none⟩ = some (.int .u64 (s.e : Int)) ∧ b.cell? ⟨g, 1, none⟩ = some (.int .u64 (s.a : Int)) ∧ b.cell? ⟨g, 2, none⟩ = some (.int .u64 (s.b : Int)) := ⟨hb, own_cells h hb⟩
theorem keepB2 {a b : World} {g g' : Nat} {s t : Tm} (h : Own a g 58 s.cells) (h' : Own a g' 58 t.cells) (hb : Below a.heap.size a b) :
    Below a.heap.size a b ∧ b.cell? ⟨g, 0, none⟩ = some (.int .u64 (s.e : Int)) ∧ b.cell? ⟨g, 1, none⟩ = some (.int .u64 (s.a : Int)) ∧ b.cell? ⟨g, 2, none⟩ = some (.int .u64 (s.b : Int)) ∧
      b.cell? ⟨g', 0, none⟩ = some (.int .u64 (t.e : Int)) ∧ b.cell? ⟨g', 1, none⟩ = some (.int .u64 (t.a : Int)) ∧ b.cell? ⟨g', 2, none⟩ = some (.int .u64 (t.b : Int)) := by
  obtain ⟨a0, a1, a2⟩ := own_cells h hb
  exact ⟨hb, a0, a1, a2, own_cells h' hb⟩
theorem keepB3 {a b : World} {g g' g'' : Nat} {s t u : Tm} (h : Own a g 58 s.cells) (h' : Own a g' 58 t.cells) (h'' : Own a g'' 58 u.cells) (hb : Below a.heap.size a b) :
    Below a.heap.size a b ∧ b.cell? ⟨g, 0, none⟩ = some (.int .u64 (s.e : Int)) ∧ b.cell? ⟨g, 1, none⟩ = some (.int .u64 (s.a : Int)) ∧ b.cell? ⟨g, 2, none⟩ = some (.int .u64 (s.b : Int)) ∧
      b.cell? ⟨g', 0, none⟩ = some (.int .u64 (t.e : Int)) ∧ b.cell? ⟨g', 1, none⟩ = some (.int .u64 (t.a : Int)) ∧ b.cell? ⟨g', 2, none⟩ = some (.int .u64 (t.b : Int)) ∧
      b.cell? ⟨g'', 0, none⟩ = some (.int .u64 (u.e : Int)) ∧ b.cell? ⟨g'', 1, none⟩ = some (.int .u64 (u.a : Int)) ∧ b.cell? ⟨g'', 2, none⟩ = some (.int .u64 (u.b : Int)) := by
  obtain ⟨a0, a1, a2⟩ := own_cells h hb
  obtain ⟨b0, b1, b2⟩ := own_cells h' hb
  exact ⟨hb, a0, a1, a2, b0, b1, b2, own_cells h'' hb⟩
end Go.Proofs.YtbccdmpnojdldaaGreat


namespace Go.Proofs.YtbccdmpnojdldaaGreat
open Go Go.RowKit Go.Sort Go.Lib

/-- another one of l is ahead of t -/
def blocked (l : List Tm) (t : Tm) : Bool := l.any fun u => !eqT u t && u.le t
def holdsT (l : List Tm) (t : Tm) : Bool := l.any fun u => eqT u t
def before (t x : Tm) : Bool := decide (x.cmp t < 0)
def putIn (l : List Tm) (t : Tm) : List Tm := l.takeWhile (before t) ++ t :: l.dropWhile (before t)
def refStep (l out : List Tm) (t : Tm) : List Tm := if (blocked l t || holdsT out t) = true then out else putIn out t
def refTo (l : List Tm) (k : Nat) : List Tm := (l.take k).foldl (refStep l) []
theorem refTo_snoc {l : List Tm} {t : Tm} {k : Nat} (h : l[k]? = some t) : refTo l (k + 1) = refStep l (refTo l k) t := by
  unfold refTo; rw [List.take_add_one, h, List.foldl_append]; rfl
theorem before_lt (t x : Tm) : before t x = ltOf Tm.cmp x t := rfl
theorem holdsT_iff {l : List Tm} {t : Tm} : holdsT l t = true ↔ t ∈ l := by
  unfold holdsT; rw [List.any_eq_true]
  exact ⟨fun ⟨x, hx, h⟩ => eqT_iff.1 h ▸ hx, fun h => ⟨t, h, eqT_iff.2 rfl⟩⟩
theorem mem_putIn {l : List Tm} {t x : Tm} : x ∈ putIn l t ↔ x = t ∨ x ∈ l := by
  unfold putIn
  rw [List.mem_append, List.mem_cons]
  have := List.takeWhile_append_dropWhile (p := before t) (l := l)
  constructor
  · rintro (h | h | h)
    · exact .inr (this ▸ List.mem_append_left _ h)
    · exact .inl h
    · exact .inr (this ▸ List.mem_append_right _ h)
  · rintro (h | h)
    · exact .inr (.inl h)
    · rw [← this] at h
      rcases List.mem_append.1 h with h | h
      · exact .inl h
      · exact .inr (.inr h)
theorem mem_takeWhile_before {t x : Tm} : ∀ {l : List Tm}, x ∈ l.takeWhile (before t) → ltOf Tm.cmp x t = true
  | [], h => by simp at h
  | y :: l, h => by
    rw [List.takeWhile_cons] at h
    split at h
    · rename_i hb
      rcases List.mem_cons.1 h with rfl | h
      · exact hb
      · exact mem_takeWhile_before h
    · simp at h
theorem dropWhile_after {t : Tm} : ∀ {l : List Tm}, l.Pairwise (fun x y => ltOf Tm.cmp x y = true) → t ∉ l → ∀ x ∈ l.dropWhile (before t), ltOf Tm.cmp t x = true
  | [], _, _, x, h => by simp at h
  | y :: l, hp, ht, x, h => by
    rw [List.pairwise_cons] at hp
    rw [List.dropWhile_cons] at h
    split at h
    · exact dropWhile_after hp.2 (fun k => ht (List.mem_cons_of_mem _ k)) x h
    · rename_i hb
      have hb' : ltOf Tm.cmp y t = false := by simpa [before_lt] using hb
      have hty : ltOf Tm.cmp t y = true := by
        cases hq : ltOf Tm.cmp t y with
        | true => rfl
        | false => exact absurd (totT _ _ hq hb' ▸ List.mem_cons_self) ht
      rcases List.mem_cons.1 h with rfl | h
      · exact hty
      · exact swoT.trans _ _ _ hty (hp.1 x h)
theorem putIn_sorted {l : List Tm} {t : Tm} (hp : l.Pairwise fun x y => ltOf Tm.cmp x y = true) (ht : t ∉ l) : (putIn l t).Pairwise fun x y => ltOf Tm.cmp x y = true := by
  have hpw := hp
  rw [← List.takeWhile_append_dropWhile (p := before t) (l := l), List.pairwise_append] at hpw
  unfold putIn
  rw [List.pairwise_append, List.pairwise_cons]
  refine ⟨hpw.1, ⟨fun x hx => dropWhile_after hp ht x hx, hpw.2.1⟩, fun x hx y hy => ?_⟩
  rcases List.mem_cons.1 hy with rfl | hy
  · exact mem_takeWhile_before hx
  · exact hpw.2.2 x hx y hy
theorem refTo_facts (l : List Tm) : ∀ k, k ≤ l.length → (refTo l k).Pairwise (fun x y => ltOf Tm.cmp x y = true) ∧ ∀ x, x ∈ refTo l k ↔ x ∈ l.take k ∧ blocked l x = false
  | 0, _ => ⟨by simp [refTo], by simp [refTo]⟩
  | k + 1, h => by
    obtain ⟨h1, h2⟩ := refTo_facts l k (by omega)
    have hx : l[k]? = some l[k] := List.getElem?_eq_getElem (by omega)
    have htk : l.take (k + 1) = l.take k ++ [l[k]] := by rw [List.take_add_one, hx]; rfl
    rw [refTo_snoc hx, htk]
    generalize l[k] = t at *
    generalize refTo l k = f at *
    unfold refStep
    by_cases hb : (blocked l t || holdsT f t) = true
    · rw [if_pos hb]
      refine ⟨h1, fun x => (h2 x).trans ⟨fun ⟨a, b⟩ => ⟨List.mem_append_left _ a, b⟩, fun ⟨a, b⟩ => ⟨?_, b⟩⟩⟩
      rcases List.mem_append.1 a with a | a
      · exact a
      · obtain rfl : x = t := by simpa using a
        rw [b, Bool.false_or] at hb
        exact ((h2 x).1 (holdsT_iff.1 hb)).1
    · rw [if_neg hb]
      simp only [Bool.or_eq_true, not_or, Bool.not_eq_true] at hb
      have ht : t ∉ f := fun hm => by rw [holdsT_iff.2 hm] at hb; cases hb.2
      refine ⟨putIn_sorted h1 ht, fun x => ?_⟩
      rw [mem_putIn, h2, List.mem_append]
      constructor
      · rintro (rfl | ⟨a, b⟩)
        · exact ⟨.inr (by simp), hb.1⟩
        · exact ⟨.inl a, b⟩
      · rintro ⟨a | a, b⟩
        · exact .inr ⟨a, b⟩
        · exact .inl (by simpa using a)
theorem mem_front {l : List Tm} {x : Tm} : x ∈ frontL l ↔ x ∈ l ∧ blocked l x = false := by
  obtain ⟨h1, h2, h3⟩ := frontL_facts l
  constructor
  · intro hx
    refine ⟨h2 x hx, ?_⟩
    cases hb : blocked l x with
    | false => rfl
    | true =>
      obtain ⟨u, hu, h⟩ := List.any_eq_true.1 hb
      simp only [Bool.and_eq_true, Bool.not_eq_true'] at h
      obtain ⟨y, hy, hyu⟩ := beyond_iff.1 ((h3 u).trans (beyond_iff.2 ⟨u, hu, le_refl' u⟩))
      have := mem_apart h1 hy hx (le_trans' hyu h.2)
      subst this
      have := le_anti h.2 hyu
      subst this
      rw [eqT_iff.2 rfl] at h
      cases h.1
  · rintro ⟨hx, hb⟩
    obtain ⟨y, hy, hyx⟩ := beyond_iff.1 ((h3 x).trans (beyond_iff.2 ⟨x, hx, le_refl' x⟩))
    by_cases e : y = x
    · exact e ▸ hy
    · have : blocked l x = true := List.any_eq_true.2 ⟨y, h2 y hy, by simp only [Bool.and_eq_true, Bool.not_eq_true']; exact ⟨by cases hq : eqT y x with | false => rfl | true => exact absurd (eqT_iff.1 hq) e, hyx⟩⟩
      rw [hb] at this; cases this
theorem refTo_front (l : List Tm) : refTo l l.length = frontL l := by
  obtain ⟨h1, h2⟩ := refTo_facts l l.length (Nat.le_refl _)
  rw [List.take_length] at h2
  exact sorted_unique' (R := fun x y => ltOf Tm.cmp x y = true) (fun x h => by rw [swoT.irrefl] at h; cases h) (fun x y h k => by have := swoT.trans _ _ _ h k; rw [swoT.irrefl] at this; cases this) _ _ h1
    ((frontL_facts l).1.imp fun h => h.1) fun x => by rw [h2, mem_front]
theorem putIn_len (l : List Tm) (t : Tm) : (putIn l t).length = l.length + 1 := by
  unfold putIn
  have := congrArg List.length (List.takeWhile_append_dropWhile (p := before t) (l := l))
  rw [List.length_append] at this
  simp only [List.length_append, List.length_cons]
  omega
theorem refTo_len (l : List Tm) : ∀ k, k ≤ l.length → (refTo l k).length ≤ k
  | 0, _ => by simp [refTo]
  | k + 1, h => by
    have := refTo_len l k (by omega)
    rw [refTo_snoc (List.getElem?_eq_getElem (by omega))]
    unfold refStep
    split
    · omega
    · rw [putIn_len]; omega
end Go.Proofs.YtbccdmpnojdldaaGreat
namespace Go.Proofs.YtbccdmpnojdldaaGreat
open Go Go.RowKit Go.Sort Go.Lib

theorem run_append_nothing {P : Program} (w : World) (base : Nat) (t ty e : TypeId) (i : TypeInfo) (size : Nat) (ht : P.underlying t = some (.slice e)) (hi : P.info? e = some i) (v : Value) (n : Nat) (xs : List Value) (h : w.ownsRow base e size v n xs) (c : Nat) :
    (Builtin.append_ #[t, t] ty #[v, .slice none 0 c]).run P w = .ok v w := by
  rcases h.2 with ⟨rfl, _⟩ | ⟨g, cap, cur, rfl, _, _, hnc, _⟩
  · simp [Builtin.append_, run_underlying ht, typeInfo, hi, sizeOf, Builtin.firstCells, Builtin.lenOf]
  · simp [Builtin.append_, run_underlying ht, typeInfo, hi, sizeOf, Builtin.firstCells, Builtin.lenOf, storeCells, hnc]

/-- 'append(v, s...)', s a slice of times -/
theorem wpList_append_tm (w : World) {ops : Array Oper} {rest : List Oper} {o : Oper} {a : Act} {Q : Exit → Act → World → Prop} (hgd : o.guard = none) (s x : Operand)
    (ho : o.op = .call { callee := .builtin .append, args := #[s, x], argTypes := #[22, 22] })
    (base : Nat) (v : Value) (n : Nat) (xs : List Value) (hs : a.eval s = v) (hown : w.ownsRow base 58 3 v n xs)
    (B : Nat) (A : Option Addr) (c : Nat) (l : List Tm) (hx : a.eval x = .slice A l.length c) (hl : Times w B A l) (hn : (n + l.length) * 24 ≤ 140737488355328) (hbase : base ≤ w.heap.size)
    (h : ∀ v' w', w'.ownsRow base 58 3 v' (n + l.length) (xs ++ l.flatMap Tm.cells) → Below base w w' → wpList Tryz.prog ops Q rest (a.put o.dst v') w') :
    wpList Tryz.prog ops Q (o :: rest) a w := by
  obtain ⟨i0, hi, hz0, hz1, hz2⟩ := info_parts infoTm
  refine wpList_plain hgd fun K hK => ?_
  obtain ⟨v', w', hrun, ho', hb⟩ : ∃ v' w', (Builtin.append_ #[22, 22] o.type #[v, .slice A l.length c]).run Tryz.prog w = .ok v' w' ∧ w'.ownsRow base 58 3 v' (n + l.length) (xs ++ l.flatMap Tm.cells) ∧ Below base w w' := by
    cases A with
    | none =>
      have h0 : l = [] := by
        cases l with
        | nil => rfl
        | cons x l => obtain ⟨_, _, e, _⟩ := hl (by simp); cases e
      subst h0
      exact ⟨v, w, run_append_nothing w base _ _ _ i0 3 Tryz.underlying22 hi v n xs hown c, by simpa using hown, Below.refl _ _⟩
    | some ad =>
      obtain ⟨v', w', hr, h2, h3, _, _⟩ := run_append_own_at (P := Tryz.prog) w base 22 o.type 58 i0 _ 3 24 Tryz.underlying22 hi hz0 hz1 hz2 rfl (by decide) v n xs hown ad l.length c (l.flatMap Tm.cells) (flat_len l) (times_news hl) (flat_one l) (by unfold maxLen; omega) hn hbase
      exact ⟨v', w', hr, h2, (Below.refl base w).grown h3 hbase (fun k hk => (hown.lt k hk).1)⟩
  unfold Oper.wp execOp
  simp only [ho, resolve, invoke, builtin, Sem.run_bind, Sem.run_pure, Result.andThen_ok, List.map_toArray, List.map_cons, List.map_nil, hs, hx, hrun]
  exact hK _ _ (h v' w' ho' hb)
end Go.Proofs.YtbccdmpnojdldaaGreat
namespace Go.Proofs.YtbccdmpnojdldaaGreat
open Go Go.RowKit

/-- the same of a contract that hides its results' world -/
theorem past_cells {V : World} {g : Nat} {t : Tm} (h : Own V g 58 t.cells) :
    (∀ p : Past V, p.w.cell? ⟨g, 0, none⟩ = some (.int .u64 (t.e : Int))) ∧ (∀ p : Past V, p.w.cell? ⟨g, 1, none⟩ = some (.int .u64 (t.a : Int))) ∧ (∀ p : Past V, p.w.cell? ⟨g, 2, none⟩ = some (.int .u64 (t.b : Int))) :=
  ⟨fun p => (own_cells h p.h).1, fun p => (own_cells h p.h).2.1, fun p => (own_cells h p.h).2.2⟩
theorem past_times {V : World} {A : Option Addr} {l : List Tm} (h : Times V V.heap.size A l) (p : Past V) : Times p.w p.w.heap.size A l := times_keep h p.h
end Go.Proofs.YtbccdmpnojdldaaGreat
namespace Go.Proofs.YtbccdmpnojdldaaGreat
open Go Go.RowKit Go.Sort Go.Lib

theorem blocked_snoc {l : List Tm} {t u : Tm} {m : Nat} (h : l[m]? = some u) : blocked (l.take (m + 1)) t = (blocked (l.take m) t || (!eqT u t && u.le t)) := by
  unfold blocked; rw [List.take_add_one, h]; simp
theorem holdsT_snoc {l : List Tm} {t u : Tm} {m : Nat} (h : l[m]? = some u) : holdsT (l.take (m + 1)) t = (holdsT (l.take m) t || eqT u t) := by
  unfold holdsT; rw [List.take_add_one, h]; simp
theorem place_at {l : List Tm} {t : Tm} {m : Nat} (hm : m ≤ l.length) (h : ∀ (j : Nat) (y : Tm), j < m → l[j]? = some y → before t y = true) (he : ∀ y, l[m]? = some y → before t y = false) : putIn l t = l.take m ++ t :: l.drop m := by
  have key : ∀ (l : List Tm) (m : Nat), m ≤ l.length → (∀ (j : Nat) (y : Tm), j < m → l[j]? = some y → before t y = true) → (∀ y, l[m]? = some y → before t y = false) → l.takeWhile (before t) = l.take m ∧ l.dropWhile (before t) = l.drop m := by
    intro l
    induction l with
    | nil => intro m _ _ _; simp
    | cons y l ih =>
      intro m hm h he
      cases m with
      | zero => have := he y rfl; simp [List.takeWhile_cons, List.dropWhile_cons, this]
      | succ m =>
        have h0 := h 0 y (by omega) rfl
        obtain ⟨a, b⟩ := ih m (by simpa using hm) (fun j z hj hz => h (j + 1) z (by omega) (by simpa using hz)) (fun z hz => he z (by simpa using hz))
        simp [List.takeWhile_cons, List.dropWhile_cons, h0, a, b]
  obtain ⟨a, b⟩ := key l m hm h he
  unfold putIn
  rw [a, b]
end Go.Proofs.YtbccdmpnojdldaaGreat
namespace Go.Proofs.YtbccdmpnojdldaaGreat
open Go Go.RowKit

theorem lies_of_times {W : World} {B : Nat} {A : Option Addr} {l : List Tm} (h : Times W B A l) : Lies 3 Tm.cells W B A l := fun hp => by
  obtain ⟨b, o, e, hB, hc⟩ := h hp
  refine ⟨b, o, e, hB, fun i x hi j u hj => ?_⟩
  obtain ⟨h0, h1, h2⟩ := hc i x hi
  match j, hj with
  | 0, hj => obtain rfl : Value.int .u64 (x.e : Int) = u := by simpa [Tm.cells] using hj
             exact h0
  | 1, hj => obtain rfl : Value.int .u64 (x.a : Int) = u := by simpa [Tm.cells] using hj
             exact h1
  | 2, hj => obtain rfl : Value.int .u64 (x.b : Int) = u := by simpa [Tm.cells] using hj
             exact h2
theorem lies_take {W : World} {B : Nat} {A : Option Addr} {l : List Tm} (h : Lies 3 Tm.cells W B A l) (m : Nat) : Lies 3 Tm.cells W B A (l.take m) := fun hp => by
  obtain ⟨b, o, e, hB, hc⟩ := h (by rw [List.length_take] at hp; omega)
  refine ⟨b, o, e, hB, fun i x hi => hc i x ?_⟩
  rw [List.getElem?_take] at hi
  split at hi
  · exact hi
  · cases hi
theorem lies_drop {W : World} {B : Nat} {b o : Nat} {l : List Tm} (h : Lies 3 Tm.cells W B (some ⟨b, o, none⟩) l) (m : Nat) : Lies 3 Tm.cells W B (some ⟨b, o + m * 3, none⟩) (l.drop m) := fun hp => by
  obtain ⟨b', o', e, hB, hc⟩ := h (by rw [List.length_drop] at hp; omega)
  simp only [Option.some.injEq, Addr.mk.injEq, and_true] at e
  obtain ⟨rfl, rfl⟩ := e
  refine ⟨_, _, rfl, hB, fun i x hi j u hj => ?_⟩
  rw [List.getElem?_drop] at hi
  have := hc (m + i) x hi j u hj
  rw [show o + (m + i) * 3 + j = o + m * 3 + i * 3 + j by omega] at this
  exact this
theorem lies_t {W : World} {G : Nat} {t : Tm} (h : Own W G 58 t.cells) : Lies 3 Tm.cells W (G + 1) (some ⟨G, 0, none⟩) [t] := fun _ => by
  refine ⟨G, 0, rfl, by omega, fun i x hi j u hj => ?_⟩
  match i, hi with
  | 0, hi =>
    obtain rfl : t = x := by simpa using hi
    rw [show (0 : Nat) + 0 * 3 + j = j by omega, h.at_ j]
    exact hj
theorem own_new {w : World} {N : Nat} {t : TypeId} {l : List Value} (hN : w.heap.size = N) : Own (w.alloc (.cells l.toArray t)) N t l := by subst hN; exact Own.made w t l
theorem own_kept {w w' : World} {r : Option Nat} {g : Nat} {t : TypeId} {l : List Value} (h : Own w g t l) (hg : w.grownBy w' r) (hne : some g ≠ r) : Own w' g t l := (hg.block g h.inside hne).trans h
theorem empty_row {w : World} {N base : Nat} (hN : w.heap.size = N) (hb : base ≤ N) : (w.alloc (.cells #[] 58)).ownsRow base 58 3 (.slice (some ⟨N, 0, none⟩) 0 0) 0 [] := by
  subst hN
  exact World.ownsRow_made w #[] 0 hb (Nat.zero_le _) rfl
theorem tm_one (x : Tm) : ∀ u ∈ x.cells, u.oneCell' = true := by
  intro u hu
  simp [Tm.cells] at hu
  rcases hu with rfl | rfl | rfl <;> rfl
theorem step_tm (w : World) {ops : Array Oper} {o : Oper} {a : Act} {K : Act → World → Prop} {Q : Exit → Act → World → Prop} {E : Prop} (hgd : o.guard = none) (s x : Operand)
    (ho : o.op = .call { callee := .builtin .append, args := #[s, x], argTypes := #[22, 22] })
    (base : Nat) (v : Value) (n : Nat) (xs : List Value) (hs : a.eval s = v) (hown : w.ownsRow base 58 3 v n xs)
    (B : Nat) (A : Option Addr) (c : Nat) (l : List Tm) (k : Nat) (hk : l.length = k) (hx : a.eval x = .slice A k c) (hl : Lies 3 Tm.cells w B A l) (hn : (n + k) * 24 ≤ 140737488355328) (hbase : base ≤ w.heap.size)
    (h : ∀ v' w', w'.ownsRow base 58 3 v' (n + k) (xs ++ l.flatMap Tm.cells) → Below base w w' → w.grownBy w' v.ownBlock → K (a.put o.dst v') w') :
    if Region.wanted o (yielded ops a.tmps) = true then Oper.wp Tryz.prog o a w K Q else E := by
  obtain ⟨i0, hi, hz0, hz1, hz2⟩ := info_parts infoTm
  subst hk
  have hw : Region.wanted o (yielded ops a.tmps) = true := by simp [Region.wanted, hgd]
  rw [if_pos hw]
  obtain ⟨v', w', hrun, ho', hb, hg⟩ : ∃ v' w', (Builtin.append_ #[22, 22] o.type #[v, .slice A l.length c]).run Tryz.prog w = .ok v' w' ∧ w'.ownsRow base 58 3 v' (n + l.length) (xs ++ l.flatMap Tm.cells) ∧ Below base w w' ∧ w.grownBy w' v.ownBlock := by
    cases A with
    | none =>
      have h0 : l = [] := by
        cases l with
        | nil => rfl
        | cons x l => obtain ⟨_, _, e, _⟩ := hl (by simp); cases e
      subst h0
      exact ⟨v, w, run_append_none w base _ _ _ i0 3 Tryz.underlying22 hi v n xs hown c, by simpa using hown, Below.refl _ _, ⟨rfl, rfl, rfl, Nat.le_refl _, fun _ _ _ => rfl⟩⟩
    | some ad =>
      have hnews : ∀ j u, (l.flatMap Tm.cells)[j]? = some u → w.cell? (ad.add j) = some u := by
        intro j u hu
        obtain ⟨i, r, y, rfl, hi, hr⟩ := flat_back (size := 3) (cells := Tm.cells) (by decide) (fun _ => rfl) l j u hu
        have hp : 0 < l.length := by have := (List.getElem?_eq_some_iff.1 hi).1; omega
        obtain ⟨b, o, e, _, hc⟩ := hl hp
        obtain rfl : ad = ⟨b, o, none⟩ := by injection e
        have ea : (⟨b, o, none⟩ : Addr).add (i * 3 + r) = ⟨b, o + i * 3 + r, none⟩ := by unfold Addr.add; split <;> simp_all <;> omega
        rw [ea]
        exact hc i y hi r u hr
      obtain ⟨v', w', hr, h2, h3, _, _⟩ := run_append_own_at (P := Tryz.prog) w base 22 o.type 58 i0 _ 3 24 Tryz.underlying22 hi hz0 hz1 hz2 rfl (by decide) v n xs hown ad l.length c (l.flatMap Tm.cells) (flat_size (size := 3) (cells := Tm.cells) (fun _ => rfl) l) hnews
        (fun u hu => by obtain ⟨y, _, hy⟩ := List.mem_flatMap.1 hu; exact tm_one y u hy) (by unfold maxLen; omega) hn hbase
      exact ⟨v', w', hr, h2, (Below.refl base w).grown h3 hbase (fun k hk => (hown.lt k hk).1), h3⟩
  unfold Oper.wp execOp
  simp only [ho, resolve, invoke, builtin, Sem.run_bind, Sem.run_pure, Result.andThen_ok, List.map_toArray, List.map_cons, List.map_nil, hs, hx, hrun]
  exact h v' w' ho' hb hg
end Go.Proofs.YtbccdmpnojdldaaGreat
namespace Go.Proofs.YtbccdmpnojdldaaGreat
open Go Go.RowKit Go.Sort Go.Lib

theorem bsT0 (w' : World) : (Instr.buildSlice 22 0 #[]).run Tryz.prog w' = .ok (.slice (some ⟨w'.heap.size, 0, none⟩) 0 0) (w'.alloc (.cells #[] 58)) := by kernel_rfl
theorem bsT1 (t : Tm) (w' : World) : (Instr.buildSlice 22 1 #[(0, .agg t.cells.toArray)]).run Tryz.prog w' = .ok (.slice (some ⟨w'.heap.size, 0, none⟩) 1 1) (w'.alloc (.cells t.cells.toArray 58)) := by kernel_rfl
theorem tm_len3 (t : Tm) : t.cells.length = 3 := rfl
theorem row_form {w : World} {base n : Nat} {e : TypeId} {size : Nat} {v : Value} {xs : List Value} (h : w.ownsRow base e size v n xs) : ∃ A c, v = .slice A n c := by
  rcases h.2 with ⟨rfl, h0⟩ | ⟨g, cc, cur, rfl, _⟩
  · exact ⟨none, 0, by rw [h0]⟩
  · exact ⟨_, _, rfl⟩
theorem base_ok {B : Nat} {a b : World} (h : Below B a b) (hB : B ≤ a.heap.size) : B ≤ b.heap.size := Nat.le_trans hB h.size
theorem past_tm {V : World} {b o : Nat} {t : Tm} (h : TmAt V b o t) (hb : b < V.heap.size) :
    (∀ p : Past V, p.w.cell? ⟨b, o, none⟩ = some (.int .u64 (t.e : Int))) ∧ (∀ p : Past V, p.w.cell? ⟨b, o + 1, none⟩ = some (.int .u64 (t.a : Int))) ∧ (∀ p : Past V, p.w.cell? ⟨b, o + 2, none⟩ = some (.int .u64 (t.b : Int))) :=
  ⟨fun p => (h.past p.h hb).1, fun p => (h.past p.h hb).2.1, fun p => (h.past p.h hb).2.2⟩
set_option maxRecDepth 100000 in
set_option maxHeartbeats 6400000 in
theorem refFront_any (A : Option Addr) (c : Nat) (l : List Tm) (w : World) (hl : Times w w.heap.size A l) (hn : l.length * 24 ≤ 140737488351232) :
    Calls Tryz.prog 113 #[.slice A l.length c] w fun e w' => ∃ v, e = .returned v ∧ w'.ownsRow w.heap.size 58 3 v (frontL l).length ((frontL l).flatMap Tm.cells) ∧ Below w.heap.size w w' := by
  obtain ⟨i0, hi, hz0, hz1, hz2⟩ := info_parts infoTm
  have HI := Lib.hid (And.intro Tryz.underlying22 (And.intro hi (And.intro hz0 (And.intro hz1 hz2))))
  clear hi hz0 hz1 hz2
  have hrf := Lib.hid (refTo_front l)
  have Hl := Lib.hid hl
  have hahead := fun s t W => Lib.hid (refAhead_any s t W)
  have hcmp := fun s t W => Lib.hid (refCompare_any s t W)
  unfold Tm.val at hahead hcmp
  clear hl
  go_enter Tryz.func113, Tryz.ntmps113
  go_wp2_with fail
  go_loopw [3, 14] (fun v i wr => ∃ k : Nat, i = .int .i64 (k : Int) ∧ k ≤ l.length ∧ wr.ownsRow w.heap.size 58 3 v (refTo l k).length ((refTo l k).flatMap Tm.cells) ∧ Below w.heap.size w wr)
    (fun _ i _ => l.length - (intOf i).toNat)
  case atStart => exact ⟨0, rfl, by omega, World.ownsRow_nil _ _ _ _, Below.refl _ _⟩
  case round =>
    obtain ⟨k, rfl, hk, hown, hb⟩ := hrel
    have hrl := refTo_len l k hk
    by_cases hlt : k < l.length
    · have hx : l[k]? = some l[k] := List.getElem?_eq_getElem hlt
      obtain ⟨b, o, rfl, hB, hcell⟩ := Hl.out (by omega)
      obtain ⟨c0, c1, c2⟩ := (hcell k _ hx).past hb hB
      have hsn := refTo_snoc hx
      generalize l[k] = t at *
      obtain ⟨nf, hnf⟩ : ∃ n, (refTo l k).length = n := ⟨_, rfl⟩
      rw [hnf] at hown hrl
      obtain ⟨A3, cc3, rfl⟩ := row_form hown
      have HH := Lib.hid (And.intro hb (And.intro hown (And.intro hsn hnf)))
      have HC := Lib.hid hcell
      clear hb hown hsn hnf hx hcell
      obtain ⟨wo, rfl⟩ : ∃ wo : World, wo = wr := ⟨_, rfl⟩
      go_wp2_with fail
      go_loopw [6, 20] (fun y i w2 => ∃ m : Nat, i = .int .i64 (m : Int) ∧ m ≤ l.length ∧ y = .bool (!blocked (l.take m) t) ∧ Own w2 wo.heap.size 58 t.cells ∧ Below wo.heap.size wo w2)
        (fun _ i _ => l.length - (intOf i).toNat)
      case atStart => exact ⟨0, rfl, by omega, rfl, Own.made wo 58 t.cells, (Below.refl _ _).alloc (Nat.le_refl _) _⟩
      case round =>
        obtain ⟨m, rfl, hm, rfl, ht, hb2⟩ := hrel
        by_cases hltm : m < l.length
        · have hy : l[m]? = some l[m] := List.getElem?_eq_getElem hltm
          obtain ⟨d0, d1, d2⟩ := (HC.out m _ hy).past (HH.out.1.trans (hb2.mono HH.out.1.size)) hB
          have hbs := blocked_snoc (t := t) hy
          generalize l[m] = u at *
          have e0 := ht.at_ 0
          have e1 := ht.at_ 1
          have e2 := ht.at_ 2
          have hg := ht.inside
          simp only [Tm.cells, List.getElem?_cons_zero, List.getElem?_cons_succ] at e0 e1 e2
          have hne := neq_time u t
          have hgd := fun (x1 y1 : Operand) (xs ys : Array Value) (w : World) => grd_time .neq x1 y1 xs ys w
          unfold Tm.val at hne
          have hA := fun W => hahead u t W
          have HM := Lib.hid (And.intro hb2 (And.intro ht hbs))
          generalize blocked (l.take m) t = p at *
          clear hb2 ht hbs hy
          cases hq : eqT u t
          · cases hle : u.le t
            · rw [hle] at hA
              rw [hq] at hne
              have HQ := Lib.hid (And.intro hq hle)
              clear hq hle
              go_wp2_with fail
              refine (hA _).out.mono ?_
              rintro e w3 ⟨rfl, b3⟩
              have B3 := Lib.hid b3
              clear b3
              go_wp2_with fail
              go_roundw
              case rel =>
                obtain ⟨hb2, ht, hbs⟩ := HM.out
                refine ⟨m + 1, by go_num, by omega, by rw [hbs, HQ.out.1, HQ.out.2]; simp, (ht.more _).past B3.out (by simp; omega), (hb2.alloc hb2.size _).trans (B3.out.mono (by have := hb2.size; simp; omega))⟩
              case measure => simp [intOf]; omega
            · rw [hle] at hA
              rw [hq] at hne
              have HQ := Lib.hid (And.intro hq hle)
              clear hq hle
              go_wp2_with fail
              refine (hA _).out.mono ?_
              rintro e w3 ⟨rfl, b3⟩
              have B3 := Lib.hid b3
              clear b3
              go_wp2_with fail
              go_roundw
              case rel =>
                obtain ⟨hb2, ht, hbs⟩ := HM.out
                refine ⟨m + 1, by go_num, by omega, by rw [hbs, HQ.out.1, HQ.out.2]; simp, (ht.more _).past B3.out (by simp; omega), (hb2.alloc hb2.size _).trans (B3.out.mono (by have := hb2.size; simp; omega))⟩
              case measure => simp [intOf]; omega
          · rw [hq] at hne
            have HQ := Lib.hid hq
            clear hq hA
            go_wp2_with fail
            go_roundw
            case rel =>
              obtain ⟨hb2, ht, hbs⟩ := HM.out
              refine ⟨m + 1, by go_num, by omega, by rw [hbs, HQ.out]; simp, ht.more _, hb2.alloc hb2.size _⟩
            case measure => simp [intOf]; omega
        · have hm2 : m = l.length := by omega
          subst hm2
          rw [List.take_length]
          obtain ⟨hb, hown, hsn, hnf⟩ := HH.out
          obtain ⟨A4, c4, he4, -, -, hF⟩ := times_of_own hnf.symm hown
          simp only [Value.slice.injEq] at he4
          obtain ⟨rfl, -, -⟩ := he4
          have hrs : refStep l (refTo l k) t = if (blocked l t || holdsT (refTo l k) t) = true then refTo l k else putIn (refTo l k) t := rfl
          have HM := Lib.hid (And.intro hb2 (And.intro ht hrs))
          have HF := Lib.hid hF
          generalize blocked l t = p at *
          clear hb hown hsn hF ht hb2 hrs hnf
          go_wp2_with fail
          go_loopw [6, 35] (fun y i w3 => ∃ j : Nat, i = .int .i64 (j : Int) ∧ j ≤ nf ∧ y = .bool (!(p || holdsT ((refTo l k).take j) t)) ∧ Own w3 wo.heap.size 58 t.cells ∧ Below wo.heap.size wo w3)
            (fun _ i _ => nf - (intOf i).toNat)
          case atStart => exact ⟨0, rfl, by omega, by simp [holdsT], HM.out.2.1, HM.out.1⟩
          case round =>
            obtain ⟨j, rfl, hj, rfl, ht, hb2⟩ := hrel
            by_cases hltj : j < nf
            · have hnf := HH.out.2.2.2
              obtain ⟨u, hy⟩ : ∃ u, (refTo l k)[j]? = some u := ⟨_, List.getElem?_eq_getElem (by omega)⟩
              obtain ⟨b', o', rfl, hB', hcell'⟩ := HF.out (by omega)
              obtain ⟨d0, d1, d2⟩ := (hcell' j _ hy).past hb2 hB'
              have hbs := holdsT_snoc (t := t) hy
              have e0 := ht.at_ 0
              have e1 := ht.at_ 1
              have e2 := ht.at_ 2
              have hg := ht.inside
              simp only [Tm.cells, List.getElem?_cons_zero, List.getElem?_cons_succ] at e0 e1 e2
              have hne := eql_time u t
              have hgd := fun (x1 y1 : Operand) (xs ys : Array Value) (w : World) => grd_time .eql x1 y1 xs ys w
              unfold Tm.val at hne
              have HL := Lib.hid (And.intro hb2 (And.intro ht hbs))
              generalize holdsT ((refTo l k).take j) t = q at *
              clear hb2 ht hbs hy hnf hcell'
              cases hq : eqT u t
              · rw [hq] at hne
                have HQ := Lib.hid hq
                clear hq
                go_wp2_with fail
                go_roundw
                case rel =>
                  obtain ⟨hb2, ht, hbs⟩ := HL.out
                  refine ⟨j + 1, by go_num, by omega, by rw [hbs, HQ.out]; simp, ht.more _, hb2.alloc hb2.size _⟩
                case measure => simp [intOf]; omega
              · rw [hq] at hne
                have HQ := Lib.hid hq
                clear hq
                go_wp2_with fail
                go_roundw
                case rel =>
                  obtain ⟨hb2, ht, hbs⟩ := HL.out
                  refine ⟨j + 1, by go_num, by omega, by rw [hbs, HQ.out]; simp, ht.more _, hb2.alloc hb2.size _⟩
                case measure => simp [intOf]; omega
            · have hj2 : j = nf := by omega
              subst hj2
              have hFl : (refTo l k).take j = refTo l k := List.take_of_length_le (by rw [HH.out.2.2.2]; exact Nat.le_refl _)
              rw [hFl]
              have HL := Lib.hid (And.intro hb2 ht)
              cases hq : p || holdsT (refTo l k) t
              · have HQ := Lib.hid hq
                rw [Bool.not_false]
                have e0 := ht.at_ 0
                have e1 := ht.at_ 1
                have e2 := ht.at_ 2
                have hg := ht.inside
                simp only [Tm.cells, List.getElem?_cons_zero, List.getElem?_cons_succ] at e0 e1 e2
                clear hq hb2 ht hFl
                go_wp2_with fail
                go_loopw [11] (fun i w4 => ∃ m : Nat, i = .int .i64 (m : Int) ∧ m ≤ j ∧ (∀ (i : Nat) (y : Tm), i < m → (refTo l k)[i]? = some y → before t y = true) ∧ Own w4 wo.heap.size 58 t.cells ∧ Below wo.heap.size wo w4)
                  (fun i _ => j - (intOf i).toNat)
                case atStart => exact ⟨0, rfl, by omega, fun i y hi _ => absurd hi (by omega), HL.out.2, HL.out.1⟩
                case round =>
                  obtain ⟨m, rfl, hm4, hbef, ht, hb2⟩ := hrel
                  have e0 := ht.at_ 0
                  have e1 := ht.at_ 1
                  have e2 := ht.at_ 2
                  have hg := ht.inside
                  simp only [Tm.cells, List.getElem?_cons_zero, List.getElem?_cons_succ] at e0 e1 e2
                  by_cases hltm4 : m < j
                  · have hnf := HH.out.2.2.2
                    obtain ⟨u, hy⟩ : ∃ u, (refTo l k)[m]? = some u := ⟨_, List.getElem?_eq_getElem (by omega)⟩
                    obtain ⟨b', o', rfl, hB', hcell'⟩ := HF.out (by omega)
                    have hB4 : b' < wr.heap.size := by have := hb2.size; omega
                    have hdu := past_tm ((hcell' m _ hy).past hb2 hB') hB4
                    obtain ⟨d0, d1, d2⟩ := hdu
                    obtain ⟨g0, g1, g2⟩ := past_cells ht
                    have hcall := fun P : Past wr => hcmp u t P.w
                    have q0 : (0 : Int) ≤ (m : Int) := by omega
                    have q1 : (m : Int) < (j : Int) := by omega
                    have t1 : decide (m < j) = true := by simpa using hltm4
                    have HD := Lib.hid (And.intro hbef (And.intro ht (And.intro hb2 hy)))
                    clear hbef ht hb2 hy hnf hcell' e0 e1 e2
                    by_cases hz : u.cmp t < 0
                    · have HZ := Lib.hid hz
                      have t2 : decide (u.cmp t < 0) = true := by simpa using hz
                      generalize u.cmp t = r at hcall t2
                      clear hz
                      go_wp2_with fail
                      refine wp_region_past wr (by kernel_rfl) (by kernel_rfl) (Below.refl _ _) ?_
                      repeat (quiet_step ((go_at_call 115; exact calls_past (hcall _).out)))
                      refine wpQuiet_nil ?_
                      intro _ hw'
                      obtain ⟨⟨wz, hbz⟩, hw''⟩ := hw'
                      dsimp only at hw''
                      obtain rfl := hw''
                      have H1 := Lib.hid hbz
                      clear hbz
                      go_wp2_with fail
                      go_roundw
                      case rel =>
                        obtain ⟨hbef, ht, hb2, hy⟩ := HD.out
                        refine ⟨m + 1, by go_num, by omega, fun i y hi hy' => ?_, ht.past H1.out ht.inside, hb2.trans (H1.out.mono hb2.size)⟩
                        by_cases him : i = m
                        · subst him
                          rw [hy] at hy'
                          injection hy' with hy'
                          subst hy'
                          exact decide_eq_true HZ.out
                        · exact hbef i y (by omega) hy'
                      case measure => simp [intOf]; omega
                    · have HZ := Lib.hid hz
                      have t2 : decide (u.cmp t < 0) = false := by simpa using hz
                      generalize u.cmp t = r at hcall t2
                      clear hz
                      go_wp2_with fail
                      refine wp_region_past wr (by kernel_rfl) (by kernel_rfl) (Below.refl _ _) ?_
                      repeat (quiet_step ((go_at_call 115; exact calls_past (hcall _).out)))
                      refine wpQuiet_nil ?_
                      intro V hw'
                      obtain ⟨⟨wz, hbz⟩, hw''⟩ := hw'
                      dsimp only at hw''
                      obtain rfl := hw''
                      have H1 := Lib.hid hbz
                      clear hbz
                      go_wp2_with fail
                      have HE : putIn (refTo l k) t = (refTo l k).take m ++ t :: (refTo l k).drop m := place_at (by rw [HH.out.2.2.2]; exact hm4) HD.out.1 (fun y hy' => by
                        have hy := HD.out.2.2.2
                        rw [hy] at hy'
                        injection hy' with hy'
                        subst hy'
                        exact decide_eq_false (by have := HZ.out; omega))
                      have HE := Lib.hid HE
                      have HW := Lib.hid (And.intro (HD.out.2.1.past H1.out HD.out.2.1.inside) (HD.out.2.2.1.trans (H1.out.mono HD.out.2.2.1.size)))
                      clear d0 d1 d2 g0 g1 g2 hcall HD HZ H1
                      obtain ⟨ht5, hb5⟩ := HW.out
                      have q3 : (m : Int) ≤ (j : Int) := by omega
                      have e0 := ht5.at_ 0
                      have e1 := ht5.at_ 1
                      have e2 := ht5.at_ 2
                      simp only [Tm.cells, List.getElem?_cons_zero, List.getElem?_cons_succ] at e0 e1 e2
                      have hcap : j ≤ cc3 := by
                        rcases HH.out.2.1.2 with ⟨e, _⟩ | ⟨g, cap, cur, e, _, _, h1, _⟩
                        · cases e
                        · injection e with _ _ e; omega
                      have q4 : (m : Int) ≤ (cc3 : Int) := by omega
                      have hcne : ¬ cc3 = m := by omega
                      have HLV := Lib.hid (lies_of_times ((HF.out.past hb5 (Nat.le_refl _)).wide hb5.size))
                      have hHT := Lib.hid ht5
                      have HB5 := Lib.hid hb5
                      have hj2 : j ≤ 5864062014805 := by omega
                      clear ht5 hb5 e0 e1 e2 q3 q4 hcne
                      refine wp_ins (by kernel_rfl) (by decide) (by decide) 74 rfl (by decide) i0 _ 24 HI.out.1 HI.out.2.1 HI.out.2.2.1 HI.out.2.2.2.1 HI.out.2.2.2.2 rfl (by decide) tm_len3 tm_one (refTo l k) t m _ cc3 j HH.out.2.2.2 (by omega) hcap (by unfold maxLen; omega) (by omega) rfl rfl HLV.out (.agg t.cells.toArray) (fun a' w' t5 hot hb => load_op (hot 5 (by decide)) rfl hHT.out hb Tryz.underlying58 rfl (by kernel_rfl)) bsT0 (bsT1 t) ?_
                      intro z0 z1 z2 z3 z4 z5 z6 z7 z8 z9 z10 z11 w9 b9 o9
                      simp only [Act.put, List.setIfInBounds_toArray, List.set_cons_zero, List.set_cons_succ]
                      have H9 := Lib.hid (And.intro b9 o9)
                      clear b9 o9
                      go_wp2_with fail
                      go_roundw
                      case rel =>
                        obtain ⟨hb, hown, hsn, hnf⟩ := HH.out
                        have hrk : refTo l (k + 1) = (refTo l k).take m ++ t :: (refTo l k).drop m := by rw [hsn, HM.out.2.2, HQ.out]; exact HE.out
                        have hrl2 : ((refTo l k).take m ++ t :: (refTo l k).drop m).length = j + 1 := by simp; omega
                        have h1 := hb.trans (HB5.out.mono hb.size)
                        refine ⟨k + 1, by go_num, by omega, ?_, h1.trans (H9.out.1.mono h1.size)⟩
                        rw [hrk, hrl2]
                        exact World.ownsRow.mono H9.out.2 h1.size
                      case measure => simp [intOf]; omega
                  · have hm5 : m = j := by omega
                    subst hm5
                    have t1 : decide (m < m) = false := by simp
                    have HE : putIn (refTo l k) t = (refTo l k).take m ++ t :: (refTo l k).drop m := place_at (by rw [HH.out.2.2.2]; exact hm4) hbef (fun y hy' => by
                      have := (List.getElem?_eq_some_iff.1 hy').1
                      have := HH.out.2.2.2
                      omega)
                    have HE := Lib.hid HE
                    have HW := Lib.hid (And.intro ht hb2)
                    have hcap : m ≤ cc3 := by
                      rcases HH.out.2.1.2 with ⟨e, h0⟩ | ⟨g, cap, cur, e, _, _, h1, _⟩
                      · injection e with _ _ e; omega
                      · injection e with _ _ e; omega
                    clear hbef ht hb2 e0 e1 e2
                    go_upto_region 20 with fail
                    go_quiet (fail)
                    go_wp2_with fail
                    have hb5 := below_draws HW.out.2 nq
                    have ht5 := HW.out.1.draws nq
                    have HLV := Lib.hid (lies_of_times ((HF.out.past hb5 (Nat.le_refl _)).wide hb5.size))
                    have hHT := Lib.hid ht5
                    have HB5 := Lib.hid hb5
                    have hj2 : m ≤ 5864062014805 := by omega
                    clear ht5 hb5
                    refine wp_ins (by kernel_rfl) (by decide) (by decide) 74 rfl (by decide) i0 _ 24 HI.out.1 HI.out.2.1 HI.out.2.2.1 HI.out.2.2.2.1 HI.out.2.2.2.2 rfl (by decide) tm_len3 tm_one (refTo l k) t m _ cc3 m HH.out.2.2.2 (by omega) hcap (by unfold maxLen; omega) (by omega) rfl rfl HLV.out (.agg t.cells.toArray) (fun a' w' t5 hot hb => load_op (hot 5 (by decide)) rfl hHT.out hb Tryz.underlying58 rfl (by kernel_rfl)) bsT0 (bsT1 t) ?_
                    intro z0 z1 z2 z3 z4 z5 z6 z7 z8 z9 z10 z11 w9 b9 o9
                    simp only [Act.put, List.setIfInBounds_toArray, List.set_cons_zero, List.set_cons_succ]
                    have H9 := Lib.hid (And.intro b9 o9)
                    clear b9 o9
                    go_wp2_with fail
                    go_roundw
                    case rel =>
                      obtain ⟨hb, hown, hsn, hnf⟩ := HH.out
                      have hrk : refTo l (k + 1) = (refTo l k).take m ++ t :: (refTo l k).drop m := by rw [hsn, HM.out.2.2, HQ.out]; exact HE.out
                      have hrl2 : ((refTo l k).take m ++ t :: (refTo l k).drop m).length = m + 1 := by simp; omega
                      have h1 := hb.trans (HB5.out.mono hb.size)
                      refine ⟨k + 1, by go_num, by omega, ?_, h1.trans (H9.out.1.mono h1.size)⟩
                      rw [hrk, hrl2]
                      exact World.ownsRow.mono H9.out.2 h1.size
                    case measure => simp [intOf]; omega
              · have HQ := Lib.hid hq
                clear hq hb2 ht hFl
                go_wp2_with fail
                go_roundw
                case rel =>
                  obtain ⟨hb, hown, hsn, hnf⟩ := HH.out
                  have hrk : refTo l (k + 1) = refTo l k := by rw [hsn, HM.out.2.2, HQ.out]; rfl
                  refine ⟨k + 1, by go_num, by omega, ?_, hb.trans (HL.out.1.mono hb.size)⟩
                  rw [hrk, hnf]
                  exact own_below hown HL.out.1
                case measure => simp [intOf]; omega
    · have hk2 : k = l.length := by omega
      subst hk2
      have HH := Lib.hid (And.intro hown hb)
      have q2 : decide ((l.length : Int) < (l.length : Int)) = false := decide_eq_false (by omega)
      clear hown hb
      go_wp2_with fail
      go_ret
      exact ⟨_, rfl, by rw [← hrf.out]; exact HH.out.1, HH.out.2⟩
end Go.Proofs.YtbccdmpnojdldaaGreat
namespace Go.Proofs.YtbccdmpnojdldaaGreat
open Go Go.RowKit

/-- what t makes with the first k of l -/
def supTo (t : Tm) (l : List Tm) (k : Nat) : List Tm := (l.take k).map (t.sup ·)
theorem supTo_snoc {t s : Tm} {l : List Tm} {k : Nat} (h : l[k]? = some s) : supTo t l (k + 1) = supTo t l k ++ [t.sup s] := by
  unfold supTo; rw [List.take_add_one, h]; simp
theorem supTo_all (t : Tm) (l : List Tm) : supTo t l l.length = l.map (t.sup ·) := by unfold supTo; rw [List.take_length]
theorem supTo_len {t : Tm} {l : List Tm} {k : Nat} (h : k ≤ l.length) : (supTo t l k).length = k := by simp [supTo]; omega

set_option maxRecDepth 100000 in
set_option maxHeartbeats 1600000 in
theorem refAdvance_any (t : Tm) (A : Option Addr) (c : Nat) (l : List Tm) (w : World) (hl : Times w w.heap.size A l) (hn : l.length * 24 ≤ 140737488351232) :
    Calls Tryz.prog 86 #[t.val, .slice A l.length c] w fun e w' => e = .returned (adv t l).val ∧ Below w.heap.size w w' := by
  by_cases h0 : l.length = 0
  · obtain rfl := List.eq_nil_of_length_eq_zero h0
    unfold Tm.val adv
    clear h0
    go_enter Tryz.func86, Tryz.ntmps86
    go_wp2_with fail
    refine bodyPost_ret (v := .agg #[.int .u64 (t.e : Int), .int .u64 (t.a : Int), .int .u64 (t.b : Int)]) (by simp [results, Tryz.results86, go_sem]) rfl ⟨rfl, ?_⟩
    exact ((Below.refl _ _).alloc (Nat.le_refl _) _).alloc (by simp) _
  · rw [adv_glb t l (by omega)]
    obtain ⟨i0, hi, hz0, hz1, hz2⟩ := info_parts infoTm
    have h00 : ((l.length : Int) == 0) = false := by rw [beq_eq_false_iff_ne]; omega
    have Hl := Lib.hid hl
    clear hl h0
    have hU := Tryz.underlying22
    have hlub := fun (s t : Tm) A W h => Lib.hid (refLub_any A 2 [s, t] W h (by unfold maxLen; simp))
    have hglb := fun A c (m : List Tm) W h hm => Lib.hid (refGlb_any A c m W h hm)
    unfold Tm.val at hlub hglb ⊢
    unfold maxLen at hglb
    go_enter Tryz.func86, Tryz.ntmps86
    go_wp2_with fail
    go_loopw [5, 14] (fun v i wr => ∃ k : Nat, i = .int .i64 (k : Int) ∧ k ≤ l.length ∧ Below w.heap.size w wr ∧ Own wr w.heap.size 58 t.cells ∧ Own wr (w.heap.size + 1) 58 [.int .u64 0, .int .u64 0, .int .u64 0] ∧
        wr.ownsRow (w.heap.size + 1 + 1) 58 3 v k ((supTo t l k).flatMap Tm.cells))
      (fun _ i _ => l.length - (intOf i).toNat)
    case atStart =>
      refine ⟨0, rfl, by omega, ((Below.refl _ _).alloc (Nat.le_refl _) _).alloc (by simp) _, ?_, ?_, World.ownsRow_nil _ _ _ _⟩
      · have := (Own.made w 58 t.cells).more (.cells #[.int .u64 0, .int .u64 0, .int .u64 0] 58)
        simpa [Tm.cells] using this
      · have := Own.made (w.alloc (.cells #[.int .u64 (t.e : Int), .int .u64 (t.a : Int), .int .u64 (t.b : Int)] 58)) 58 [.int .u64 0, .int .u64 0, .int .u64 0]
        simpa using this
    case round =>
      obtain ⟨k, rfl, hk, fb, ft, fr, hown⟩ := hrel
      have hsz := fr.inside
      by_cases hlt : k < l.length
      · have hx : l[k]? = some l[k] := List.getElem?_eq_getElem hlt
        obtain ⟨b, o, rfl, hB, hl⟩ := Hl.out (by omega)
        obtain ⟨c0, c1, c2⟩ := (hl k _ hx).past fb hB
        have hsn := supTo_snoc (t := t) hx
        generalize l[k] = y at *
        have t0 := ft.at_ 0
        have t1 := ft.at_ 1
        have t2 := ft.at_ 2
        simp only [Tm.cells, List.getElem?_cons_zero, List.getElem?_cons_succ] at t0 t1 t2
        have HR := Lib.hid (And.intro fb (And.intro ft (And.intro fr (And.intro hown (And.intro hsn hx)))))
        have hB2 : b < wr.heap.size := by have := fb.size; omega
        have hN2 : w.heap.size < wr.heap.size := by omega
        clear fb ft fr hsn hx hl hown
        go_wp2_with fail
        refine (hlub t y _ _ (times_here (times_two' _ _ (by simp)) (by simp))).out.mono ?_
        rintro e w1 ⟨rfl, hb⟩
        obtain ⟨fb, ft, fr, hown, hsn, hx⟩ := HR.out
        have h1 : Below wr.heap.size wr w1 := by
          refine below_then ?_ (by simp) hb
          repeat (first | exact Below.refl _ _ | refine Below.drew ?_ | refine Below.alloc ?_ (by first | (simp; done) | (simp; omega)) _)
        have hown1 := own_below hown h1
        have fb1 : Below w.heap.size w w1 := fb.trans (h1.mono fb.size)
        have ft1 := ft.past h1 hN2
        have fr1 := fr.past h1 hsz
        have hz := h1.size
        have H1 := Lib.hid (And.intro fb1 (And.intro ft1 fr1))
        clear fb ft fr hown hsn hx hb h1 fb1 ft1 fr1
        go_wp2_with (at_builtin; refine wpList_push _ rfl _ _ 22 rfl (w.heap.size + 1 + 1) 58 i0 _ 3 24 hU hi hz0 hz1 hz2 rfl (by decide) _ _ _ rfl hown1 _ rfl rfl ?c1 ?c2 ?c3 ?c4 ?_)
        case c1 => exact ⟨rfl, rfl, rfl⟩
        case c2 => unfold maxLen; omega
        case c3 => omega
        case c4 => omega
        intro v' w' ho' hb' _ _
        obtain ⟨fb1, ft1, fr1⟩ := H1.out
        obtain ⟨fb, ft, fr, hown, hsn, hx⟩ := HR.out
        have HR2 := Lib.hid (And.intro hsn (And.intro fb1 (And.intro ft1 (And.intro fr1 (And.intro ho' hb')))))
        clear fb ft fr hown hsn hx fb1 ft1 fr1 ho' hb' hown1
        go_wp2
        obtain ⟨hsn, fb1, ft1, fr1, ho', hb'⟩ := HR2.out
        go_roundw
        case rel =>
          refine ⟨k + 1, by go_num, by omega, fb1.trans (hb'.mono (by omega)), ft1.past hb' (by omega), fr1.past hb' (by omega), ?_⟩
          rw [hsn, ← flatT_snoc]
          exact ho'
        case measure => simp [intOf]; omega
      · have hk2 : k = l.length := by omega
        subst hk2
        have hsl := supTo_len (t := t) (Nat.le_refl l.length)
        obtain ⟨A', c', rfl, hc', _, ht⟩ := times_of_own hsl.symm hown
        have g0 := fr.open_ 0
        have g1 := fr.open_ 1
        have g2 := fr.open_ 2
        have e0 := fr.at_ 0
        have e1 := fr.at_ 1
        have e2 := fr.at_ 2
        simp only [List.getElem?_cons_zero, List.getElem?_cons_succ] at e0 e1 e2
        have hcall := hglb A' c' _ wr ht (by rw [hsl]; omega)
        rw [supTo_all] at hcall
        rw [hsl] at hc'
        rw [List.length_map] at hcall
        generalize hg : glb (l.map (t.sup ·)) = g at hcall
        have H1 := Lib.hid (And.intro hg (And.intro fb fr))
        rw [hsl]
        clear fb ft fr hown ht hg hsl
        go_wp2_with fail
        refine hcall.out.mono ?_
        rintro e w1 ⟨rfl, h1⟩
        obtain ⟨hg, fb, fr⟩ := H1.out
        have fr1 := fr.past h1 hsz
        have g0 := fr1.open_ 0
        have g1 := fr1.open_ 1
        have g2 := fr1.open_ 2
        have e0 := fr1.at_ 0
        have e1 := fr1.at_ 1
        have e2 := fr1.at_ 2
        simp only [List.getElem?_cons_zero, List.getElem?_cons_succ] at e0 e1 e2
        obtain ⟨d0, d1, d2⟩ := fr1.stored3 (.int .u64 (g.e : Int)) (.int .u64 (g.a : Int)) (.int .u64 (g.b : Int))
        have H2 := Lib.hid (And.intro hg (And.intro (fb.trans (h1.mono fb.size)) (And.intro d0 (And.intro d1 d2))))
        clear fb fr fr1 hg h1 d0 d1 d2
        go_wp2_with fail
        obtain ⟨hg, hb, d0, d1, d2⟩ := H2.out
        refine bodyPost_ret (v := g.val) (by simp [results, Tryz.results86, go_sem, d0, d1, d2, Tm.val]) rfl ⟨congrArg (fun g : Tm => Ending.returned g.val) hg.symm, below_set3 hb (by omega) _ _ _⟩
end Go.Proofs.YtbccdmpnojdldaaGreat
namespace Go.Proofs.YtbccdmpnojdldaaGreat
open Go Go.RowKit

set_option maxRecDepth 100000 in
set_option maxHeartbeats 1600000 in
theorem risfront_any (A : Option Addr) (c : Nat) (l : List Tm) (w : World) (hl : Times w w.heap.size A l) (hn : l.length * 24 ≤ 140737488351232) :
    Calls Tryz.prog 81 #[.slice A l.length c] w fun e w' => e = .returned (.bool (decide (l = frontL l))) ∧ Below w.heap.size w w' := by
  have HF := Lib.hid (refFront_any A c l w hl hn)
  have HL := Lib.hid (And.intro hl hn)
  clear hl
  go_enter Tryz.func81, Tryz.ntmps81
  go_wp2_with fail
  refine HF.out.mono ?_
  rintro _ w1 ⟨v, rfl, ho, b1⟩
  obtain ⟨A2, c2, rfl, hc2, hm2, ht2⟩ := times_of_own rfl ho
  have HQ := Lib.hid (same_any A A2 c c2 l (frontL l) w1 ((HL.out.1.past b1 (Nat.le_refl _)).wide b1.size) ht2 (by unfold maxLen; omega) (by unfold maxLen at *; omega))
  have H1 := Lib.hid b1
  clear b1 ho ht2 hc2 hm2 HF
  go_wp2_with fail
  refine HQ.out.mono ?_
  rintro _ w2 ⟨rfl, b2⟩
  have H2 := Lib.hid (belows H1.out b2)
  clear b2 HQ
  go_wp2_with fail
  go_ret
  exact ⟨rfl, H2.out⟩
set_option maxRecDepth 100000 in
set_option maxHeartbeats 1600000 in
theorem rfront_any (A : Option Addr) (c : Nat) (l : List Tm) (w : World) (hl : Times w w.heap.size A l) (hn : l.length * 24 ≤ 140737488351232) :
    Calls Tryz.prog 38 #[.slice A l.length c] w (Tells (FrontOk l) w) := by
  have HC := Lib.hid (refCheck_any A c l w hl (by unfold maxLen; omega))
  have HF := Lib.hid (fun (W : World) (h : Times W W.heap.size A l) => risfront_any A c l W h hn)
  have HL := Lib.hid hl
  clear hl
  go_enter Tryz.func38, Tryz.ntmps38
  go_wp2_with fail
  refine HC.out.mono ?_
  rintro _ w1 ⟨rfl, b1⟩
  have H1 := Lib.hid b1
  clear b1 HC
  by_cases h0 : chk l = 0
  · have hv : (chk l == 0) = true := by rw [h0]; rfl
    have HF1 := Lib.hid (HF.out w1 ((HL.out.past H1.out (Nat.le_refl _)).wide H1.out.size))
    have H0 := Lib.hid h0
    clear h0 HF
    go_wp2_with fail
    refine HF1.out.mono ?_
    rintro _ w2 ⟨rfl, b2⟩
    have H2 := Lib.hid (belows H1.out b2)
    clear b2 HF1
    by_cases he : l = frontL l
    · have hv2 : decide (l = frontL l) = true := decide_eq_true he
      have HE := Lib.hid he
      clear he
      go_wp2_with fail
      go_ret
      exact ⟨_, rfl, ⟨fun _ => ⟨H0.out, HE.out.symm⟩, fun _ => rfl⟩, H2.out⟩
    · have hv2 : decide (l = frontL l) = false := decide_eq_false he
      have HE := Lib.hid he
      clear he
      go_wp2_with fail
      go_ret
      exact ⟨_, rfl, ⟨fun h => (by cases h), fun h => absurd h.2.symm HE.out⟩, H2.out⟩
  · have hv : (chk l == 0) = false := by simpa using h0
    have H0 := Lib.hid h0
    clear h0 HF
    go_wp2_with fail
    go_ret
    exact ⟨_, rfl, ⟨fun h => (by cases h), fun h => absurd h.1 H0.out⟩, H1.out⟩
set_option maxRecDepth 100000 in
set_option maxHeartbeats 3200000 in
theorem radvanced_any (A : Option Addr) (c : Nat) (l : List Up) (A' : Option Addr) (c' : Nat) (f : List Tm) (w : World) (hl : Ups w w.heap.size A l) (hn : l.length ≤ 1099511627776) (hf : Times w w.heap.size A' f) (hfo : TsOk f c') :
    Calls Tryz.prog 47 #[.slice A l.length c, .slice A' f.length c'] w (Tells (∀ u ∈ l, adv u.t f = u.t) w) := by
  have HL := Lib.hid (And.intro hl (And.intro hf hfo))
  clear hl hf hfo
  go_enter Tryz.func47, Tryz.ntmps47
  go_wp2_with fail
  go_loopw [9] (fun v9 wr => ∃ j : Nat, v9 = .int .i64 (j : Int) ∧ j ≤ l.length ∧ Below w.heap.size w wr ∧ (∀ u ∈ l.take j, adv u.t f = u.t)) (fun v9 _ => l.length - (intOf v9).toNat)
  case atStart => exact ⟨0, rfl, by omega, Below.refl _ _, fun u hu => (by cases hu)⟩
  case round =>
    obtain ⟨j, rfl, hj, hbj, hall⟩ := hrel
    obtain ⟨wi, hwi⟩ : ∃ wi, wi = wr := ⟨_, rfl⟩
    subst hwi
    by_cases hjt : j < l.length
    · have hy : l[j]? = some l[j] := List.getElem?_eq_getElem hjt
      have hym := List.mem_of_getElem? hy
      generalize l[j] = u at *
      obtain ⟨b, o, rfl, hB, hys⟩ := lies_up HL.out.1.head (by omega)
      obtain ⟨e0, e1, e2, e3, e4, e5⟩ := ((hys j u hy).past_ hbj hB).six
      obtain ⟨V, hV, hvb, hvs, hvo⟩ := upbox wi u
      have hbV := hbj.trans (hvb.mono hbj.size)
      have hX := fun p : Past V => own6 (hvo.past p.h hvo.inside)
      have hfV := fun p : Past V => ((HL.out.2.1.past (hbV.trans (p.h.mono hbV.size)) (Nat.le_refl _)).wide (Nat.le_trans hbV.size p.h.size))
      have u1 := fun p : Past V => calls_past (refAdvance_any u.t A' c' f p.w (hfV p) (by have := HL.out.2.2.n; omega))
      have hne := neq_time (adv u.t f) u.t
      obtain ⟨s, hs⟩ : ∃ s, adv u.t f = s := ⟨_, rfl⟩
      have hall2 : s = u.t → ∀ x ∈ l.take (j + 1), adv x.t f = x.t := fun h x hx => by
        rw [List.take_add_one, hy] at hx
        rcases List.mem_append.1 hx with hx | hx
        · exact hall x hx
        · obtain rfl : x = u := by simpa using hx
          exact hs.trans h
      have hbad : s ≠ u.t → ¬ ∀ x ∈ l, adv x.t f = x.t := fun h k => h (hs.symm.trans (k u hym))
      rw [hs] at u1 hne
      have hgd := fun (x1 y1 : Operand) (xs ys : Array Value) (w : World) => grd_time .neq x1 y1 xs ys w
      unfold Tm.val at u1 hne
      have HJ := Lib.hid (And.intro hbV (And.intro hall2 hbad))
      have q0 : (0 : Int) ≤ (j : Int) := by omega
      have q1 : (j : Int) < (l.length : Int) := by omega
      have q2 : decide ((j : Int) < (l.length : Int)) = true := decide_eq_true q1
      clear hy hym hbj hall hvb hvs hbV hvo hall2 hbad hs hys hfV
      by_cases hst : s = u.t
      · have hv : (!eqT s u.t) = false := by rw [eqT_iff.2 hst]; rfl
        simp only [hv] at hne
        have HS := Lib.hid hst
        clear hst hv
        go_upto_region 4 with fail
        rw [← hV]
        clear hV e0 e1 e2 e3 e4 e5
        refine wp_region_past V (by kernel_rfl) (by kernel_rfl) (Below.refl _ _) ?_
        repeat (first | go_big_quiet_step (fail) | quiet_step (fail))
        quiet_step ((go_at_call 86; exact u1 _))
        repeat (first | go_big_quiet_step (fail) | quiet_step (fail))
        refine wpQuiet_nil ?_
        intro wz hw'
        obtain ⟨⟨wy, hbz⟩, hw''⟩ := hw'
        dsimp only at hw''
        subst hw''
        have HZ := Lib.hid (HJ.out.1.trans (hbz.mono HJ.out.1.size))
        clear hbz
        go_wp2_with fail
        go_roundw
        case rel => exact ⟨j + 1, by go_num, by omega, HZ.out, HJ.out.2.1 HS.out⟩
        case measure => simp [intOf]; omega
      · have hv : (!eqT s u.t) = true := by rw [Bool.not_eq_true', ← Bool.not_eq_true, eqT_iff]; exact hst
        simp only [hv] at hne
        have HS := Lib.hid hst
        clear hst hv
        go_upto_region 4 with fail
        rw [← hV]
        clear hV e0 e1 e2 e3 e4 e5
        refine wp_region_past V (by kernel_rfl) (by kernel_rfl) (Below.refl _ _) ?_
        repeat (first | go_big_quiet_step (fail) | quiet_step (fail))
        quiet_step ((go_at_call 86; exact u1 _))
        repeat (first | go_big_quiet_step (fail) | quiet_step (fail))
        refine wpQuiet_nil ?_
        intro wz hw'
        obtain ⟨⟨wy, hbz⟩, hw''⟩ := hw'
        dsimp only at hw''
        subst hw''
        have HZ := Lib.hid (HJ.out.1.trans (hbz.mono HJ.out.1.size))
        clear hbz
        go_wp2_with fail
        go_ret
        exact ⟨false, rfl, by simp only [Bool.false_eq_true, false_iff]; exact HJ.out.2.2 HS.out, HZ.out⟩
    · have hj2 : j = l.length := by omega
      have q2 : decide ((j : Int) < (l.length : Int)) = false := decide_eq_false (by omega)
      rw [hj2, List.take_length] at hall
      have HJ := Lib.hid (And.intro hbj hall)
      clear hbj hall
      go_wp2_with fail
      go_ret
      exact ⟨true, rfl, ⟨fun _ => HJ.out.2, fun _ => rfl⟩, HJ.out.1⟩
set_option maxRecDepth 100000 in
set_option maxHeartbeats 3200000 in
theorem rbcheck_any (b : Bt) (w : World) (hb : BtIn w w.heap.size b) (hok : BtOk b) :
    Calls Tryz.prog 14 #[b.val] w (Codes (BatchOk b.f b.l) 4 w) := by
  obtain ⟨V, hV, hvb, hvs, hvo⟩ := btbox w b
  have hin := hb.keep hvb
  have hfn := hok.f.n
  have hln := hok.l.n
  have z1 := Lib.hid (rfront_any b.sA b.sc b.f V hin.since (by omega))
  have z2 := fun W (h : Below V.heap.size V W) => Lib.hid (reven_any b.uA b.uc b.l W (hin.keep h).ups hok.l.ok hok.l.n)
  have z3 := fun W (h : Below V.heap.size V W) => Lib.hid (radvanced_any b.uA b.uc b.l b.sA b.sc b.f W (hin.keep h).ups hok.l.n (hin.keep h).since hok.f)
  have HV := Lib.hid (And.intro hvb hvo)
  rw [show b.val = .agg #[.slice b.sA b.f.length b.sc, .slice b.uA b.l.length b.uc] from rfl]
  unfold Tells at z1 z2 z3
  clear hb hok hvb hvs hvo hin
  go_enter Tryz.func14, Tryz.ntmps14
  go_upto_region 1 with fail
  rw [← hV]
  clear hV
  obtain ⟨d0, d1⟩ := own2 HV.out.2
  go_wp2_with fail
  refine z1.out.mono ?_
  rintro _ w1 ⟨B1, rfl, hB1, b1⟩
  have H1 := Lib.hid (And.intro b1 (And.intro hB1 (HV.out.2.past b1 HV.out.2.inside)))
  clear b1 hB1 z1 d0 d1
  cases B1 with
  | false =>
    go_wp2_with fail
    go_ret
    exact ⟨4, rfl, .inr ⟨fun h => (by have := H1.out.2.1.2 h.1; cases this), rfl⟩, belows HV.out.1 H1.out.1⟩
  | true =>
    obtain ⟨d0, d1⟩ := own2 H1.out.2.2
    go_wp2_with fail
    refine (z2 _ H1.out.1).out.mono ?_
    rintro _ w2 ⟨B2, rfl, hB2, b2⟩
    have H2 := Lib.hid (And.intro (belows H1.out.1 b2) (And.intro hB2 (H1.out.2.2.past b2 H1.out.2.2.inside)))
    clear b2 hB2 z2 d0 d1
    cases B2 with
    | false =>
      go_wp2_with fail
      go_ret
      exact ⟨4, rfl, .inr ⟨fun h => (by have := H2.out.2.1.2 h.2.1; cases this), rfl⟩, belows HV.out.1 H2.out.1⟩
    | true =>
      obtain ⟨d0, d1⟩ := own2 H2.out.2.2
      go_wp2_with fail
      refine (z3 _ H2.out.1).out.mono ?_
      rintro _ w3 ⟨B3, rfl, hB3, b3⟩
      have H3 := Lib.hid (And.intro (belows H2.out.1 b3) hB3)
      clear b3 hB3 z3 d0 d1
      cases B3 with
      | false =>
        go_wp2_with fail
        go_ret
        exact ⟨4, rfl, .inr ⟨fun h => (by have := H3.out.2.2 h.2.2; cases this), rfl⟩, belows HV.out.1 H3.out.1⟩
      | true =>
        go_wp2_with fail
        go_ret
        exact ⟨0, rfl, .inl ⟨⟨H1.out.2.1.1 (by first | trivial | rfl), H2.out.2.1.1 (by first | trivial | rfl), H3.out.2.1 (by first | trivial | rfl)⟩, rfl⟩, belows HV.out.1 H3.out.1⟩
/-- an update's time set anew in a row of the call's own -/
theorem row_time {w : World} {base g n cap : Nat} {X : List Up} {k : Nat} {u : Up} (h : w.ownsRow base 60 6 (.slice (some ⟨g, 0, none⟩) n cap) n (X.flatMap Up.cells)) (hx : X[k]? = some u) (t : Tm) :
    ∃ W, W = ((w.setCell ⟨g, k * 6 + 2, none⟩ (.int .u64 (t.e : Int))).setCell ⟨g, k * 6 + 3, none⟩ (.int .u64 (t.a : Int))).setCell ⟨g, k * 6 + 4, none⟩ (.int .u64 (t.b : Int)) ∧
      W.ownsRow base 60 6 (.slice (some ⟨g, 0, none⟩) n cap) n ((X.set k { u with t := t }).flatMap Up.cells) ∧ w.grownBy W (some g) ∧ (∀ B u, Below B u w → B ≤ g → Below B u W) := by
  refine ⟨_, rfl, ?_, ⟨rfl, rfl, rfl, by simp [World.setCell], fun b _ hb => ?_⟩, fun B u hB hg => ((hB.setCell (p := ⟨g, k * 6 + 2, none⟩) hg _).setCell (p := ⟨g, k * 6 + 3, none⟩) hg _).setCell (p := ⟨g, k * 6 + 4, none⟩) hg _⟩
  · rw [← set_time hx t]
    exact (((h.stored (k * 6 + 2) _).1.stored (k * 6 + 3) _).1.stored (k * 6 + 4) _).1
  · have hne : b ≠ g := fun e => hb (by rw [e])
    rw [Below.heap_setCell _ ⟨g, k * 6 + 4, none⟩ _ b hne, Below.heap_setCell _ ⟨g, k * 6 + 3, none⟩ _ b hne, Below.heap_setCell _ ⟨g, k * 6 + 2, none⟩ _ b hne]
theorem advP (f : List Tm) {X : List Up} {k : Nat} {u : Up} (h : X[k]? = some u) (s : Tm) (hs : adv u.t f = s) : X.set k { u with t := s } = X.set k (u.advd f) := by
  unfold Up.advd; rw [hs]
set_option maxRecDepth 100000 in
set_option maxHeartbeats 6400000 in
theorem radvL_any (A : Option Addr) (c : Nat) (l : List Up) (A' : Option Addr) (c' : Nat) (f : List Tm) (w : World) (hl : Ups w w.heap.size A l) (hok : ∀ u ∈ l, UOk u) (h8 : ∀ u ∈ l, u.key.length ≤ 1099511627776 ∧ u.row.length ≤ 1099511627776) (hn : l.length ≤ 1099511627776) (hf : Times w w.heap.size A' f) (hfn : f.length ≤ 1099511627776) :
    Calls Tryz.prog 41 #[.slice A l.length c, .slice A' f.length c'] w (Copied (advL f l) w) := by
  have HC := Lib.hid (copyU_own A c l w hl hok h8 hn)
  have HL := Lib.hid hf
  clear hl hok h8 hf
  go_enter Tryz.func41, Tryz.ntmps41
  go_wp2_with fail
  refine HC.out.mono ?_
  rintro _ w1 ⟨v, o, rfl, hp, hown, hout, b1⟩
  obtain ⟨Ao, co, rfl⟩ : ∃ Ao co, v = .slice Ao o.length co := by
    rcases hown.2 with ⟨e, h0⟩ | ⟨g, cap, cur, e, _⟩
    · exact ⟨none, 0, by rw [e, h0]⟩
    · exact ⟨_, _, e⟩
  have hlo : o.length ≤ 1099511627776 := by have := congrArg List.length hp; rw [List.length_map, List.length_map] at this; omega
  have H1 := Lib.hid (And.intro hp (And.intro hown (And.intro hout b1)))
  have hs1 := b1.size
  clear hp hown hout b1 HC
  go_wp2_with fail
  go_loopw [11] (fun v11 wr => ∃ k : Nat, v11 = .int .i64 (k : Int) ∧ k ≤ o.length ∧ wr.ownsRow w.heap.size 60 6 (.slice Ao o.length co) o.length (((o.take k).map (Up.advd f) ++ o.drop k).flatMap Up.cells) ∧ (∀ u ∈ (o.take k).map (Up.advd f) ++ o.drop k, UIn wr wr.heap.size u ∧ UOk u ∧ Far w.heap.size (.slice Ao o.length co) wr u) ∧ Below w.heap.size w wr) (fun v11 _ => o.length - (intOf v11).toNat)
  case atStart => exact ⟨0, rfl, by omega, by simpa using H1.out.2.1, by simpa using H1.out.2.2.1, H1.out.2.2.2⟩
  case round =>
    obtain ⟨k, rfl, hk, hown, hout, hb⟩ := hrel
    obtain ⟨wi, hwi⟩ : ∃ wi, wi = wr := ⟨_, rfl⟩
    subst hwi
    by_cases hlt : k < o.length
    · have hx : o[k]? = some o[k] := List.getElem?_eq_getElem hlt
      generalize o[k] = u at *
      obtain ⟨hx1, hx2⟩ := part_next (g := Up.advd f) hx
      generalize hX : (o.take k).map (Up.advd f) ++ o.drop k = X at *
      obtain ⟨g, rfl⟩ : ∃ g, Ao = some ⟨g, 0, none⟩ := by
        rcases hown.2 with ⟨e, h0⟩ | ⟨g, cap, cur, e, _⟩
        · omega
        · injection e with e; exact ⟨g, e⟩
      have hg := hown.lt g rfl
      have hc := fun r v (hr : u.cells[r]? = some v) => (hown.cellAt (k * 6 + r) (by have := (List.getElem?_eq_some_iff.1 hr).1; have := ucells_len u; omega)).trans (flat_of (size := 6) (cells := Up.cells) (fun _ => rfl) X k r u v hx1 hr)
      have c2 := hc 2 _ rfl
      have c3 := hc 3 _ rfl
      have c4 := hc 4 _ rfl
      have u1 := Lib.hid (refAdvance_any u.t A' c' f wi ((HL.out.past hb (Nat.le_refl _)).wide hb.size) (by omega))
      obtain ⟨s, hs⟩ : ∃ s, adv u.t f = s := ⟨_, rfl⟩
      rw [hs] at u1
      unfold Tm.val at u1
      have HV := Lib.hid (And.intro hown (And.intro hout (And.intro hb (And.intro hx1 (And.intro hx2 hs)))))
      have q0 : (0 : Int) ≤ (k : Int) := by omega
      have q1 : (k : Int) < (o.length : Int) := by omega
      have hg2 := hg.2
      clear hx hx1 hx2 hc hb hown hout hs hg
      go_wp2_with fail
      refine u1.out.mono ?_
      rintro _ w2 ⟨rfl, b2⟩
      have hown2 := own_below HV.out.1 b2
      obtain ⟨W, hW, hWo, hWg, hWb⟩ := row_time hown2 HV.out.2.2.2.1 s
      have d2 := (b2.cell (p := ⟨g, k * 6 + 2, none⟩) hg2).trans c2
      have d3 := (b2.cell (p := ⟨g, k * 6 + 3, none⟩) hg2).trans c3
      have d4 := (b2.cell (p := ⟨g, k * 6 + 4, none⟩) hg2).trans c4
      have f2 := hown2.frozenAt (k * 6 + 2)
      have f3 := hown2.frozenAt (k * 6 + 3)
      have f4 := hown2.frozenAt (k * 6 + 4)
      have hb2 := HV.out.2.2.1.trans (b2.mono HV.out.2.2.1.size)
      have hgw := (HV.out.1.lt g rfl).1
      have H2 := Lib.hid (And.intro hWo (And.intro hWg (And.intro (hWb _ _ hb2 hgw) (And.intro b2 hWg.size))))
      clear b2 hown2 hWo hWg hWb hb2 hgw c2 c3 c4 u1
      go_wp2_with fail
      rw [← hW]
      clear hW d2 d3 d4 f2 f3 f4
      go_roundw
      case rel =>
        have e1 : X.set k { u with t := s } = (o.take (k + 1)).map (Up.advd f) ++ o.drop (k + 1) := by rw [advP f HV.out.2.2.2.1 s HV.out.2.2.2.2.2]; exact HV.out.2.2.2.2.1
        refine ⟨k + 1, by go_num, by omega, ?_, ?_, H2.out.2.2.1⟩
        · rw [← e1]; exact H2.out.1
        · rw [← e1]
          intro z hz
          have hkeep : ∀ y ∈ X, UIn W W.heap.size y ∧ UOk y ∧ Far w.heap.size (.slice (some ⟨g, 0, none⟩) o.length co) W y := fun y hy => by
            obtain ⟨a1, a2, a3⟩ := HV.out.2.1 y hy
            have a4 := a3.next H2.out.2.2.2.1.size
            exact ⟨uin_grown (a1.keep H2.out.2.2.2.1) a4 H2.out.2.1, a2, a4.next H2.out.2.2.2.2⟩
          rcases List.mem_or_eq_of_mem_set hz with hz | hz
          · exact hkeep z hz
          · subst hz
            obtain ⟨a1, a2, a3⟩ := hkeep u (List.mem_of_getElem? HV.out.2.2.2.1)
            exact ⟨⟨a1.key, a1.row⟩, ⟨a2.kn, a2.rn, a2.ks, a2.rs, a2.dn⟩, a3⟩
      case measure => simp [intOf]; omega
    · have hk2 : k = o.length := by omega
      subst hk2
      rw [List.take_length, List.drop_length, List.append_nil] at hown hout
      have hlen : (o.map (Up.advd f)).length = o.length := List.length_map ..
      obtain ⟨A2, c2, e2, _, _, hl2⟩ := lies_of_own (size := 6) (cells := Up.cells) (l := o.map (Up.advd f)) (by decide) ucells_len hlen.symm hown
      injection e2 with e2 _ e3
      subst e2
      have hpp : (o.map (Up.advd f)).map Up.p = (advL f l).map Up.p := by
        unfold advL
        rw [List.map_map, List.map_map]
        have h0 : ∀ (a b : List Up), a.map Up.p = b.map Up.p → a.map (Up.p ∘ Up.advd f) = b.map (Up.p ∘ Up.advd f) := by
          intro a b h
          have e : (Up.p ∘ Up.advd f) = (fun q : Uk × Int => ((⟨q.1.key, q.1.row, adv q.1.t f⟩ : Uk), q.2)) ∘ Up.p := rfl
          rw [e, ← List.map_map, ← List.map_map, h]
        exact h0 _ _ H1.out.1
      have H2 := Lib.hid (And.intro hl2 (And.intro hout (And.intro hb hpp)))
      have HLN := Lib.hid hlen
      have q5 : decide ((o.length : Int) < (o.length : Int)) = false := decide_eq_false (by omega)
      clear hl2 hout hb hown hpp hlen e3 hk hlt
      obtain ⟨n, hnn⟩ : ∃ n, o.length = n := ⟨_, rfl⟩
      rw [hnn] at q5 ⊢
      rw [hnn] at hlo
      have HNN := Lib.hid hnn
      clear hnn
      go_wp2_with fail
      go_ret
      exact ⟨Ao, co, o.map (Up.advd f), by first | (rw [HLN.out, HNN.out]; done) | (rw [HLN.out, HNN.out]; rfl) | (rw [HNN.out] at HLN; rw [HLN.out]), H2.out.2.2.2, ⟨H2.out.1, fun u hu => (H2.out.2.1 u hu).1⟩, fun u hu => (H2.out.2.1 u hu).2.1, H2.out.2.2.1⟩
end Go.Proofs.YtbccdmpnojdldaaGreat
namespace Go.Proofs.YtbccdmpnojdldaaGreat
open Go Go.RowKit

def beyB (l : List Tm) (t : Tm) : Bool := l.any fun u => u.le t
set_option maxRecDepth 100000 in
set_option maxHeartbeats 3200000 in
theorem rbeyond_any (A : Option Addr) (c : Nat) (l : List Tm) (t : Tm) (w : World) (hl : Times w w.heap.size A l) (hn : l.length ≤ maxLen) :
    Calls Tryz.prog 51 #[.slice A l.length c, .agg #[.int .u64 (t.e : Int), .int .u64 (t.a : Int), .int .u64 (t.b : Int)]] w fun e w' => e = .returned (.bool (beyB l t)) ∧ Below w.heap.size w w' := by
  obtain ⟨V, hV, hvb, hvs, hvo⟩ := tm_box w t
  have z1 := fun (s : Tm) W => Lib.hid (refAhead_any s t W)
  unfold Tm.val at z1
  unfold maxLen at hn
  have HV := Lib.hid (And.intro hvb hvo)
  have HL := Lib.hid (hl.past hvb (Nat.le_refl _) |>.wide hvb.size)
  clear hl hvb hvo hvs
  go_enter Tryz.func51, Tryz.ntmps51
  go_upto_region 1 with fail
  rw [← hV]
  clear hV
  go_wp2_with fail
  go_loopw [9] (fun v9 wr => ∃ k : Nat, v9 = .int .i64 (k : Int) ∧ k ≤ l.length ∧ beyB (l.take k) t = false ∧ Below V.heap.size V wr) (fun v9 _ => l.length - (intOf v9).toNat)
  case atStart => exact ⟨0, rfl, by omega, rfl, Below.refl _ _⟩
  case round =>
    obtain ⟨k, rfl, hk, hno, hb⟩ := hrel
    obtain ⟨wi, hwi⟩ : ∃ wi, wi = wr := ⟨_, rfl⟩
    subst hwi
    by_cases hlt : k < l.length
    · have hx : l[k]? = some l[k] := List.getElem?_eq_getElem hlt
      generalize l[k] = u at *
      obtain ⟨b, o, rfl, hB, hcell⟩ := HL.out (by omega)
      obtain ⟨c0, c1, c2⟩ := (hcell k u hx).past hb hB
      obtain ⟨W, hW, hWb, hWs, hWo⟩ := tm_box wi u
      have ho3 := (HV.out.2.past hb HV.out.2.inside).past hWb (HV.out.2.past hb HV.out.2.inside).inside
      have z2 := fun W => z1 u W
      obtain ⟨B, hB'⟩ : ∃ B, u.le t = B := ⟨_, rfl⟩
      rw [hB'] at z2
      have hstep : beyB (l.take (k + 1)) t = B := by unfold beyB at *; rw [List.take_add_one, hx, List.any_append, hno, ← hB']; simp
      have hyes : B = true → beyB l t = true := fun h => by unfold beyB; rw [List.any_eq_true]; exact ⟨u, List.mem_of_getElem? hx, hB'.trans h⟩
      have HO := Lib.hid (And.intro (hb.trans (hWb.mono hb.size)) (And.intro hWo (And.intro ho3 (And.intro hstep hyes))))
      have q0 : (0 : Int) ≤ (k : Int) := by omega
      have q1 : (k : Int) < (l.length : Int) := by omega
      have q2 : decide ((k : Int) < (l.length : Int)) = true := decide_eq_true q1
      clear hno hb hx hcell hWb hWs hWo ho3 hB' hstep hyes
      go_upto_region 4 with fail
      rw [← hW]
      clear hW c0 c1 c2
      obtain ⟨e0, e1, e2⟩ := own3 HO.out.2.1
      obtain ⟨d0, d1, d2⟩ := own3 HO.out.2.2.1
      go_wp2_with fail
      refine (z2 _).out.mono ?_
      rintro _ w3 ⟨rfl, b3⟩
      have H3 := Lib.hid (HO.out.1.trans (b3.mono HO.out.1.size))
      clear b3 z2 e0 e1 e2 d0 d1 d2
      cases B with
      | false =>
        go_wp2_with fail
        go_roundw
        case rel => exact ⟨k + 1, by go_num, by omega, HO.out.2.2.2.1, H3.out⟩
        case measure => simp [intOf]; omega
      | true =>
        go_wp2_with fail
        go_ret
        exact ⟨ret_bool (HO.out.2.2.2.2 (by first | trivial | rfl)).symm, HV.out.1.trans (H3.out.mono HV.out.1.size)⟩
    · have hk2 : k = l.length := by omega
      subst hk2
      rw [List.take_length] at hno
      have HO := Lib.hid (And.intro hno hb)
      have q2 : decide ((l.length : Int) < (l.length : Int)) = false := decide_eq_false (by omega)
      clear hno hb
      go_wp2_with fail
      go_ret
      exact ⟨ret_bool HO.out.1.symm, HV.out.1.trans (HO.out.2.mono HV.out.1.size)⟩
theorem beyB_is (f : List Tm) (t : Tm) : beyB f t = beyond f t := rfl
set_option maxRecDepth 100000 in
set_option maxHeartbeats 3200000 in
theorem rlater_any (A : Option Addr) (c : Nat) (g : List Tm) (A' : Option Addr) (c' : Nat) (f : List Tm) (w : World) (hg : Times w w.heap.size A g) (hgn : g.length ≤ maxLen) (hf : Times w w.heap.size A' f) (hfn : f.length ≤ maxLen) :
    Calls Tryz.prog 16 #[.slice A g.length c, .slice A' f.length c'] w (Tells (LaterF g f) w) := by
  have z1 := fun (t : Tm) W (h : Below w.heap.size w W) => Lib.hid (rbeyond_any A' c' f t W ((hf.past h (Nat.le_refl _)).wide h.size) hfn)
  have HL := Lib.hid hg
  unfold maxLen at hgn hfn
  have hd : LaterF g f ↔ f.length = 0 ∨ 0 < g.length ∧ ∀ x ∈ g, beyB f x = true := by
    unfold LaterF
    rw [List.length_eq_zero_iff, List.length_pos_iff]
    exact Iff.rfl
  have HD := Lib.hid hd
  clear hg hf hd
  go_enter Tryz.func16, Tryz.ntmps16
  by_cases hf0 : f.length = 0
  · have t0 : ((f.length : Int) == 0) = true := by rw [beq_iff_eq]; omega
    have HF := Lib.hid hf0
    clear hf0
    go_wp2_with fail
    go_ret
    exact ⟨true, rfl, ⟨fun _ => HD.out.2 (.inl HF.out), fun _ => rfl⟩, Below.refl _ _⟩
  · have t0 : ((f.length : Int) == 0) = false := by rw [beq_eq_false_iff_ne]; omega
    have HF := Lib.hid hf0
    clear hf0
    go_wp2_with fail
    go_loopw [12] (fun v9 wr => ∃ k : Nat, v9 = .int .i64 (k : Int) ∧ k ≤ g.length ∧ (∀ x ∈ g.take k, beyB f x = true) ∧ Below w.heap.size w wr) (fun v9 _ => g.length - (intOf v9).toNat)
    case atStart => exact ⟨0, rfl, by omega, fun x hx => (by cases hx), Below.refl _ _⟩
    case round =>
      obtain ⟨k, rfl, hk, hno, hb⟩ := hrel
      obtain ⟨wi, hwi⟩ : ∃ wi, wi = wr := ⟨_, rfl⟩
      subst hwi
      by_cases hlt : k < g.length
      · have hx : g[k]? = some g[k] := List.getElem?_eq_getElem hlt
        generalize g[k] = u at *
        obtain ⟨b, o, rfl, hB, hcell⟩ := HL.out (by omega)
        obtain ⟨c0, c1, c2⟩ := (hcell k u hx).past hb hB
        obtain ⟨W, hW, hWb, hWs, hWo⟩ := tm_box wi u
        have z2 := z1 u W (hb.trans (hWb.mono hb.size))
        obtain ⟨B, hB'⟩ : ∃ B, beyB f u = B := ⟨_, rfl⟩
        rw [hB'] at z2
        have hstep : B = true → ∀ x ∈ g.take (k + 1), beyB f x = true := fun h x hx' => by
          rw [List.take_add_one, hx] at hx'
          rcases List.mem_append.1 hx' with hx' | hx'
          · exact hno x hx'
          · obtain rfl : x = u := by simpa using hx'
            exact hB'.trans h
        have hbad : B = false → ¬ ∀ x ∈ g, beyB f x = true := fun h h' => by have := h' u (List.mem_of_getElem? hx); rw [hB', h] at this; cases this
        have HO := Lib.hid (And.intro (hb.trans (hWb.mono hb.size)) (And.intro hWo (And.intro hstep hbad)))
        have q0 : (0 : Int) ≤ (k : Int) := by omega
        have q1 : (k : Int) < (g.length : Int) := by omega
        have q2 : decide ((k : Int) < (g.length : Int)) = true := decide_eq_true q1
        clear hno hb hx hcell hWb hWs hWo hB' hstep hbad
        go_upto_region 6 with fail
        rw [← hW]
        clear hW c0 c1 c2
        obtain ⟨e0, e1, e2⟩ := own3 HO.out.2.1
        go_wp2_with fail
        refine z2.out.mono ?_
        rintro _ w3 ⟨rfl, b3⟩
        have H3 := Lib.hid (HO.out.1.trans (b3.mono HO.out.1.size))
        clear b3 z2 e0 e1 e2
        cases B with
        | true =>
          go_wp2_with fail
          go_roundw
          case rel => exact ⟨k + 1, by go_num, by omega, HO.out.2.2.1 (by first | trivial | rfl), H3.out⟩
          case measure => simp [intOf]; omega
        | false =>
          go_wp2_with fail
          go_ret
          exact ⟨false, rfl, ⟨fun h => (by cases h), fun h => by rcases HD.out.1 h with h | h; exact absurd h HF.out; exact absurd h.2 (HO.out.2.2.2 (by first | trivial | rfl))⟩, H3.out⟩
      · have hk2 : k = g.length := by omega
        subst hk2
        rw [List.take_length] at hno
        have HO := Lib.hid (And.intro hno hb)
        have q2 : decide ((g.length : Int) < (g.length : Int)) = false := decide_eq_false (by omega)
        clear hno hb
        by_cases hg0 : 0 < g.length
        · have t1 : decide (0 < (g.length : Int)) = true := decide_eq_true (by omega)
          have t2 : decide (0 < g.length) = true := decide_eq_true hg0
          have HG := Lib.hid hg0
          clear hg0
          go_wp2_with fail
          go_ret
          exact ⟨_, rfl, ⟨fun _ => HD.out.2 (.inr ⟨HG.out, HO.out.1⟩), fun _ => rfl⟩, HO.out.2⟩
        · have t1 : decide (0 < (g.length : Int)) = false := decide_eq_false (by omega)
          have t2 : decide (0 < g.length) = false := decide_eq_false hg0
          have HG := Lib.hid hg0
          clear hg0
          go_wp2_with fail
          go_ret
          exact ⟨_, rfl, ⟨fun h => (by cases h), fun h => by rcases HD.out.1 h with h | h; exact absurd h HF.out; exact absurd h.1 HG.out⟩, HO.out.2⟩
end Go.Proofs.YtbccdmpnojdldaaGreat
namespace Go.Proofs.YtbccdmpnojdldaaGreat
open Go Go.RowKit

theorem chkUs_app : ∀ (a b : List Up), chkUs (a ++ b) = if chkUs a = 0 then chkUs b else chkUs a
  | [], b => by rw [List.nil_append]; unfold chkUs; rw [if_pos rfl]
  | u :: a, b => by
    have ih := chkUs_app a b
    show (if chkU u = 0 then chkUs (a ++ b) else chkU u) = if (if chkU u = 0 then chkUs a else chkU u) = 0 then chkUs b else (if chkU u = 0 then chkUs a else chkU u)
    by_cases h : chkU u = 0
    · simp only [if_pos h]; exact ih
    · simp only [if_neg h]
theorem chkUs_flatten : ∀ (L : List (List Up)), chkUs L.flatten = chkLs L
  | [] => rfl
  | l :: L => by
    rw [List.flatten_cons, chkUs_app, chkUs_flatten L]
    rfl
/-- what Build makes -/
def BuiltR (f : List Tm) (l : List Up) (w : World) (x : Ending) (w' : World) : Prop :=
  ∃ b : Bt, x = .returned (.tuple #[b.val, .int .i64 (bldE f l)]) ∧ (bldE f l = 0 → FrontOk f ∧ b.f = f ∧ b.l.map Up.p = consL [advL f l]) ∧ (bldE f l ≠ 0 → b = Bt.nil) ∧ BtIn w' w'.heap.size b ∧ BtOk b ∧ Below w.heap.size w w'
set_option maxRecDepth 100000 in
set_option maxHeartbeats 12800000 in
theorem rbuild_any (A : Option Addr) (c : Nat) (f : List Tm) (A' : Option Addr) (c' : Nat) (L : List (Rw Up)) (w : World) (hf : Times w w.heap.size A f) (hfo : TsOk f c) (hl : ULs w w.heap.size A' L) (hok : ∀ s ∈ L, ∀ u ∈ s.l, UOk u) (hn : (flatR L).length ≤ 1048576) (hn2 : L.length ≤ 1048576) :
    Calls Tryz.prog 10 #[.slice A f.length c, .slice A' L.length c'] w (BuiltR f (flatR L) w) := by
  obtain ⟨W, hW, hWb, hWo⟩ : ∃ W, W = w.alloc (.cells #[.slice none 0 0, .slice none 0 0] 26) ∧ Below w.heap.size w W ∧ Own W w.heap.size 26 [.slice none 0 0, .slice none 0 0] :=
    ⟨_, rfl, (Below.refl _ _).alloc (Nat.le_refl _) _, Own.made w 26 [.slice none 0 0, .slice none 0 0]⟩
  obtain ⟨i0, hi, hz0, hz1, hz2⟩ := info_parts infoUp'
  have HI := Lib.hid (And.intro Tryz.underlying24 (And.intro hi (And.intro hz0 (And.intro hz1 hz2))))
  obtain ⟨j0, hi, hz0, hz1, hz2⟩ := info_parts infoTm
  have HT := Lib.hid (And.intro Tryz.underlying22 (And.intro hi (And.intro hz0 (And.intro hz1 hz2))))
  have hfn : f.length ≤ 1099511627776 := hfo.n
  have y1 := Lib.hid (rfront_any A c f W ((hf.past hWb (Nat.le_refl _)).wide hWb.size) (by omega))
  unfold Tells at y1
  have HL := Lib.hid (And.intro hf (And.intro hfo (And.intro hl hok)))
  have HW := Lib.hid (And.intro hWb hWo)
  obtain ⟨G, hG⟩ : ∃ G, G = w.heap.size := ⟨_, rfl⟩
  have HG := Lib.hid hG
  have HP := Lib.hid (show ∀ (b : Bt) (E : Int) (x : Ending) (w' : World), bldE f (flatR L) = E → x = .returned (.tuple #[b.val, .int .i64 E]) ∧ (E = 0 → FrontOk f ∧ b.f = f ∧ b.l.map Up.p = consL [advL f (flatR L)]) ∧ (E ≠ 0 → b = Bt.nil) ∧ BtIn w' w'.heap.size b ∧ BtOk b ∧ Below w.heap.size w w' → BuiltR f (flatR L) w x w' from fun b E x w' hE h => ⟨b, by rw [hE]; exact h.1, by rw [hE]; exact h.2.1, by rw [hE]; exact h.2.2.1, h.2.2.2⟩)
  have HE := Lib.hid (show (¬ FrontOk f → bldE f (flatR L) = 4) ∧ (FrontOk f → bldE f (flatR L) = consE [advL f (flatR L)]) from ⟨fun h => if_neg h, fun h => if_pos h⟩)
  clear hf hfo hl hok hWb hWo hi hz0 hz1 hz2
  go_enter Tryz.func10, Tryz.ntmps10
  go_upto_region 1 with fail
  rw [← hW, ← hG]
  clear hW hG
  go_wp2_with fail
  refine y1.out.mono ?_
  rintro _ w1 ⟨b, rfl, hb, b1⟩
  have h1 : Below w.heap.size w w1 := HW.out.1.trans (b1.mono HW.out.1.size)
  have ho1 := HW.out.2.past b1 HW.out.2.inside
  rw [← HG.out] at ho1
  cases b with
  | false =>
    have he : bldE f (flatR L) = 4 := HE.out.1 (fun h => by have := hb.2 h; cases this)
    have f0 := ho1.open_ 0
    have f1 := ho1.open_ 1
    obtain ⟨d0, d1⟩ := own2 ho1
    have H1 := Lib.hid (And.intro h1 (And.intro ho1 he))
    clear h1 ho1 he hb b1 y1
    go_wp2_with fail
    have hX := ((H1.out.2.1.set_ 0 (.slice none 0 0)).set_ 1 (.slice none 0 0))
    obtain ⟨x0, x1⟩ := own2 hX
    have HB := Lib.hid ((H1.out.1.setCell (p := ⟨G, 0, none⟩) (Nat.le_of_eq HG.out.symm) (.slice none 0 0)).setCell (p := ⟨G, 1, none⟩) (Nat.le_of_eq HG.out.symm) (.slice none 0 0))
    clear hX f0 f1 d0 d1
    exact bodyPost_ret (v := .tuple #[.agg #[.slice none 0 0, .slice none 0 0], .int .i64 4]) (by simp [results, Tryz.results10, go_sem, x0, x1]) rfl (HP.out Bt.nil 4 _ _ H1.out.2.2 ⟨rfl, fun h => by omega, fun _ => rfl, bt_nil_in _ _, bt_nil_ok, HB.out⟩)
  | true =>
    have hfr : FrontOk f := hb.1 (by first | trivial | rfl)
    have H1 := Lib.hid (And.intro h1 (And.intro ho1 hfr))
    have hs1 := h1.size
    clear h1 ho1 hfr hb b1 y1
    go_wp2_with fail
    go_loopw [6, 18] (fun v4 v20 wr => ∃ k : Nat, v20 = .int .i64 (k : Int) ∧ k ≤ L.length ∧ wr.ownsRow w1.heap.size 60 6 v4 (flatR (L.take k)).length ((flatR (L.take k)).flatMap Up.cells) ∧ Below w1.heap.size w1 wr ∧ chkLs ((L.map Rw.l).take k) = 0)
      (fun _ v20 _ => L.length - (intOf v20).toNat)
    case atStart => exact ⟨0, rfl, by omega, World.ownsRow_nil _ _ _ _, Below.refl _ _, rfl⟩
    case round =>
      obtain ⟨k, rfl, hk, hown, hbw, hchk⟩ := hrel
      obtain ⟨wo, hwo⟩ : ∃ wo, wo = wr := ⟨_, rfl⟩
      subst hwo
      have hbw0 : Below w.heap.size w wo := H1.out.1.trans (hbw.mono hs1)
      have hoG := H1.out.2.1.past hbw H1.out.2.1.inside
      by_cases hlt : k < L.length
      · have hx : L[k]? = some L[k] := List.getElem?_eq_getElem hlt
        have hxm := List.mem_of_getElem? hx
        generalize L[k] = s at *
        obtain ⟨b, o, rfl, hB, hc0, hups⟩ := HL.out.2.2.1.at_ hx
        have hc0 := (hbw0.cell (p := ⟨b, o + k, none⟩) hB).trans hc0
        have hxl : (L.map Rw.l)[k]? = some s.l := by rw [List.getElem?_map, hx]; rfl
        have hsn : (flatR (L.take k)).length + s.l.length ≤ 1048576 := by have := flatR_len hx (Nat.le_refl _); omega
        have hcall := Lib.hid (rcheck_any s.A s.c s.l wo ((hups.past hbw0 (Nat.le_refl _)).wide hbw0.size) (by omega) (HL.out.2.2.2 s hxm))
        have hnx := chkLs_take hxl hchk
        have hbad := fun h => chkLs_bad hxl hchk h
        have HO := Lib.hid (And.intro hown (And.intro hbw (And.intro hx (And.intro hxm (And.intro hups (And.intro hnx (And.intro hbad (And.intro hbw0 hoG))))))))
        have q0 : (0 : Int) ≤ (k : Int) := by omega
        have q1 : (k : Int) < (L.length : Int) := by omega
        have q2 : decide ((k : Int) < (L.length : Int)) = true := decide_eq_true q1
        obtain ⟨K, hK⟩ : ∃ K, chkUs s.l = K := ⟨_, rfl⟩
        obtain ⟨KA, hKA⟩ : ∃ KA, s.A = KA := ⟨_, rfl⟩
        rw [hK, hKA] at hcall
        rw [hKA] at hc0
        have HKA := Lib.hid hKA
        have HK := Lib.hid hK
        clear hown hbw hchk hx hxm hups hxl hnx hbad hK hKA hbw0 hoG
        go_wp2_with fail
        refine hcall.out.mono ?_
        rintro _ w2 ⟨rfl, b1⟩
        have hb1 := HO.out.2.1.trans (b1.mono HO.out.2.1.size)
        have hb0 := HO.out.2.2.2.2.2.2.2.1.trans (b1.mono HO.out.2.2.2.2.2.2.2.1.size)
        have hL1 := HO.out.2.2.2.2.1.head.past hb0 (Nat.le_refl _)
        rw [HKA.out] at hL1
        have hs2 : w1.heap.size ≤ w2.heap.size := hb1.size
        have hoo := HO.out.2.2.2.2.2.2.2.2.past b1 HO.out.2.2.2.2.2.2.2.2.inside
        have H2 := Lib.hid (And.intro hb1 (And.intro (own_below HO.out.1 b1) (And.intro hL1 (And.intro hb0 hoo))))
        clear b1 hcall hc0 hb1 hL1 hb0 hoo
        by_cases hK0 : K = 0
        case neg =>
          have t1 : (K != 0) = true := bne_iff_ne.2 hK0
          have hb := HO.out.2.2.2.2.2.2.1 (by rw [HK.out]; exact hK0)
          have hce : bldE f (flatR L) = K := by
            rw [HE.out.2 H1.out.2.2]
            have h1 : chkLs [advL f (flatR L)] = K := by
              have h2 : chkUs (advL f (flatR L)) = K := by rw [chkUs_adv (fun x hx => H1.out.2.2.right x hx), flatR_flat, chkUs_flatten, hb, HK.out]
              unfold chkLs
              rw [h2, if_neg hK0]
            unfold consE
            rw [h1, if_neg hK0]
          have f0 := H2.out.2.2.2.2.open_ 0
          have f1 := H2.out.2.2.2.2.open_ 1
          obtain ⟨d0, d1⟩ := own2 H2.out.2.2.2.2
          have HR := Lib.hid (And.intro hce hK0)
          clear hK0 hb hce
          go_wp2_with fail
          have hX := ((H2.out.2.2.2.2.set_ 0 (.slice none 0 0)).set_ 1 (.slice none 0 0))
          obtain ⟨x0, x1⟩ := own2 hX
          have HB := Lib.hid ((H2.out.2.2.2.1.setCell (p := ⟨G, 0, none⟩) (Nat.le_of_eq HG.out.symm) (.slice none 0 0)).setCell (p := ⟨G, 1, none⟩) (Nat.le_of_eq HG.out.symm) (.slice none 0 0))
          clear hX f0 f1 d0 d1
          exact bodyPost_ret (v := .tuple #[.agg #[.slice none 0 0, .slice none 0 0], .int .i64 K]) (by simp [results, Tryz.results10, go_sem, x0, x1]) rfl (HP.out Bt.nil K _ _ HR.out.1 ⟨rfl, fun h => absurd h HR.out.2, fun _ => rfl, bt_nil_in _ _, bt_nil_ok, HB.out⟩)
        subst hK0
        go_wp2_with (at_builtin; refine wpList_append_lies _ rfl (.tmp 28) (.tmp 29) 24 60 rfl i0 _ 80 HI.out.1 HI.out.2.1 HI.out.2.2.1 HI.out.2.2.2.1 HI.out.2.2.2.2 rfl (by decide) ucells_len ucells_one w1.heap.size _ _ _ rfl H2.out.2.1 s.c rfl H2.out.2.2.1 ?m1 ?m2 ?m3 ?m4)
        case m1 => unfold maxLen; omega
        case m2 => omega
        case m3 => exact hs2
        intro v' w' ho' hb'
        have HA := Lib.hid (And.intro ho' (H2.out.1.trans hb'))
        clear ho' hb'
        go_wp2_with fail
        go_roundw
        case rel =>
          refine ⟨k + 1, by go_num, by omega, ?_, HA.out.2, by rw [HO.out.2.2.2.2.2.1, HK.out]⟩
          rw [flatR_take HO.out.2.2.1, List.length_append, List.flatMap_append]
          exact HA.out.1
        case measure => simp [intOf]; omega
      · have hk2 : k = L.length := by omega
        subst hk2
        have q2 : decide ((L.length : Int) < (L.length : Int)) = false := decide_eq_false (by omega)
        rw [List.take_length] at hown
        rw [List.take_of_length_le (by rw [List.length_map]; exact Nat.le_refl _), ← chkUs_flatten, ← flatR_flat] at hchk
        obtain ⟨all, hall⟩ : ∃ all, flatR L = all := ⟨_, rfl⟩
        have hgood : ∀ u ∈ all, chkU u = 0 ∧ UOk u ∧ UIn w w.heap.size u := fun u hu => by
          rw [← hall] at hu
          have h1 := chkUs_all.1 hchk u hu
          obtain ⟨s, hs, hus⟩ := List.mem_flatMap.1 hu
          exact ⟨h1, HL.out.2.2.2 s hs u hus, (HL.out.2.2.1.each_ s hs).each_ u hus⟩
        have HALL := Lib.hid hall
        rw [hall] at hown hn HE HP
        obtain ⟨A4, c4, rfl, _, _, h4⟩ := lies_of_own (size := 6) (cells := Up.cells) (by decide) ucells_len rfl hown
        have hu4 : Ups wo wo.heap.size A4 all := ⟨h4, fun u hu => ((hgood u hu).2.2.past hbw0 (Nat.le_refl _)).wide hbw0.size⟩
        have hft : Times wo wo.heap.size A f := (HL.out.1.past hbw0 (Nat.le_refl _)).wide hbw0.size
        have h8 : ∀ u ∈ all, u.key.length ≤ 8 ∧ u.row.length ≤ 8 := fun u hu => by
          have hz := chkK_zero (hgood u hu).1
          exact ⟨(chkRow_zero hz.1).2, (chkRow_zero hz.2.1).2⟩
        have y3 := Lib.hid (radvL_any A4 c4 all A c f wo hu4 (fun u hu => (hgood u hu).2.1) (fun u hu => by have := h8 u hu; omega) (by omega) hft (by omega))
        have HO := Lib.hid (And.intro hbw0 (And.intro hoG (HE.out.2 H1.out.2.2)))
        clear hown hchk h4 hgood hu4 hbw0 hoG hall hft h8 hbw
        go_wp2_with fail
        refine y3.out.mono ?_
        rintro _ w3 ⟨A3, c3, o, rfl, hp3, hu3, ok3, b3⟩
        have hlen3 : o.length ≤ 1048576 := by have := len_p hp3; rw [advL_len] at this; omega
        obtain ⟨V, hV, hvb, hul⟩ := one_list w3 A3 c3 o hu3
        have y4 := Lib.hid (rcons_new (some ⟨w3.heap.size, 0, none⟩) 1 _ V hul (fun s hs u hu => by
          obtain rfl : s = ⟨A3, c3, o⟩ := by simpa using hs
          exact ok3 u hu) (by simpa [flatR] using hlen3) (by simp))
        have h3 : Below w.heap.size w w3 := HO.out.1.trans (b3.mono HO.out.1.size)
        have hV' : Below w.heap.size w V := h3.trans (hvb.mono h3.size)
        have ho3 := (HO.out.2.1.past b3 HO.out.2.1.inside)
        obtain ⟨hpL, hpE⟩ := consL_p hp3
        have H3 := Lib.hid (And.intro hV' (And.intro (ho3.past hvb ho3.inside) (And.intro hpL hpE)))
        clear b3 hu3 hvb hul h3 hV' ho3 y3 hp3 ok3 hpL hpE
        go_wp2_with fail
        rw [← hV]
        clear hV
        refine y4.out.mono ?_
        rintro _ w4 ⟨A5, c5, e, rfl, hp, hu5, ok5, b4, hlo⟩
        simp only [List.map_cons, List.map_nil] at hp
        simp only [List.map_cons, List.map_nil]
        rw [H3.out.2.2.1] at hp
        rw [H3.out.2.2.2]
        have h4 : Below w.heap.size w w4 := H3.out.1.trans (b4.mono H3.out.1.size)
        have hoo := H3.out.2.1.past b4 H3.out.2.1.inside
        have hlen : e.length ≤ 1048576 := by
          have := consL_len [advL f all]
          rw [← hp, List.length_map] at this
          simp only [List.flatten_cons, List.flatten_nil, List.append_nil, advL_len] at this
          omega
        obtain ⟨E, hE⟩ : ∃ E, consE [advL f all] = E := ⟨_, rfl⟩
        rw [hE]
        have hbe : bldE f all = E := HO.out.2.2.trans hE
        by_cases h0 : E = 0
        case neg =>
          have t1 : (E != 0) = true := bne_iff_ne.2 h0
          have f0 := hoo.open_ 0
          have f1 := hoo.open_ 1
          obtain ⟨d0, d1⟩ := own2 hoo
          have H4 := Lib.hid (And.intro h4 (And.intro hoo (And.intro hbe h0)))
          clear h4 hoo hbe h0 hE hp hu5 ok5 b4 hlo hlen y4
          go_wp2_with fail
          have hX := ((H4.out.2.1.set_ 0 (.slice none 0 0)).set_ 1 (.slice none 0 0))
          obtain ⟨x0, x1⟩ := own2 hX
          have HB := Lib.hid ((H4.out.1.setCell (p := ⟨G, 0, none⟩) (Nat.le_of_eq HG.out.symm) (.slice none 0 0)).setCell (p := ⟨G, 1, none⟩) (Nat.le_of_eq HG.out.symm) (.slice none 0 0))
          clear hX f0 f1 d0 d1
          exact bodyPost_ret (v := .tuple #[.agg #[.slice none 0 0, .slice none 0 0], .int .i64 E]) (by simp [results, Tryz.results10, go_sem, x0, x1]) rfl (by rw [HALL.out]; exact HP.out Bt.nil E _ _ H4.out.2.2.1 ⟨rfl, fun h => absurd h H4.out.2.2.2, fun _ => rfl, bt_nil_in _ _, bt_nil_ok, HB.out⟩)
        subst h0
        have hal : Below w4.heap.size w4 (w4.alloc (.cells #[] 58)) := (Below.refl _ _).alloc (Nat.le_refl _) _
        have hr0 : (w4.alloc (.cells #[] 58)).ownsRow w4.heap.size 58 3 (.slice (some ⟨w4.heap.size, 0, none⟩) 0 0) 0 [] := World.ownsRow_made w4 #[] 0 (Nat.le_refl _) (Nat.zero_le _) (by simp)
        have hft := lies_of_times (((HL.out.1.past h4 (Nat.le_refl _)).wide h4.size).past hal (Nat.le_refl _))
        have H4 := Lib.hid (And.intro h4 (And.intro hoo (And.intro hbe (And.intro hp (And.intro hu5 (And.intro ok5 (And.intro hlo (And.intro hlen (And.intro hr0 (And.intro hft hal))))))))))
        have hs4 : w4.heap.size ≤ (w4.alloc (.cells #[] 58)).heap.size := hal.size
        clear h4 hoo hbe hE hp hu5 ok5 b4 hlo hlen y4 hr0 hft hal
        go_wp2_with (at_builtin; refine wpList_append_lies _ rfl (.tmp 44) (.tmp 45) 22 58 rfl j0 _ 24 HT.out.1 HT.out.2.1 HT.out.2.2.1 HT.out.2.2.2.1 HT.out.2.2.2.2 rfl (by decide) tm_len3 tm_one w4.heap.size _ _ _ rfl H4.out.2.2.2.2.2.2.2.2.1 c rfl H4.out.2.2.2.2.2.2.2.2.2.1 ?t1 ?t2 ?t3 ?t4)
        case t1 => unfold maxLen; omega
        case t2 => omega
        case t3 => exact hs4
        intro v5 w5 ho5 hb5
        obtain ⟨A6, c6, rfl, hc6, hm6, ht6⟩ := times_of_own rfl ho5
        have hlt6 := ho5.lt
        have hw45 : Below w4.heap.size w4 w5 := H4.out.2.2.2.2.2.2.2.2.2.2.trans hb5
        have h5 : Below w.heap.size w w5 := H4.out.1.trans (hw45.mono H4.out.1.size)
        have hoo5 := H4.out.2.1.past hw45 H4.out.2.1.inside
        have f0 := hoo5.open_ 0
        have f1 := hoo5.open_ 1
        obtain ⟨d0, d1⟩ := own2 hoo5
        have H5 := Lib.hid (And.intro h5 (And.intro hoo5 (And.intro ht6 (And.intro (show ∀ b o, A6 = some ⟨b, o, none⟩ → w4.heap.size ≤ b from fun b o e => by subst e; exact (hlt6 b rfl).1) (And.intro (H4.out.2.2.2.2.1.keep hw45) (And.intro hc6 hm6))))))
        clear h5 hoo5 ht6 hlt6 hw45 ho5 hb5 hc6 hm6
        go_wp2_with fail
        have hX := ((H5.out.2.1.set_ 0 (.slice A6 f.length c6)).set_ 1 (.slice A5 e.length c5))
        obtain ⟨x0, x1⟩ := own2 hX
        have HB := Lib.hid ((H5.out.1.setCell (p := ⟨G, 0, none⟩) (Nat.le_of_eq HG.out.symm) (.slice A6 f.length c6)).setCell (p := ⟨G, 1, none⟩) (Nat.le_of_eq HG.out.symm) (.slice A5 e.length c5))
        clear hX f0 f1 d0 d1
        exact bodyPost_ret (v := .tuple #[.agg #[.slice A6 f.length c6, .slice A5 e.length c5], .int .i64 0]) (by simp [results, Tryz.results10, go_sem, x0, x1]) rfl (by
          have hsG := H4.out.2.1.inside
          have hsV := H3.out.2.1.inside
          obtain ⟨s1, s2⟩ := set2_other w5 G (.slice A6 f.length c6) (.slice A5 e.length c5)
          rw [HALL.out]
          exact HP.out ⟨A6, c6, f, A5, c5, e⟩ 0 _ _ H4.out.2.2.1 ⟨rfl, fun _ => ⟨H1.out.2.2, rfl, H4.out.2.2.2.1⟩, fun h => absurd rfl h,
            ⟨times_other H5.out.2.2.1 (fun b o h => by have h1 := H5.out.2.2.2.1 b o h; omega) s1 s2, ups_other H5.out.2.2.2.2.1 (H4.out.2.2.2.2.2.2.1.mono hsV) s1 s2⟩,
            ⟨⟨hfn, H5.out.2.2.2.2.2.1, H5.out.2.2.2.2.2.2⟩, ⟨by have := H4.out.2.2.2.2.2.2.2.1; show e.length ≤ _; omega, H4.out.2.2.2.2.2.1⟩⟩, HB.out⟩)
end Go.Proofs.YtbccdmpnojdldaaGreat
namespace Go.Proofs.YtbccdmpnojdldaaGreat
open Go Go.RowKit

/-- the updates of a key, in their order -/
def grpF (l : List Up) (k : List Vl) : List Up := l.filter fun u => decide (cmpRows u.key k = 0)
theorem grpF_len (l : List Up) (k : List Vl) : (grpF l k).length ≤ l.length := List.length_filter_le ..
theorem grpF_next {l : List Up} {k : List Vl} {j : Nat} {u : Up} (h : l[j]? = some u) : grpF (l.take (j + 1)) k = grpF (l.take j) k ++ if (cmpRows u.key k == 0) = true then [u] else [] := by
  unfold grpF
  rw [List.take_add_one, h, List.filter_append]
  congr 1
  by_cases ht : cmpRows u.key k = 0 <;> simp [ht]
def SeekR (b : Bt) (key : List Vl) (w : World) (x : Ending) (w' : World) : Prop :=
  ∃ (n : Nat) (E : Int), x = .returned (.tuple #[.int .i64 (n : Int), .int .i64 E]) ∧ (BatchOk b.f b.l ∧ n = seekB b.l key ∧ E = 0 ∨ ¬ BatchOk b.f b.l ∧ n = 0 ∧ E = 4) ∧ Below w.heap.size w w'
set_option maxRecDepth 100000 in
set_option maxHeartbeats 3200000 in
theorem rseek_any (b : Bt) (A : Option Addr) (c : Nat) (key : List Vl) (w : World) (hin : BtIn w w.heap.size b) (ok : BtOk b) (hv : Vals w w.heap.size A key) (hn : key.length ≤ maxLen) :
    Calls Tryz.prog 18 #[b.val, .slice A key.length c] w (SeekR b key w) := by
  obtain ⟨V, hV, hvb, hvs, hvo⟩ := btbox w b
  have hi := hin.keep hvb
  obtain ⟨E, hE⟩ := code_of (BatchOk b.f b.l) 4
  have y1 := Lib.hid ((rbcheck_any b V hi ok).mono fun x w' h => codes_is hE h)
  have HV := Lib.hid (And.intro hvb hvo)
  have HO := Lib.hid (And.intro ok (And.intro hn (And.intro hin hv)))
  have HP := Lib.hid (show ∀ (n : Nat) (x : Ending) (w' : World), x = .returned (.tuple #[.int .i64 (n : Int), .int .i64 E]) ∧ (BatchOk b.f b.l ∧ n = seekB b.l key ∧ E = 0 ∨ ¬ BatchOk b.f b.l ∧ n = 0 ∧ E = 4) ∧ Below w.heap.size w w' → SeekR b key w x w' from fun n x w' h => ⟨n, E, h⟩)
  rw [show b.val = .agg #[.slice b.sA b.f.length b.sc, .slice b.uA b.l.length b.uc] from rfl] at y1 ⊢
  obtain ⟨a0, a1⟩ := own2 hvo
  clear hin ok hv hn hvb hvs hi hvo
  go_enter Tryz.func18, Tryz.ntmps18
  go_upto_region 1 with fail
  rw [← hV]
  clear hV
  go_wp2_with fail
  refine y1.out.mono ?_
  rintro _ w2 ⟨rfl, b2⟩
  have hP2 := HV.out.2.past b2 HV.out.2.inside
  have hin2 := (HO.out.2.2.1.keep (belows HV.out.1 b2))
  have H2 := Lib.hid (And.intro (belows HV.out.1 b2) (And.intro hP2 hin2))
  clear b2 y1 a0 a1 hP2 hin2
  by_cases h0 : E = 0
  case neg =>
    have t1 : (E != 0) = true := bne_iff_ne.2 h0
    have HB := Lib.hid (show ¬ BatchOk b.f b.l ∧ E = 4 by rcases hE with ⟨_, h⟩ | h; exact absurd h h0; exact h)
    clear hE h0
    go_wp2_with fail
    exact bodyPost_ret (v := .tuple #[.int .i64 0, .int .i64 4]) (by simp [results, Tryz.results18, go_sem]) rfl (HP.out 0 _ _ ⟨by rw [HB.out.2]; rfl, .inr ⟨HB.out.1, rfl, HB.out.2⟩, H2.out.1⟩)
  have t1 : (E != 0) = false := bne_eq_false_iff_eq.2 h0
  have HB := Lib.hid (show BatchOk b.f b.l ∧ E = 0 by rcases hE with h | ⟨_, h⟩; exact h; omega)
  clear hE h0
  go_wp2_with fail
  go_loopw [6] (fun v6 wr => ∃ k : Nat, v6 = .int .i64 (k : Int) ∧ k ≤ b.l.length ∧ (∀ i u, i < k → b.l[i]? = some u → cmpRows u.key key < 0) ∧ Below w2.heap.size w2 wr) (fun v6 _ => b.l.length - (intOf v6).toNat)
  case atStart => exact ⟨0, rfl, by omega, fun i u hi => absurd hi (by omega), Below.refl _ _⟩
  case round =>
    obtain ⟨k, rfl, hk, hall, hb⟩ := hrel
    obtain ⟨wi, hwi⟩ : ∃ wi, wi = wr := ⟨_, rfl⟩
    subst hwi
    have hln := HO.out.1.l.n
    have hP := H2.out.2.1.past hb H2.out.2.1.inside
    obtain ⟨a0, a1⟩ := own2 hP
    by_cases hlt : k < b.l.length
    · have hx : b.l[k]? = some b.l[k] := List.getElem?_eq_getElem hlt
      have hxm := List.mem_of_getElem? hx
      generalize b.l[k] = u at *
      have hin3 := H2.out.2.2.keep hb
      obtain ⟨g, o, hAe, hB, hys⟩ := lies_up hin3.ups.head (by omega)
      obtain ⟨e0, e1, e2, e3, e4, e5⟩ := (hys k u hx).six
      rw [hAe] at a1
      have hu := HO.out.1.l.ok u hxm
      have hvw := (HO.out.2.2.2.past (belows H2.out.1 hb) (Nat.le_refl _)).wide (belows H2.out.1 hb).size
      have z1 := Lib.hid (refRows_any u.kA A u.kc c u.key key wi (hin3.ups.each_ u hxm).key hvw (by have := hu.kn; unfold maxLen; omega) HO.out.2.1)
      have HJ := Lib.hid (And.intro hb (And.intro hx hall))
      have q0 : (0 : Int) ≤ (k : Int) := by omega
      have q1 : (k : Int) < (b.l.length : Int) := by omega
      have q2 : decide ((k : Int) < (b.l.length : Int)) = true := decide_eq_true q1
      clear hb hx hall hin3 hys hvw hP hxm hu hAe
      go_wp2_with fail
      refine z1.out.mono ?_
      rintro _ w3 ⟨rfl, b3⟩
      have H3 := Lib.hid (HJ.out.1.trans (b3.mono HJ.out.1.size))
      clear b3 z1 e0 e1 e2 e3 e4 e5 a0 a1
      by_cases hc : cmpRows u.key key < 0
      · have q3 : decide (cmpRows u.key key < 0) = true := decide_eq_true hc
        have hnx := Lib.hid (show ∀ i v, i < k + 1 → b.l[i]? = some v → cmpRows v.key key < 0 from fun i v hi hv => by
          by_cases h : i = k
          · subst h
            rw [HJ.out.2.1] at hv
            cases hv
            exact hc
          · exact HJ.out.2.2 i v (by omega) hv)
        clear hc
        go_wp2_with fail
        go_roundw
        case rel => exact ⟨k + 1, by go_num, by omega, hnx.out, H3.out⟩
        case measure => simp [intOf]; omega
      · have q3 : decide (cmpRows u.key key < 0) = false := decide_eq_false hc
        have hend := Lib.hid (show seekB b.l key = k from seek_only (by omega) HJ.out.2.2 (fun v hv => by rw [HJ.out.2.1] at hv; cases hv; exact hc))
        clear hc
        go_wp2_with fail
        exact bodyPost_ret (v := .tuple #[.int .i64 (k : Int), .int .i64 0]) (by simp [results, Tryz.results18, go_sem]) rfl (HP.out k _ _ ⟨by rw [HB.out.2], .inl ⟨HB.out.1, hend.out.symm, HB.out.2⟩, belows H2.out.1 H3.out⟩)
    · have hk2 : k = b.l.length := by omega
      have hend := Lib.hid (show seekB b.l key = k from seek_only (by omega) hall (fun v hv => by rw [hk2, List.getElem?_eq_none (Nat.le_refl _)] at hv; cases hv))
      have H3 := Lib.hid hb
      have q2 : decide ((k : Int) < (b.l.length : Int)) = false := decide_eq_false (by omega)
      clear hall hb hP
      go_wp2_with fail
      exact bodyPost_ret (v := .tuple #[.int .i64 (k : Int), .int .i64 0]) (by simp [results, Tryz.results18, go_sem]) rfl (HP.out k _ _ ⟨by rw [HB.out.2], .inl ⟨HB.out.1, hend.out.symm, HB.out.2⟩, belows H2.out.1 H3.out⟩)
def GroupR (b : Bt) (key : List Vl) (w : World) (x : Ending) (w' : World) : Prop :=
  ∃ (A : Option Addr) (c : Nat) (outL : List Up) (E : Int), x = .returned (.tuple #[.slice A outL.length c, .int .i64 E]) ∧ (BatchOk b.f b.l ∧ outL.map Up.p = (groupB b.l key).map Up.p ∧ E = 0 ∨ ¬ BatchOk b.f b.l ∧ outL = [] ∧ E = 4) ∧ Ups w' w'.heap.size A outL ∧ UsOk outL ∧ Below w.heap.size w w'
set_option maxRecDepth 100000 in
set_option maxHeartbeats 3200000 in
theorem rgroup_any (b : Bt) (A : Option Addr) (c : Nat) (key : List Vl) (w : World) (hin : BtIn w w.heap.size b) (ok : BtOk b) (hv : Vals w w.heap.size A key) (hn : key.length ≤ maxLen) :
    Calls Tryz.prog 20 #[b.val, .slice A key.length c] w (GroupR b key w) := by
  obtain ⟨i0, hi0, hz0, hz1, hz2⟩ := info_parts infoUp'
  have HI := Lib.hid (And.intro Tryz.underlying24 (And.intro hi0 (And.intro hz0 (And.intro hz1 hz2))))
  obtain ⟨V, hV, hvb, hvs, hvo⟩ := btbox w b
  have hi := hin.keep hvb
  obtain ⟨E, hE⟩ := code_of (BatchOk b.f b.l) 4
  have y1 := Lib.hid ((rbcheck_any b V hi ok).mono fun x w' h => codes_is hE h)
  have HV := Lib.hid (And.intro hvb hvo)
  have HO := Lib.hid (And.intro ok (And.intro hn (And.intro hin hv)))
  have HP := Lib.hid (show ∀ (A' : Option Addr) (c' : Nat) (outL : List Up) (E : Int) (x : Ending) (w' : World), x = .returned (.tuple #[.slice A' outL.length c', .int .i64 E]) ∧ (BatchOk b.f b.l ∧ outL.map Up.p = (groupB b.l key).map Up.p ∧ E = 0 ∨ ¬ BatchOk b.f b.l ∧ outL = [] ∧ E = 4) ∧ Ups w' w'.heap.size A' outL ∧ UsOk outL ∧ Below w.heap.size w w' → GroupR b key w x w' from fun A' c' n E x w' h => ⟨A', c', n, E, h⟩)
  rw [show b.val = .agg #[.slice b.sA b.f.length b.sc, .slice b.uA b.l.length b.uc] from rfl] at y1 ⊢
  obtain ⟨a0, a1⟩ := own2 hvo
  clear hin ok hv hn hvb hvs hi hvo hi0 hz0 hz1 hz2
  go_enter Tryz.func20, Tryz.ntmps20
  go_upto_region 1 with fail
  rw [← hV]
  clear hV
  go_wp2_with fail
  refine y1.out.mono ?_
  rintro _ w2 ⟨rfl, b2⟩
  have hP2 := HV.out.2.past b2 HV.out.2.inside
  have hin2 := (HO.out.2.2.1.keep (belows HV.out.1 b2))
  have H2 := Lib.hid (And.intro (belows HV.out.1 b2) (And.intro hP2 hin2))
  clear b2 y1 a0 a1
  by_cases h0 : E = 0
  case neg =>
    have t1 : (E != 0) = true := bne_iff_ne.2 h0
    have HB := Lib.hid (show ¬ BatchOk b.f b.l ∧ E = 4 by rcases hE with ⟨_, h⟩ | h; exact absurd h h0; exact h)
    clear hE h0 hP2 hin2
    go_wp2_with fail
    exact bodyPost_ret (v := .tuple #[.slice none 0 0, .int .i64 4]) (by simp [results, Tryz.results20, go_sem]) rfl (HP.out none 0 [] 4 _ _ ⟨rfl, .inr ⟨HB.out.1, rfl, rfl⟩, ⟨Lies.nil_, fun u hu => by cases hu⟩, us_nil, H2.out.1⟩)
  have t1 : (E != 0) = false := bne_eq_false_iff_eq.2 h0
  have HB := Lib.hid (show BatchOk b.f b.l by rcases hE with ⟨h, _⟩ | ⟨_, h⟩; exact h; omega)
  obtain ⟨a0, a1⟩ := own2 hP2
  clear hE h0 hP2 hin2
  go_wp2_with fail
  go_loopw [6, 15] (fun v6 v15 wr => ∃ k : Nat, v15 = .int .i64 (k : Int) ∧ k ≤ b.l.length ∧ wr.ownsRow w2.heap.size 60 6 v6 (grpF (b.l.take k) key).length ((grpF (b.l.take k) key).flatMap Up.cells) ∧ Below w2.heap.size w2 wr) (fun _ v15 _ => b.l.length - (intOf v15).toNat)
  case atStart => exact ⟨0, rfl, by omega, World.ownsRow_nil _ _ _ _, Below.refl _ _⟩
  case round =>
    obtain ⟨k, rfl, hk, hown, hb⟩ := hrel
    obtain ⟨wi, hwi⟩ : ∃ wi, wi = wr := ⟨_, rfl⟩
    subst hwi
    have hln := HO.out.1.l.n
    clear a0 a1
    by_cases hlt : k < b.l.length
    · have hx : b.l[k]? = some b.l[k] := List.getElem?_eq_getElem hlt
      have hxm := List.mem_of_getElem? hx
      generalize b.l[k] = u at *
      have hin3 := H2.out.2.2.keep hb
      obtain ⟨g, o, hAe, hB, hys⟩ := lies_up hin3.ups.head (by omega)
      obtain ⟨e0, e1, e2, e3, e4, e5⟩ := (hys k u hx).six
      rw [hAe]
      obtain ⟨V2, hV2, hvb2, hvs2, hvo2⟩ := upbox wi u
      have hu := HO.out.1.l.ok u hxm
      have hb3 := hb.trans (hvb2.mono hb.size)
      have hvw := (HO.out.2.2.2.past (belows H2.out.1 hb3) (Nat.le_refl _)).wide (belows H2.out.1 hb3).size
      have z1 := Lib.hid (refRows_any u.kA A u.kc c u.key key V2 ((hin3.ups.each_ u hxm).keep hvb2).key hvw (by have := hu.kn; unfold maxLen; omega) HO.out.2.1)
      have hnx := grpF_next (k := key) hx
      have hlen := grpF_len (b.l.take k) key
      rw [List.length_take] at hlen
      have HJ := Lib.hid (And.intro (own_below hown hvb2) (And.intro hb3 (And.intro hvo2 hnx)))
      have q0 : (0 : Int) ≤ (k : Int) := by omega
      have q1 : (k : Int) < (b.l.length : Int) := by omega
      have q2 : decide ((k : Int) < (b.l.length : Int)) = true := decide_eq_true q1
      clear hb hx hown hin3 hys hvw hxm hu hAe hnx hb3 hvb2 hvs2 hvo2
      go_upto_region 7 with fail
      rw [← hV2]
      clear hV2 e0 e1 e2 e3 e4 e5
      obtain ⟨e0, e1, e2, e3, e4, e5⟩ := own6 HJ.out.2.2.1
      go_wp2_with fail
      refine z1.out.mono ?_
      rintro _ w3 ⟨rfl, b3⟩
      have H3 := Lib.hid (And.intro (HJ.out.2.1.trans (b3.mono HJ.out.2.1.size)) (And.intro (own_below HJ.out.1 b3) (HJ.out.2.2.1.past b3 HJ.out.2.2.1.inside)))
      have hs3 := H3.out.1.size
      clear b3 z1 e0 e1 e2 e3 e4 e5
      obtain ⟨Bv, hBv⟩ : ∃ Bv, (cmpRows u.key key == 0) = Bv := ⟨_, rfl⟩
      have HBv := Lib.hid hBv
      cases Bv with
      | false =>
        go_wp2_with fail
        go_roundw
        case rel =>
          have h := HJ.out.2.2.2
          rw [HBv.out] at h
          refine ⟨k + 1, by go_num, by omega, ?_, H3.out.1⟩
          rw [h]
          simpa using H3.out.2.1
        case measure => simp [intOf]; omega
      | true =>
        obtain ⟨e0, e1, e2, e3, e4, e5⟩ := own6 H3.out.2.2
        go_wp2_with (at_builtin; refine wpList_push _ rfl _ _ 24 rfl w2.heap.size 60 i0 _ 6 80 HI.out.1 HI.out.2.1 HI.out.2.2.1 HI.out.2.2.2.1 HI.out.2.2.2.2 rfl (by decide) _ _ _ rfl H3.out.2.1 #[.slice u.kA u.key.length u.kc, .slice u.rA u.row.length u.rc, .int .u64 (u.t.e : Int), .int .u64 (u.t.a : Int), .int .u64 (u.t.b : Int), .int .i64 u.d] rfl rfl ?p1 ?p2 ?p3 ?p4 ?_)
        case p1 => exact ⟨rfl, rfl, rfl, rfl, rfl, rfl⟩
        case p2 => unfold maxLen; omega
        case p3 => omega
        case p4 => exact hs3
        intro v' w' ho' hb' hob hgw
        have H4 := Lib.hid (And.intro ho' (H3.out.1.trans hb'))
        clear ho' hb' hob hgw e0 e1 e2 e3 e4 e5
        go_wp2_with fail
        go_roundw
        case rel =>
          have h := HJ.out.2.2.2
          rw [HBv.out, if_pos rfl] at h
          refine ⟨k + 1, by go_num, by omega, ?_, H4.out.2⟩
          rw [h, List.length_append, List.flatMap_append]
          exact H4.out.1
        case measure => simp [intOf]; omega
    · have hk2 : k = b.l.length := by omega
      subst hk2
      rw [List.take_length] at hown
      have q2 : decide ((b.l.length : Int) < (b.l.length : Int)) = false := decide_eq_false (by omega)
      obtain ⟨A7, c7, rfl, _, _, hl7⟩ := lies_of_own (size := 6) (cells := Up.cells) (by decide) ucells_len rfl hown
      have hin3 := H2.out.2.2.keep hb
      have hgf : groupB b.l key = grpF b.l key := group_filter (even_keys HB.out.2.1)
      have hmem : ∀ u ∈ grpF b.l key, u ∈ b.l := fun u hu => (List.mem_filter.1 hu).1
      have hlen := grpF_len b.l key
      have z2 := Lib.hid (copyU_any A7 c7 (grpF b.l key) wi ⟨hl7, fun u hu => hin3.ups.each_ u (hmem u hu)⟩ (fun u hu => HO.out.1.l.ok u (hmem u hu))
        (fun u hu => by
          have h := chkK_zero (chkUs_all.1 HB.out.2.1.2.2 u (hmem u hu))
          exact ⟨(chkRow_zero h.1).2, (chkRow_zero h.2.1).2⟩) (by omega))
      have HG := Lib.hid (And.intro (belows H2.out.1 hb) (And.intro hgf hlen))
      clear hown hl7 hin3 hgf hmem hlen hb
      go_wp2_with fail
      refine z2.out.mono ?_
      rintro _ w5 ⟨A5, c5, outL, rfl, hp5, hu5, ok5, b5⟩
      have H5 := Lib.hid (And.intro (belows HG.out.1 b5) (And.intro hu5 (And.intro ok5 hp5)))
      clear hp5 hu5 ok5 b5 z2
      go_wp2_with fail
      refine bodyPost_ret (v := .tuple #[.slice A5 outL.length c5, .int .i64 0]) (by simp [results, Tryz.results20, go_sem]) rfl (HP.out A5 c5 outL 0 _ _ ⟨rfl, .inl ⟨HB.out, ?_, by first | trivial | rfl⟩, H5.out.2.1, ⟨?_, H5.out.2.2.1⟩, H5.out.1⟩)
      · rw [HG.out.2.1]; exact H5.out.2.2.2
      · have h := congrArg List.length H5.out.2.2.2
        rw [List.length_map, List.length_map] at h
        have := HG.out.2.2
        omega
end Go.Proofs.YtbccdmpnojdldaaGreat
namespace Go.Proofs.YtbccdmpnojdldaaGreat
open Go Go.RowKit

set_option maxRecDepth 100000 in
set_option maxHeartbeats 3200000 in
theorem seek1_any (P Q : Nat) (b : Bt) (A : Option Addr) (c : Nat) (key : List Vl) (k : Nat) (u : Up) (w : World) (hb : Own w P 26 b.cells) (hk : Own w Q 35 [.slice A key.length c]) (hin : BtIn w w.heap.size b) (hv : Vals w w.heap.size A key) (hn : key.length ≤ maxLen) (hok : UOk u) (hu : b.l[k]? = some u) :
    Calls Tryz.prog 53 #[.int .i64 (k : Int), .pointer (some ⟨P, 0, none⟩), .pointer (some ⟨Q, 0, none⟩)] w fun e w' => e = .returned (.bool (decide (0 ≤ cmpRows u.key key))) ∧ Below w.heap.size w w' := by
  have hlt : k < b.l.length := (List.getElem?_eq_some_iff.1 hu).1
  have hui := hin.ups.each_ u (List.mem_of_getElem? hu)
  obtain ⟨b', o, hA, hB, hxs⟩ := lies_up hin.ups.head (by omega)
  have hX := fun p : Past w => own2 (hb.past p.h hb.inside)
  have hQ := fun p : Past w => (hk.past p.h hk.inside).at_ 0
  simp only [List.getElem?_cons_zero] at hQ
  have hE := fun p : Past w => ((hxs k u hu).past_ p.h hB).six
  have e0 := fun p : Past w => (hE p).1
  have x1 := fun p : Past w => (hX p).2
  rw [hA] at x1
  have u1 := fun p : Past w => calls_past ((rows_gr u.kA A u.kc c u.key key p.w ((hui.key.past p.h (Nat.le_refl _)).wide p.h.size) ((hv.past p.h (Nat.le_refl _)).wide p.h.size) (Nat.le_trans hok.kn (by unfold maxLen; omega)) hn).mono fun x w' h => ⟨h.1, h.2.below⟩)
  have q0 : (0 : Int) ≤ (k : Int) := by omega
  have q1 : (k : Int) < (b.l.length : Int) := by omega
  obtain ⟨z, hz⟩ : ∃ z, cmpRows u.key key = z := ⟨_, rfl⟩
  rw [hz] at u1 ⊢
  obtain ⟨B, hB'⟩ : ∃ B, decide (0 ≤ z) = B := ⟨_, rfl⟩
  rw [hB']
  clear hb hk hin hv hn hok hu hui hxs hX hE hz hA hB hlt
  go_enter Tryz.func53, Tryz.ntmps53
  go_upto_region 1 with fail
  refine wp_region_past w (by kernel_rfl) (by kernel_rfl) (Below.refl _ _) ?_
  repeat (first | go_big_quiet_step (fail) | quiet_step (fail))
  quiet_step ((go_at_call 54; exact u1 _))
  repeat (first | go_big_quiet_step (fail) | quiet_step (fail))
  clear u1
  refine wpQuiet_nil ?_
  intro wz hw'
  obtain ⟨⟨wy, hbz⟩, hw''⟩ := hw'
  dsimp only at hw''
  subst hw''
  go_wp2_with fail
  go_ret
  exact ⟨rfl, hbz⟩
/-- what the function that is handed in answers -/
def Seeks (P Q : Nat) (l : List Up) (key : List Vl) (w : World) : Prop :=
  ∀ (k : Nat) (u : Up) (W : World), l[k]? = some u → Below w.heap.size w W → Calls Tryz.prog 53 #[.int .i64 (k : Int), .pointer (some ⟨P, 0, none⟩), .pointer (some ⟨Q, 0, none⟩)] W fun e w' => e = .returned (.bool (decide (0 ≤ cmpRows u.key key))) ∧ Below W.heap.size W w'
set_option maxRecDepth 100000 in
set_option maxHeartbeats 3200000 in
theorem searchS_any (P Q : Nat) (l : List Up) (key : List Vl) (w : World) (hl : KeysUp l) (hn : l.length ≤ 1099511627776) (hs : Seeks P Q l key w) :
    Calls Tryz.prog 52 #[.int .i64 (l.length : Int), .func (.func 53) #[] #[.pointer (some ⟨P, 0, none⟩), .pointer (some ⟨Q, 0, none⟩)]] w fun x w' => x = .returned (.int .i64 (seekB l key : Int)) ∧ Below w.heap.size w w' := by
  have HS := Lib.hid hs
  have HK := Lib.hid hl
  clear hs hl
  go_enter Tryz.func52, Tryz.ntmps52
  go_wp2_with fail
  go_loopw [5, 6] (fun v5 v6 wr => ∃ i j : Nat, v5 = .int .i64 (i : Int) ∧ v6 = .int .i64 (j : Int) ∧ i ≤ seekB l key ∧ seekB l key ≤ j ∧ j ≤ l.length ∧ Below w.heap.size w wr) (fun v5 v6 _ => (intOf v6).toNat - (intOf v5).toNat)
  case atStart => exact ⟨0, l.length, rfl, rfl, Nat.zero_le _, seek_len l key, Nat.le_refl _, Below.refl _ _⟩
  case round =>
    obtain ⟨i, j, rfl, rfl, h1, h2, h3, hb⟩ := hrel
    by_cases hlt : i < j
    · have t0 : decide ((i : Int) < (j : Int)) = true := decide_eq_true (by omega)
      have t0' : decide (i < j) = true := decide_eq_true hlt
      obtain ⟨m, hm⟩ : ∃ m, m = (i + j) / 2 := ⟨_, rfl⟩
      have hmI : ((i : Int) + (j : Int)) / 2 = (m : Int) := by omega
      have him : i ≤ m := by omega
      have hmj : m < j := by omega
      have hml : m < l.length := by omega
      have hx : l[m]? = some l[m] := List.getElem?_eq_getElem hml
      have hlo := fun h => seek_lt l key m l[m] h hx
      have hhi := fun h => seek_ge (k := key) HK.out h hx
      have y1 := Lib.hid (HS.out m _ wr hx hb)
      generalize l[m] = u at *
      obtain ⟨B, hB⟩ : ∃ B, decide (0 ≤ cmpRows u.key key) = B := ⟨_, rfl⟩
      rw [hB] at y1
      cases B with
      | true =>
        have h4 : seekB l key ≤ m := by
          apply Decidable.byContradiction
          intro h
          have := hlo (by omega)
          have := of_decide_eq_true hB
          omega
        have HH := Lib.hid (And.intro hb (And.intro h1 (And.intro h4 hml)))
        clear hb h1 h2 hx hlo hhi hB h4 hm
        go_wp2_with fail
        refine y1.out.mono ?_
        rintro _ w2 ⟨rfl, b2⟩
        have H2 := Lib.hid (HH.out.1.trans (b2.mono HH.out.1.size))
        clear b2
        go_wp2_with fail
        go_roundw
        case rel => exact ⟨i, m, rfl, by first | rfl | go_num, HH.out.2.1, HH.out.2.2.1, by omega, H2.out⟩
        case measure => simp [intOf]; omega
      | false =>
        have h4 : m + 1 ≤ seekB l key := by
          apply Decidable.byContradiction
          intro h
          have h5 := hhi (by omega)
          have := of_decide_eq_false hB
          omega
        have HH := Lib.hid (And.intro hb (And.intro h2 (And.intro h4 hml)))
        clear hb h1 h2 hx hlo hhi hB h4 hm
        go_wp2_with fail
        refine y1.out.mono ?_
        rintro _ w2 ⟨rfl, b2⟩
        have H2 := Lib.hid (HH.out.1.trans (b2.mono HH.out.1.size))
        clear b2
        go_wp2_with fail
        go_roundw
        case rel => exact ⟨m + 1, j, by go_num, rfl, HH.out.2.2.1, HH.out.2.1, h3, H2.out⟩
        case measure => simp [intOf]; omega
    · have t0 : decide ((i : Int) < (j : Int)) = false := decide_eq_false (by omega)
      have t0' : decide (i < j) = false := decide_eq_false hlt
      have HH := Lib.hid (And.intro hb (show i = seekB l key by omega))
      clear hb h1 h2
      go_wp2_with fail
      go_ret
      exact ⟨by rw [HH.out.2]; rfl, HH.out.1⟩
/-- a batch and a key in variables -/
theorem sk_box (w : World) (b : Bt) (A : Option Addr) (n c : Nat) : ∃ V, V = (w.alloc (.cells #[.slice b.sA b.f.length b.sc, .slice b.uA b.l.length b.uc] 26)).alloc (.cells #[.slice A n c] 35) ∧ Below w.heap.size w V ∧ Own V w.heap.size 26 b.cells ∧ Own V (w.heap.size + 1) 35 [.slice A n c] := by
  obtain ⟨V1, e1, b1, s1, o1⟩ := btbox w b
  obtain ⟨V2, e2, s2, b2, o2⟩ := boxd V1 [.slice A n c] 35
  exact ⟨V2, by rw [e2, e1], b1.trans (b2.mono b1.size), o1.past b2 o1.inside, by rw [← s1]; exact o2⟩
theorem seeks_of {P Q : Nat} {b : Bt} {A : Option Addr} {c : Nat} {key : List Vl} {w : World} (hb : Own w P 26 b.cells) (hk : Own w Q 35 [.slice A key.length c]) (hin : BtIn w w.heap.size b) (hv : Vals w w.heap.size A key) (hn : key.length ≤ maxLen) (hok : ∀ u ∈ b.l, UOk u) : Seeks P Q b.l key w := fun k u W hu hW =>
  seek1_any P Q b A c key k u W (hb.past hW hb.inside) (hk.past hW hk.inside) (hin.keep hW) ((hv.past hW (Nat.le_refl _)).wide hW.size) hn (hok u (List.mem_of_getElem? hu)) hu
def SeekSays (b : Bt) (key : List Vl) (w : World) (x : Ending) (w' : World) : Prop :=
  ∃ (n : Nat) (E : Int), x = .returned (.tuple #[.int .i64 (n : Int), .int .i64 E]) ∧ (BatchOk b.f b.l ∧ n = seekB b.l key ∧ E = 0 ∨ ¬ BatchOk b.f b.l ∧ n = 0 ∧ E = 4) ∧ Below w.heap.size w w'
set_option maxRecDepth 100000 in
set_option maxHeartbeats 3200000 in
theorem seek_any (b : Bt) (A : Option Addr) (c : Nat) (key : List Vl) (w : World) (hin : BtIn w w.heap.size b) (ok : BtOk b) (hv : Vals w w.heap.size A key) (hn : key.length ≤ maxLen) :
    Calls Tryz.prog 17 #[b.val, .slice A key.length c] w (SeekSays b key w) := by
  obtain ⟨V, hV, hvb, hv1, hv2⟩ := sk_box w b A key.length c
  have hi := hin.keep hvb
  have hvV := (hv.past hvb (Nat.le_refl _)).wide hvb.size
  obtain ⟨E, hE⟩ := code_of (BatchOk b.f b.l) 4
  have y1 := Lib.hid ((bcheck_any b V hi ok).mono fun x w' h => codes_is hE h)
  have HV := Lib.hid (And.intro hvb (And.intro hv1 (And.intro hv2 (And.intro hi hvV))))
  have HO := Lib.hid (And.intro ok hn)
  have HP := Lib.hid (show ∀ (n : Nat) (x : Ending) (w' : World), x = .returned (.tuple #[.int .i64 (n : Int), .int .i64 E]) ∧ (BatchOk b.f b.l ∧ n = seekB b.l key ∧ E = 0 ∨ ¬ BatchOk b.f b.l ∧ n = 0 ∧ E = 4) ∧ Below w.heap.size w w' → SeekSays b key w x w' from fun n x w' h => ⟨n, E, h⟩)
  rw [show b.val = .agg #[.slice b.sA b.f.length b.sc, .slice b.uA b.l.length b.uc] from rfl] at y1 ⊢
  obtain ⟨a0, a1⟩ := own2 hv1
  clear hin ok hv hn hvb hv1 hv2 hi hvV
  by_cases h0 : E = 0
  · subst h0
    have hB : BatchOk b.f b.l := by rcases hE with ⟨h, _⟩ | ⟨_, h⟩; exact h; omega
    have HB := Lib.hid hB
    clear hE hB
    go_enter Tryz.func17, Tryz.ntmps17
    go_upto_region 1 with fail
    rw [← hV]
    clear hV
    go_wp2_with fail
    refine y1.out.mono ?_
    rintro _ w2 ⟨rfl, b2⟩
    have hP2 := HV.out.2.1.past b2 HV.out.2.1.inside
    have hQ2 := HV.out.2.2.1.past b2 HV.out.2.2.1.inside
    have y2 := Lib.hid (searchS_any w.heap.size (w.heap.size + 1) b.l key w2 (even_keys HB.out.2.1) HO.out.1.l.n (seeks_of hP2 hQ2 (HV.out.2.2.2.1.keep b2) ((HV.out.2.2.2.2.past b2 (Nat.le_refl _)).wide b2.size) HO.out.2 HO.out.1.l.ok))
    have H2 := Lib.hid (HV.out.1.trans (b2.mono HV.out.1.size))
    clear a0 a1 y1
    obtain ⟨a0, a1⟩ := own2 hP2
    clear b2 hP2 hQ2
    go_wp2_with fail
    refine y2.out.mono ?_
    rintro _ w3 ⟨rfl, b3⟩
    have H3 := Lib.hid (H2.out.trans (b3.mono H2.out.size))
    clear b3 a0 a1 y2
    go_wp2_with fail
    exact bodyPost_ret (v := .tuple #[.int .i64 (seekB b.l key : Int), .int .i64 0]) (by simp [results, Tryz.results17, go_sem]) rfl (HP.out (seekB b.l key) _ _ ⟨rfl, .inl ⟨HB.out, rfl, by first | trivial | rfl⟩, H3.out⟩)
  · have t1 : (E != 0) = true := bne_iff_ne.2 h0
    have hB : ¬ BatchOk b.f b.l ∧ E = 4 := by rcases hE with ⟨_, h⟩ | h; exact absurd h h0; exact h
    have HB := Lib.hid hB
    clear hE hB h0
    go_enter Tryz.func17, Tryz.ntmps17
    go_upto_region 1 with fail
    rw [← hV]
    clear hV
    go_wp2_with fail
    refine y1.out.mono ?_
    rintro _ w2 ⟨rfl, b2⟩
    have H2 := Lib.hid (HV.out.1.trans (b2.mono HV.out.1.size))
    clear a0 a1 y1 b2
    go_wp2_with fail
    exact bodyPost_ret (v := .tuple #[.int .i64 0, .int .i64 E]) (by simp [results, Tryz.results17, go_sem]) rfl (HP.out 0 _ _ ⟨rfl, .inr ⟨HB.out.1, rfl, HB.out.2⟩, H2.out⟩)
end Go.Proofs.YtbccdmpnojdldaaGreat
namespace Go.Proofs.YtbccdmpnojdldaaGreat
open Go Go.RowKit

set_option maxRecDepth 100000 in
set_option maxHeartbeats 6400000 in
theorem grpG_any (cap : Value) (p : Up → Bool) (b o c : Nat) (l : List Up) (i : Nat) (w : World) (hl : Ups w w.heap.size (some ⟨b, o, none⟩) l) (hc : l.length ≤ c) (hcm : c ≤ maxLen) (hi : i ≤ l.length) (hp : Asks 58 cap p l w) :
    Calls Tryz.prog 57 #[.slice (some ⟨b, o, none⟩) l.length c, .int .i64 (i : Int), .func (.func 58) #[] #[cap]] w fun x w' => x = .returned (partV (some ⟨b, o, none⟩) i ((l.drop i).takeWhile p).length) ∧ Below w.heap.size w w' := by
  have HL := Lib.hid (And.intro hl hp)
  clear hl hp
  unfold maxLen at hcm
  go_enter Tryz.func57, Tryz.ntmps57
  go_wp2_with fail
  go_loopw [7] (fun v7 wr => ∃ n : Nat, v7 = .int .i64 ((i + n : Nat) : Int) ∧ i + n ≤ l.length ∧ Below w.heap.size w wr ∧ ∀ x ∈ (l.drop i).take n, p x = true) (fun v7 _ => l.length - (intOf v7).toNat)
  case atStart => exact ⟨0, rfl, by omega, Below.refl _ _, fun x hx => by simp at hx⟩
  case round =>
    obtain ⟨n, rfl, hn, hb, hall⟩ := hrel
    obtain ⟨j, hj⟩ : ∃ j, j = i + n := ⟨_, rfl⟩
    rw [← hj] at hn ⊢
    have hij : i ≤ j := by omega
    by_cases hlt : j < l.length
    · have hx : l[j]? = some l[j] := List.getElem?_eq_getElem hlt
      have hxm := List.mem_of_getElem? hx
      generalize l[j] = u at *
      obtain ⟨b', o', hA, hB, hys⟩ := lies_up HL.out.1.head (by omega)
      simp only [Option.some.injEq, Addr.mk.injEq, and_true] at hA
      obtain ⟨rfl, rfl⟩ := hA
      obtain ⟨e0, e1, e2, e3, e4, e5⟩ := ((hys j u hx).past_ hb hB).six
      have y1 := Lib.hid (HL.out.2 u wr hxm hb)
      have q0 : (0 : Int) ≤ (j : Int) := by omega
      have q1 : (j : Int) < (l.length : Int) := by omega
      have q2 : decide ((j : Int) < (l.length : Int)) = true := decide_eq_true q1
      have q2' : decide (j < l.length) = true := decide_eq_true hlt
      obtain ⟨B, hpu⟩ : ∃ B, p u = B := ⟨_, rfl⟩
      rw [hpu] at y1
      have HH := Lib.hid (And.intro hb (And.intro hall (And.intro hx (And.intro hpu hj))))
      clear hb hall hx hxm hys hpu hj
      cases B with
      | true =>
        go_wp2_with fail
        refine y1.out.mono ?_
        rintro _ w2 ⟨rfl, b2⟩
        have H2 := Lib.hid (HH.out.1.trans (b2.mono HH.out.1.size))
        clear b2 e0 e1 e2 e3 e4 e5
        go_wp2_with fail
        go_roundw
        case rel =>
          refine ⟨n + 1, by rw [HH.out.2.2.2.2]; go_num, by have := HH.out.2.2.2.2; omega, H2.out, fun x hx => ?_⟩
          have h3 : (l.drop i)[n]? = some u := by rw [List.getElem?_drop, ← HH.out.2.2.2.2]; exact HH.out.2.2.1
          rw [List.take_add_one, h3] at hx
          rcases List.mem_append.1 hx with hx | hx
          · exact HH.out.2.1 x hx
          · obtain rfl : x = u := by simpa using hx
            exact HH.out.2.2.2.1
        case measure => simp [intOf]; omega
      | false =>
        have HW := Lib.hid (show ((l.drop i).takeWhile p).length = n from tw_more (by rw [List.length_drop]; have := HH.out.2.2.2.2; omega) HH.out.2.1 fun x hx => by
          rw [List.getElem?_drop, ← HH.out.2.2.2.2, HH.out.2.2.1] at hx
          cases hx
          exact HH.out.2.2.2.1)
        go_wp2_with fail
        refine y1.out.mono ?_
        rintro _ w2 ⟨rfl, b2⟩
        have H2 := Lib.hid (HH.out.1.trans (b2.mono HH.out.1.size))
        have HJ := Lib.hid HH.out.2.2.2.2
        clear b2 e0 e1 e2 e3 e4 e5
        have r0 : (0 : Int) ≤ (i : Int) := by omega
        have r1 : (i : Int) ≤ (j : Int) := by omega
        have r2 : (j : Int) ≤ (c : Int) := by omega
        go_wp2_with fail
        · go_ret
          have hn0 : n = 0 := by have := HJ.out; omega
          exact ⟨by rw [HW.out, hn0]; rfl, H2.out⟩
        · go_ret
          have hj2 := HJ.out
          exact ⟨by rw [HW.out]; exact ret_part (by omega) (by omega) (by unfold subA; rw [if_neg (by omega)]), H2.out⟩
    · have hjl : j = l.length := by omega
      have q2 : decide ((j : Int) < (l.length : Int)) = false := decide_eq_false (by omega)
      have q2' : decide (j < l.length) = false := decide_eq_false hlt
      have HW := Lib.hid (show ((l.drop i).takeWhile p).length = n from tw_more (by rw [List.length_drop]; omega) hall fun x hx => by
        rw [List.getElem?_drop, ← hj, List.getElem?_eq_none (by omega)] at hx
        cases hx)
      have H2 := Lib.hid hb
      have HJ := Lib.hid hj
      clear hb hall hj
      have r0 : (0 : Int) ≤ (i : Int) := by omega
      have r1 : (i : Int) ≤ (j : Int) := by omega
      have r2 : (j : Int) ≤ (c : Int) := by omega
      go_wp2_with fail
      · go_ret
        have hn0 : n = 0 := by have := HJ.out; omega
        exact ⟨by rw [HW.out, hn0]; rfl, H2.out⟩
      · go_ret
        have hj2 := HJ.out
        exact ⟨by rw [HW.out]; exact ret_part (by omega) (by omega) (by unfold subA; rw [if_neg (by omega)]), H2.out⟩
end Go.Proofs.YtbccdmpnojdldaaGreat
namespace Go.Proofs.YtbccdmpnojdldaaGreat
open Go Go.RowKit

/-- the function that is handed in: whether an update has the key in the variable -/
theorem asks_grp (Q : Nat) (A : Option Addr) (c : Nat) (key : List Vl) (l : List Up) (w : World) (hk : Own w Q 35 [.slice A key.length c]) (hv : Vals w w.heap.size A key) (hn : key.length ≤ maxLen) (hl : ∀ u ∈ l, UIn w w.heap.size u) (ol : ∀ u ∈ l, UOk u) :
    Asks 58 (.pointer (some ⟨Q, 0, none⟩)) (fun x => decide (cmpRows x.key key = 0)) l w := by
  intro u W hu hW
  have hkW := hk.past hW hk.inside
  have hvW := (hv.past hW (Nat.le_refl _)).wide hW.size
  have huW := ((hl u hu).past hW (Nat.le_refl _)).wide hW.size
  have ou := ol u hu
  obtain ⟨V, hV, hvb, hvs, hvo⟩ := upbox W u
  have y1 := Lib.hid ((rows_gr u.kA A u.kc c u.key key V (huW.keep hvb).key ((hvW.past hvb (Nat.le_refl _)).wide hvb.size) (Nat.le_trans ou.kn (by unfold maxLen; omega)) hn).mono fun x w' h => And.intro h.1 h.2.below)
  obtain ⟨a0, a1, a2, a3, a4, a5⟩ := own6 hvo
  have b0 := (hkW.past hvb hkW.inside).at_ 0
  simp only [List.getElem?_cons_zero] at b0
  have HB := Lib.hid hvb
  obtain ⟨z, hzz⟩ : ∃ z, cmpRows u.key key = z := ⟨_, rfl⟩
  rw [hzz] at y1
  clear hk hv hn hl ol hu hW hkW hvW huW ou hvb hvs hvo
  obtain ⟨B, hB⟩ : ∃ B, (z == 0) = B := ⟨_, rfl⟩
  have HD := Lib.hid (show decide (cmpRows u.key key = 0) = B by rw [hzz, ← hB]; rfl)
  clear hzz
  go_enter Tryz.func58, Tryz.ntmps58
  go_upto_region 1 with fail
  rw [← hV]
  clear hV
  go_wp2_with fail
  refine y1.out.mono ?_
  rintro _ w2 ⟨rfl, c2⟩
  have H2 := Lib.hid (HB.out.trans (c2.mono HB.out.size))
  clear c2 a0 a1 a2 a3 a4 a5 b0
  go_wp2_with fail
  go_ret
  exact ⟨by show _ = Ending.returned (.bool (decide (cmpRows u.key key = 0))); rw [HD.out]; rfl, H2.out⟩
def GroupSays (b : Bt) (key : List Vl) (w : World) (x : Ending) (w' : World) : Prop :=
  ∃ (A : Option Addr) (outL : List Up) (E : Int), x = .returned (.tuple #[.slice A outL.length outL.length, .int .i64 E]) ∧ (BatchOk b.f b.l ∧ outL.map Up.p = (groupB b.l key).map Up.p ∧ E = 0 ∨ ¬ BatchOk b.f b.l ∧ outL = [] ∧ E = 4) ∧ Ups w' w'.heap.size A outL ∧ UsOk outL ∧ Below w.heap.size w w'
theorem group_take (l : List Up) (k : List Vl) : (l.drop (seekB l k)).take (groupB l k).length = groupB l k := by
  unfold groupB
  exact List.prefix_iff_eq_take.1 (List.takeWhile_prefix _) |>.symm
set_option maxRecDepth 100000 in
set_option maxHeartbeats 3200000 in
theorem grp0 (cap : Value) (A : Option Addr) (c : Nat) (hcm : c ≤ maxLen) (w : World) :
    Calls Tryz.prog 57 #[.slice A 0 c, .int .i64 0, .func (.func 58) #[] #[cap]] w fun x w' => (∃ A', x = .returned (.slice A' 0 0)) ∧ Below w.heap.size w w' := by
  unfold maxLen at hcm
  cases A with
  | none =>
    go_enter Tryz.func57, Tryz.ntmps57
    go_wp2_with fail
    go_loopw [7] (fun v7 wr => v7 = .int .i64 0 ∧ wr = w) (fun _ _ => 0)
    case atStart => exact ⟨rfl, rfl⟩
    case round =>
      obtain ⟨rfl, rfl⟩ := hrel
      go_wp2_with fail
      go_ret
      exact ⟨⟨_, rfl⟩, Below.refl _ _⟩
  | some ad =>
    go_enter Tryz.func57, Tryz.ntmps57
    go_wp2_with fail
    go_loopw [7] (fun v7 wr => v7 = .int .i64 0 ∧ wr = w) (fun _ _ => 0)
    case atStart => exact ⟨rfl, rfl⟩
    case round =>
      obtain ⟨rfl, rfl⟩ := hrel
      go_wp2_with fail
      go_ret
      exact ⟨⟨_, rfl⟩, Below.refl _ _⟩
theorem grp_gen (Q : Nat) (A : Option Addr) (c cc : Nat) (kA : Option Addr) (key : List Vl) (l : List Up) (w : World) (hl : Ups w w.heap.size A l) (ol : ∀ u ∈ l, UOk u) (hc : l.length ≤ c) (hcm : c ≤ maxLen) (hk : Own w Q 35 [.slice kA key.length cc]) (hv : Vals w w.heap.size kA key) (hn : key.length ≤ maxLen) :
    Calls Tryz.prog 57 #[.slice A l.length c, .int .i64 (seekB l key : Int), .func (.func 58) #[] #[.pointer (some ⟨Q, 0, none⟩)]] w fun x w' => ∃ A1, x = .returned (.slice A1 (groupB l key).length (groupB l key).length) ∧ Ups w' w'.heap.size A1 (groupB l key) ∧ Below w.heap.size w w' := by
  by_cases hpos : 0 < l.length
  · obtain ⟨b, o, rfl, hB, _⟩ := hl.head hpos
    refine (grpG_any (.pointer (some ⟨Q, 0, none⟩)) (fun x => decide (cmpRows x.key key = 0)) b o c l (seekB l key) w hl hc hcm (seek_len _ _) (asks_grp Q kA cc key l w hk hv hn hl.each_ ol)).mono fun x w' ⟨h1, h2⟩ => ?_
    obtain ⟨A1, hpv, hu1, _⟩ := part_lies (i := seekB l key) (n := (groupB l key).length) (hl.keep h2) (fun h => by rw [h] at hpos; simp at hpos) (group_len _ _)
    rw [group_take] at hu1
    exact ⟨A1, by rw [h1, ← hpv]; rfl, hu1, h2⟩
  · have h0 : l = [] := List.eq_nil_of_length_eq_zero (by omega)
    subst h0
    exact (grp0 (.pointer (some ⟨Q, 0, none⟩)) A c hcm w).mono fun x w' ⟨⟨A', h1⟩, h2⟩ => ⟨A', h1, ⟨Lies.nil_, fun u hu => by cases hu⟩, h2⟩
set_option maxRecDepth 100000 in
set_option maxHeartbeats 6400000 in
theorem group_any (b : Bt) (A : Option Addr) (c : Nat) (key : List Vl) (w : World) (hin : BtIn w w.heap.size b) (ok : BtOk b) (hc : b.l.length ≤ b.uc) (hcm : b.uc ≤ maxLen) (hln : b.l.length ≤ 1048576) (hv : Vals w w.heap.size A key) (hn : key.length ≤ maxLen) :
    Calls Tryz.prog 19 #[b.val, .slice A key.length c] w (GroupSays b key w) := by
  obtain ⟨V, hV, hvb, hv1, hv2⟩ := sk_box w b A key.length c
  have hi := hin.keep hvb
  have hvV := (hv.past hvb (Nat.le_refl _)).wide hvb.size
  have y1 := Lib.hid (seek_any b A c key V hi ok hvV hn)
  unfold SeekSays at y1
  have HV := Lib.hid (And.intro hvb (And.intro hv1 (And.intro hv2 (And.intro hi hvV))))
  have HO := Lib.hid (And.intro ok (And.intro hn (And.intro hc (And.intro hcm hln))))
  have HP := Lib.hid (show ∀ (A' : Option Addr) (outL : List Up) (E : Int) (x : Ending) (w' : World), x = .returned (.tuple #[.slice A' outL.length outL.length, .int .i64 E]) ∧ (BatchOk b.f b.l ∧ outL.map Up.p = (groupB b.l key).map Up.p ∧ E = 0 ∨ ¬ BatchOk b.f b.l ∧ outL = [] ∧ E = 4) ∧ Ups w' w'.heap.size A' outL ∧ UsOk outL ∧ Below w.heap.size w w' → GroupSays b key w x w' from fun A' n E x w' h => ⟨A', n, E, h⟩)
  rw [show b.val = .agg #[.slice b.sA b.f.length b.sc, .slice b.uA b.l.length b.uc] from rfl] at y1 ⊢
  obtain ⟨a0, a1⟩ := own2 hv1
  have b0 := hv2.at_ 0
  simp only [List.getElem?_cons_zero] at b0
  clear hin ok hv hn hvb hv1 hv2 hi hvV hc hcm hln
  go_enter Tryz.func19, Tryz.ntmps19
  go_upto_region 1 with fail
  rw [← hV]
  clear hV
  go_wp2_with fail
  refine y1.out.mono ?_
  rintro _ w2 ⟨n, E, rfl, hE, b2⟩
  have hP2 := HV.out.2.1.past b2 HV.out.2.1.inside
  have hQ2 := HV.out.2.2.1.past b2 HV.out.2.2.1.inside
  have hi2 := HV.out.2.2.2.1.keep b2
  have H2 := Lib.hid (And.intro (HV.out.1.trans (b2.mono HV.out.1.size)) hi2)
  clear a0 a1 b0 y1
  by_cases h0 : E = 0
  case neg =>
    have t1 : (E != 0) = true := bne_iff_ne.2 h0
    have HE := Lib.hid (show ¬ BatchOk b.f b.l ∧ E = 4 by rcases hE with ⟨_, _, h⟩ | ⟨h, _, h'⟩; exact absurd h h0; exact ⟨h, h'⟩)
    clear hE h0 hP2 hQ2 hi2 b2
    go_wp2_with fail
    exact bodyPost_ret (v := .tuple #[.slice none 0 0, .int .i64 E]) (by simp [results, Tryz.results19, go_sem]) rfl (HP.out none [] E _ _ ⟨rfl, .inr ⟨HE.out.1, rfl, HE.out.2⟩, ⟨Lies.nil_, fun u hu => by cases hu⟩, us_nil, H2.out.1⟩)
  subst h0
  have HE := Lib.hid (show BatchOk b.f b.l ∧ n = seekB b.l key by rcases hE with ⟨h, h', _⟩ | ⟨_, _, h⟩; exact ⟨h, h'⟩; omega)
  obtain ⟨rfl⟩ : n = seekB b.l key := HE.out.2
  have y2 := Lib.hid (grp_gen (w.heap.size + 1) b.uA b.uc c A key b.l w2 hi2.ups HO.out.1.l.ok HO.out.2.2.1 HO.out.2.2.2.1 hQ2 ((HV.out.2.2.2.2.past b2 (Nat.le_refl _)).wide b2.size) HO.out.2.1)
  obtain ⟨a0, a1⟩ := own2 hP2
  clear hE hP2 hQ2 hi2 b2
  go_wp2_with fail
  refine y2.out.mono ?_
  rintro _ w3 ⟨A1, rfl, hu1, b3⟩
  have hsub : ∀ u ∈ groupB b.l key, u ∈ b.l := fun u hu => List.mem_of_mem_drop ((List.takeWhile_sublist _).subset hu)
  have hlen : (groupB b.l key).length ≤ 1048576 := by have := group_len b.l key; have := HO.out.2.2.2.2; omega
  have y3 := Lib.hid (copyUps_any A1 (groupB b.l key).length (groupB b.l key) w3 hu1 ⟨by omega, fun u hu => HO.out.1.l.ok u (hsub u hu)⟩ (chkUs_all.2 fun u hu => chkUs_all.1 HE.out.1.2.1.2.2 u (hsub u hu)) (by omega))
  unfold CopyUps at y3
  have H3 := Lib.hid (H2.out.1.trans (b3.mono H2.out.1.size))
  clear a0 a1 y2 hu1 b3 hsub
  go_wp2_with fail
  refine y3.out.mono ?_
  rintro _ w4 ⟨A4, outL, rfl, hp4, hu4, ok4, _, b4, _⟩
  have hl4 : outL.length ≤ 1099511627776 := by have := congrArg List.length hp4; simp at this; omega
  have H4 := Lib.hid (And.intro (H3.out.trans (b4.mono H3.out.size)) (And.intro hp4 (And.intro hu4 (And.intro hl4 ok4))))
  clear hp4 hu4 ok4 b4 hl4 y3
  go_wp2_with fail
  exact bodyPost_ret (v := .tuple #[.slice A4 outL.length outL.length, .int .i64 0]) (by simp [results, Tryz.results19, go_sem]) rfl (HP.out A4 outL 0 _ _ ⟨rfl, .inl ⟨HE.out.1, H4.out.2.1, by first | trivial | rfl⟩, H4.out.2.2.1, ⟨H4.out.2.2.2.1, H4.out.2.2.2.2⟩, H4.out.1⟩)
end Go.Proofs.YtbccdmpnojdldaaGreat
namespace Go.Proofs.YtbccdmpnojdldaaGreat
open Go Go.RowKit

set_option maxRecDepth 100000 in
set_option maxHeartbeats 12800000 in
theorem basks_law (b : Bt) (A : Option Addr) (c : Nat) (key : List Vl) (w : World) (hin : BtIn w w.heap.size b) (hb : BtOk b ∧ b.l.length ≤ b.uc ∧ b.uc ≤ maxLen ∧ b.l.length ≤ 1048576) (hv : Vals w w.heap.size A key) (_ : ∀ v ∈ key, VOk v) (hn : key.length ≤ 1048576) (_ : key.length ≤ 1048576) :
    Calls Tryz.prog 4 #[b.val, .slice A key.length c] w fun e w' => e = .returned (.bool true) ∧ Below w.heap.size w w' := by
  obtain ⟨ok, hc, hcm, hln⟩ := hb
  have hkm : key.length ≤ maxLen := by unfold maxLen; omega
  obtain ⟨V, hV, hvb, hvs, hvo⟩ := btbox w b
  have y0 := fun W => Lib.hid (blives_true W)
  have z1 := fun W (h : Below w.heap.size w W) => Lib.hid (seek_any b A c key W (hin.keep h) ok ((hv.past h (Nat.le_refl _)).wide h.size) hkm)
  have z2 := fun W (h : Below w.heap.size w W) => Lib.hid (rseek_any b A c key W (hin.keep h) ok ((hv.past h (Nat.le_refl _)).wide h.size) hkm)
  have z3 := fun W (h : Below w.heap.size w W) => Lib.hid (group_any b A c key W (hin.keep h) ok hc hcm hln ((hv.past h (Nat.le_refl _)).wide h.size) hkm)
  have z4 := fun W (h : Below w.heap.size w W) => Lib.hid (rgroup_any b A c key W (hin.keep h) ok ((hv.past h (Nat.le_refl _)).wide h.size) hkm)
  unfold SeekSays at z1
  unfold SeekR at z2
  unfold GroupSays at z3
  unfold GroupR at z4
  have HV := Lib.hid (And.intro hvb hvo)
  rw [show b.val = .agg #[.slice b.sA b.f.length b.sc, .slice b.uA b.l.length b.uc] from rfl] at z1 z2 z3 z4 ⊢
  obtain ⟨a0, a1⟩ := own2 hvo
  clear hin ok hc hcm hln hv hn hkm hvb hvs hvo
  go_enter Tryz.func4, Tryz.ntmps4
  go_upto_region 1 with fail
  rw [← hV]
  clear hV
  go_wp2_with fail
  refine (z1 _ HV.out.1).out.mono ?_
  rintro _ w1 ⟨n, E, rfl, hE, b1⟩
  have ho1 := HV.out.2.past b1 HV.out.2.inside
  have H1 := Lib.hid (And.intro (belows HV.out.1 b1) ho1)
  have HE1 := Lib.hid hE
  clear b1 hE z1 a0 a1
  obtain ⟨a0, a1⟩ := own2 ho1
  clear ho1
  go_wp2_with fail
  refine (z2 _ H1.out.1).out.mono ?_
  rintro _ w2 ⟨n2, E2, rfl, hE, b2⟩
  have ho2 := H1.out.2.past b2 H1.out.2.inside
  have H2 := Lib.hid (And.intro (belows H1.out.1 b2) ho2)
  have HE2 := Lib.hid hE
  clear b2 hE z2 a0 a1
  obtain ⟨a0, a1⟩ := own2 ho2
  clear ho2
  go_wp2_with fail
  refine (z3 _ H2.out.1).out.mono ?_
  rintro _ w3 ⟨A3, outL, E3, rfl, hE, hu3, ou3, b3⟩
  have ho3 := H2.out.2.past b3 H2.out.2.inside
  have H3 := Lib.hid (And.intro (belows H2.out.1 b3) (And.intro ho3 (And.intro hu3 ou3)))
  have HE3 := Lib.hid hE
  clear b3 hE z3 a0 a1 hu3 ou3
  obtain ⟨a0, a1⟩ := own2 ho3
  clear ho3
  go_wp2_with fail
  refine (z4 _ H3.out.1).out.mono ?_
  rintro _ w4 ⟨A4, c4, outM, E4, rfl, hE, hu4, ou4, b4⟩
  have H4 := Lib.hid (And.intro (belows H3.out.1 b4) (And.intro (H3.out.2.2.1.keep b4) (And.intro hu4 ou4)))
  obtain ⟨hn2, hE2⟩ : n2 = n ∧ E2 = E := by
    rcases HE1.out with ⟨h, h1, h2⟩ | ⟨h, h1, h2⟩ <;> rcases HE2.out with ⟨g, g1, g2⟩ | ⟨g, g1, g2⟩
    · exact ⟨g1.trans h1.symm, g2.trans h2.symm⟩
    · exact absurd h g
    · exact absurd g h
    · exact ⟨g1.trans h1.symm, g2.trans h2.symm⟩
  obtain ⟨hm4, hE4⟩ : outL.map Up.p = outM.map Up.p ∧ E4 = E3 := by
    rcases HE3.out with ⟨h, h1, h2⟩ | ⟨h, h1, h2⟩ <;> rcases hE with ⟨g, g1, g2⟩ | ⟨g, g1, g2⟩
    · exact ⟨h1.trans g1.symm, g2.trans h2.symm⟩
    · exact absurd h g
    · exact absurd g h
    · exact ⟨by rw [h1, g1], g2.trans h2.symm⟩
  subst hn2 hE2 hE4
  have HM := Lib.hid hm4
  have t1 : ((n2 : Int) == (n2 : Int)) = true := by simp
  have t2 : (E2 == E2) = true := by simp
  have t3 : (E4 == E4) = true := by simp
  clear b4 hE z4 a0 a1 hu4 ou4 hm4
  go_wp2_with fail
  refine (y0 _).out.mono ?_
  rintro e w5 ⟨rfl, b5⟩
  have z5 := Lib.hid (sameups_yes A3 A4 outL.length c4 outL outM w5 (H4.out.2.1.keep b5) (H4.out.2.2.1.keep b5) H3.out.2.2.2 H4.out.2.2.2 HM.out)
  have H5 := Lib.hid (belows H4.out.1 b5)
  clear b5
  go_wp2_with fail
  refine z5.out.mono ?_
  rintro _ w6 ⟨rfl, b6⟩
  have H6 := Lib.hid (belows H5.out b6)
  clear b6 z5
  go_wp2_with fail
  go_ret
  exact ⟨rfl, H6.out⟩
end Go.Proofs.YtbccdmpnojdldaaGreat
namespace Go.Proofs.YtbccdmpnojdldaaGreat
open Go Go.RowKit Go.ChangeShapes Go.WideShapes Go.ChangeAt Go.Deep

set_option maxRecDepth 100000
section
variable {H : Type} {enc : TypeId × Value → H} {w : World} {base : Nat} {spare : Nat → Bool} {held : Bool}
theorem trod_batchc {fuel : Nat} {cs : List Value} {x : DataW H × List MemPlace} (h : DataW.trod enc Tryz.prog w base spare held fuel 26 cs = some x) : ∃ b : Bt, cs = b.cells ∧ BtIn w w.heap.size b ∧ (Rows.uptoBulk x.1 ≤ 1048576 → BtOk b ∧ b.l.length ≤ b.uc ∧ b.uc ≤ maxLen ∧ b.l.length ≤ 1048576) ∧ b.l.length ≤ Rows.uptoBulk x.1 := by
  obtain ⟨xs, n, _, hx, hlen, hxs, hf⟩ := DataW.trod_struct Tryz.underlying26 h
  have hc : Tryz.prog.cellsOf 26 = 2 := by kernel_rfl
  have hc0 : Tryz.prog.cellsOf 22 = 1 := by kernel_rfl
  have hc1 : Tryz.prog.cellsOf 24 = 1 := by kernel_rfl
  rw [hc] at hlen
  match cs, hlen with
  | [c0, c1], _ =>
    have h0 := hf 0 _ rfl
    have h1 := hf 1 _ rfl
    match xs, hxs with
    | [y0, y1], _ =>
      simp only [hc0, hc1, List.drop_zero, List.take_succ_cons, List.take_zero, List.drop_succ_cons, List.getElem?_cons_zero, List.getElem?_cons_succ] at h0 h1
      obtain ⟨A0, k0, l0, e0, g0, m0, i0, n0⟩ := open_timesC h0
      obtain ⟨⟨A1, k1, l1⟩, e1, g1, m1, i1, o1, n1⟩ := open_upsC h1
      obtain rfl := (List.cons.inj e0).1
      obtain rfl := (List.cons.inj e1).1
      have hM : Rows.uptoBulk x.1 = Rows.uptoBulk y0.1 + (Rows.uptoBulk y1.1 + 0) + 1 := by
        rw [hx]
        simp only [List.map_cons, List.map_nil, Rows.uptoBulk, Rows.uptoBulkAll]
      have n1 : l1.length + 1 ≤ Rows.uptoBulk y1.1 := n1
      exact ⟨⟨A0, k0, l0, A1, k1, l1⟩, rfl, ⟨i0, i1⟩, fun hb => ⟨⟨⟨by show l0.length ≤ _; omega, g0, m0⟩, ⟨by show l1.length ≤ _; omega, o1 (by omega)⟩⟩, g1, m1, by show l1.length ≤ _; omega⟩, by show l1.length ≤ _; omega⟩
theorem open_batchc {v : Value} {d : DataW H} {p : List MemPlace} {r : Reach} {b0 : Nat} (hv : Value.okWide Tryz.prog w r b0 26 v) (h : DataW.Trod enc Tryz.prog w base spare held 26 v d p) : ∃ b : Bt, v = b.val ∧ BtIn w w.heap.size b ∧ (Rows.uptoBulk d ≤ 1048576 → BtOk b ∧ b.l.length ≤ b.uc ∧ b.uc ≤ maxLen ∧ b.l.length ≤ 1048576) ∧ b.l.length ≤ Rows.uptoBulk d := by
  obtain ⟨cs, rfl, hsz⟩ := okWide_struct Tryz.underlying26 hv
  obtain ⟨fuel, hf⟩ := h
  obtain ⟨e, he, hok⟩ := trod_batchc hf
  refine ⟨e, ?_, hok⟩
  obtain ⟨l⟩ := cs
  simp only [Value.cells] at he
  unfold Bt.val
  rw [show l = e.cells from by simpa using he]
  rfl
theorem open_rowc {v : Value} {d : DataW H} {p : List MemPlace} {r : Reach} {b0 : Nat} (hv : Value.okWide Tryz.prog w r b0 35 v) (h : DataW.Trod enc Tryz.prog w base spare held 35 v d p) :
    ∃ (A : Option Addr) (c : Nat) (l : List Vl), v = .slice A l.length c ∧ Vals w w.heap.size A l ∧ (∀ a ∈ l, VOk a) ∧ l.length ≤ Rows.uptoBulk d := by
  obtain ⟨a0, n0, c0, rfl⟩ := okWide_slice Tryz.underlying35 hv
  obtain ⟨fuel, hf⟩ := h
  simp only [Value.cells] at hf
  obtain ⟨A, c, l, e, h1, h2, h3⟩ := open_rowC hf
  exact ⟨A, c, l, by simpa using e, h1, h2, h3⟩
end
end Go.Proofs.YtbccdmpnojdldaaGreat
