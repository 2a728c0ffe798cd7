/- Part 4 of the texts on which BatchMerges rests: facts and contracts. -/
import Derived.Test.YtllpfngmnccejaaGreatBatchMergesM3
namespace Go.Proofs.YtllpfngmnccejaaGreat
open Go Go.RowKit

/-- what is told of counts -/
def CtsSays (l : List (List Vl × Int)) (e : Int) (base : Nat) (w : World) (x : Ending) (w' : World) : Prop :=
  ∃ A c, ∃ outL : List Ct, x = .returned (.tuple #[.slice A outL.length c, .int .i64 e]) ∧ outL.map Ct.p = l ∧ Cts w' w'.heap.size A outL ∧ (∀ u ∈ outL, COk u) ∧ Below base w w' ∧ LoC base A outL
set_option maxRecDepth 100000 in
set_option maxHeartbeats 3200000 in
theorem counts_any (v : Value) (n base : Nat) (l : List (Ln Ct)) (w : World) (R : List (List Vl × Int)) (E : Int) (hR' : resL cmpRows (l.map (pL Ct.k)) = R) (hE : resE cmpRows (l.map (pL Ct.k)) = E) (hnl : n = l.length) (h : w.ownsRow base 112 4 v n (l.flatMap (Ln.cells Ct.cells))) (hbase : base ≤ w.heap.size) (hin : ∀ x ∈ l, CIn w base x.u) (hok : ∀ x ∈ l, COk x.u) (hR : ∀ x ∈ l, RowR x.u.k)
    (hS : ∀ x ∈ l, -9223372036854775808 ≤ x.S ∧ x.S ≤ 9223372036854775807) (hn : n ≤ 1099511627776) : Calls Tryz.prog 63 #[v] w (CtsSays R E base w) := by
  have hcall := totalC_any v n base l w hnl h hbase hin hok hR hS hn
  unfold TotCs at hcall
  rw [hR', hE] at hcall
  have HC := Lib.hid hcall
  clear hcall hnl h hbase hin hok hR hS hn hR' hE
  go_enter Tryz.func63, Tryz.ntmps63
  go_wp2_with fail
  refine HC.out.mono ?_
  rintro _ w1 ⟨A', c', outL, rfl, k1, k2, k3, k4⟩
  have H := Lib.hid (And.intro k1 (And.intro k2 (And.intro k3 k4)))
  clear k1 k2 k3 k4
  go_wp2_with fail
  go_ret2
  exact ⟨A', c', outL, rfl, H.out.1, H.out.2.1, H.out.2.2.1, H.out.2.2.2⟩
set_option maxRecDepth 100000 in
set_option maxHeartbeats 800000 in
theorem orE2_any (g : Nat) (x y : Int) (w : World) (h0 : w.cell? ⟨g, 0, none⟩ = some (.int .i64 x)) (h1 : w.cell? ⟨g, 1, none⟩ = some (.int .i64 y)) :
    Calls Tryz.prog 58 #[.slice (some ⟨g, 0, none⟩) 2 2] w fun e w' => e = .returned (.int .i64 (orI x y)) ∧ w = w' := by
  go_enter Tryz.func58, Tryz.ntmps58
  go_wp2_with fail
  go_rounds 3
  all_goals
    go_ret
    refine ⟨ret_i64 ?_, rfl⟩
    unfold orI
    simp_all
/-- what At tells -/
def chkAt (l : List Up) (t : Tm) : Int := orI (chkUs l) (chk [t])
def atP (l : List Up) (t : Tm) : List (List Vl × Int) := (l.filter fun u => u.t.le t).map fun u => (u.row, u.d)
def atL (l : List Up) (t : Tm) : List (List Vl × Int) := if chkAt l t = 0 then resL cmpRows (atP l t) else []
def atE (l : List Up) (t : Tm) : Int := if chkAt l t = 0 then resE cmpRows (atP l t) else chkAt l t
def linesAt (l : List Up) (t : Tm) : List (Ln Ct) := (l.filter fun u => u.t.le t).map fun u => ⟨u.d, ⟨u.rA, u.rc, u.row, 0⟩⟩
theorem linesAt_pL (l : List Up) (t : Tm) : (linesAt l t).map (pL Ct.k) = atP l t := by unfold linesAt atP; rw [List.map_map]; rfl
theorem linesAt_len (l : List Up) (t : Tm) : (linesAt l t).length ≤ l.length := by unfold linesAt; rw [List.length_map]; exact List.length_filter_le ..
theorem linesAt_next {l : List Up} {t : Tm} {j : Nat} {u : Up} (h : l[j]? = some u) : linesAt (l.take (j + 1)) t = linesAt (l.take j) t ++ if u.t.le t = true then [⟨u.d, ⟨u.rA, u.rc, u.row, 0⟩⟩] else [] := by
  unfold linesAt
  rw [List.take_add_one, h, List.filter_append, List.map_append]
  congr 1
  by_cases ht : u.t.le t = true <;> simp [ht]
theorem infoLc : (Tryz.prog.info? 112).map (fun i => (i.zero, i.size, i.bytes)) = some (some (.agg #[.int .u64 0, .int .u64 0, .slice none 0 0, .int .i64 0]), 4, 48) := by kernel_rfl
theorem lc_made (w : World) (S : Int) (c : Ct) : Lies 4 (Ln.cells Ct.cells) (w.alloc (.cells #[.int .u64 (hiW S), .int .u64 (loW S), .slice c.rA c.row.length c.rc, .int .i64 c.n] 112)) (w.heap.size + 1) (some ⟨w.heap.size, 0, none⟩) [(⟨S, c⟩ : Ln Ct)] := fun _ => by
  have ho := Own.made w 112 (Ln.cells Ct.cells (⟨S, c⟩ : Ln Ct))
  refine ⟨w.heap.size, 0, rfl, Nat.lt_succ_self _, fun i x hx j v hv => ?_⟩
  match i, hx with
  | 0, hx =>
    obtain rfl : (⟨S, c⟩ : Ln Ct) = x := by simpa using hx
    rw [show 0 + 0 * 4 + j = j by omega]
    exact (ho.at_ j).trans hv
set_option maxRecDepth 100000 in
set_option maxHeartbeats 16000000 in
theorem at_any (A : Option Addr) (c : Nat) (l : List Up) (t : Tm) (w : World) (hl : Ups w w.heap.size A l) (hok : ∀ u ∈ l, UOk u) (hn : l.length ≤ 1099511627776) :
    Calls Tryz.prog 21 #[.slice A l.length c, t.val] w (CtsSays (atL l t) (atE l t) w.heap.size w) := by
  obtain ⟨i0, hi, hz0, hz1, hz2⟩ := info_parts infoLc
  have HI := Lib.hid (And.intro Tryz.underlying104 (And.intro hi (And.intro hz0 (And.intro hz1 hz2))))
  obtain ⟨V, hV, hvb, hvs, hvo⟩ := tm_box w t
  have hupV := hl.keep hvb
  have x1 := fun W (h : Bl V W) => Lib.hid (dcheck_any A c l W (hupV.keep h) (by omega) hok)
  have x3 : ∀ W g, Times W W.heap.size (some ⟨g, 0, none⟩) [t] → Hid (Calls Tryz.prog 60 #[.slice (some ⟨g, 0, none⟩) 1 1] W fun e w' => e = .returned (.int .i64 (chk [t])) ∧ Below W.heap.size W w') := fun W g h => Lib.hid (check_any (some ⟨g, 0, none⟩) 1 [t] W h (by unfold maxLen; simp))
  have x4 := fun W g h1 h2 => Lib.hid (orE2_any g (chkUs l) (chk [t]) W h1 h2)
  have HS := Lib.hid (fun W (h : Bl V W) => (own3 (hvo.past h hvo.inside) : W.cell? ⟨w.heap.size, 0, none⟩ = some (.int .u64 (t.e : Int)) ∧ W.cell? ⟨w.heap.size, 1, none⟩ = some (.int .u64 (t.a : Int)) ∧ W.cell? ⟨w.heap.size, 2, none⟩ = some (.int .u64 (t.b : Int))))
  have htm := Lib.hid (fun W => times_made W t)
  have htd := Lib.hid (fun W => times_made_drew W t)
  have hself := Bl.refl V
  obtain ⟨d0, d1, d2⟩ := own3 hvo
  have HL := Lib.hid (And.intro hl (And.intro hok (And.intro hvb hvo)))
  rw [show t.val = .agg #[.int .u64 (t.e : Int), .int .u64 (t.a : Int), .int .u64 (t.b : Int)] from rfl]
  obtain ⟨K, hK⟩ : ∃ K, chkUs l = K := ⟨_, rfl⟩
  obtain ⟨Q, hQ⟩ : ∃ Q, chk [t] = Q := ⟨_, rfl⟩
  have hO := Lib.hid (show chkAt l t = orI K Q by unfold chkAt; rw [hK, hQ])
  have HK := Lib.hid hK
  rw [hK] at x4
  simp only [hK] at x1
  rw [hQ] at x4
  simp only [hQ] at x3
  clear hl hok hi hz0 hz1 hz2 hvb hvs hvo hupV hK hQ
  go_enter Tryz.func21, Tryz.ntmps21
  go_upto_region 1 with fail
  rw [← hV]
  clear hV
  go_cut [6] (fun s6 wx => s6 = .int .i64 (orI K Q) ∧ Bl V wx)
  case first =>
    go_region_held3 (fun w' => Bl V w' ∧ (w'.cell? ⟨w.heap.size, 0, none⟩ = some (.int .u64 (t.e : Int)) ∧ w'.cell? ⟨w.heap.size, 1, none⟩ = some (.int .u64 (t.a : Int)) ∧ w'.cell? ⟨w.heap.size, 2, none⟩ = some (.int .u64 (t.b : Int))))
      ((refine (fun h => And.intro h (HS.out _ h)) ?_; repeat (first | with_reducible exact hb3 | with_reducible exact hb1 | with_reducible exact hself | with_reducible refine Bl.more ?_ _ | with_reducible refine Bl.drew ?_)))
      (first | (go_at_call 59; refine (x1 _ (by repeat (first | with_reducible exact hself | with_reducible refine Bl.more ?_ _ | with_reducible refine Bl.drew ?_))).out.mono ?_; rintro _ w1 ⟨rfl, k1⟩; have hb1 : Bl V w1 := Bl.call (by repeat (first | with_reducible exact hself | with_reducible refine Bl.more ?_ _ | with_reducible refine Bl.drew ?_)) k1; first | have ht1 := tms_keep (htm.out _) k1 | have ht1 := tms_keep (htd.out _) k1 | skip) | (go_at_call 60; refine (x3 _ _ (by first | exact ht1 | exact htm.out _)).out.mono ?_; rintro _ w3 ⟨rfl, k3⟩; have hb3 : Bl V w3 := Bl.call (by repeat (first | with_reducible exact hb1 | with_reducible refine Bl.more ?_ _)) k3) | (go_at_call 58; refine (x4 _ _ ?_ ?_).out.mono ?_; (simp [go_sem]); (simp [go_sem]); rintro _ w4 ⟨rfl, rfl⟩))
    all_goals
      go_wp2_with fail
      go_meet
      exact ⟨rfl, hb3.more _⟩
  case rest =>
    obtain ⟨rfl, hcb⟩ := hcut
    have hbw := HL.out.2.2.1.trans (hcb.below.mono HL.out.2.2.1.size)
    have HB := Lib.hid (And.intro hbw (HL.out.2.2.2.past hcb.below HL.out.2.2.2.inside))
    obtain ⟨Z, hZ⟩ : ∃ Z, orI K Q = Z := ⟨_, rfl⟩
    rw [hZ] at hO ⊢
    have HZ := Lib.hid hZ
    clear hcb hbw x1 x3 x4 d0 d1 d2 hZ
    by_cases hz : Z = 0
    case neg =>
      have t1 : (Z != 0) = true := bne_iff_ne.2 hz
      have hal : atL l t = [] := by unfold atL; rw [if_neg (by rw [hO.out]; exact hz)]
      have hae : atE l t = Z := by unfold atE; rw [if_neg (by rw [hO.out]; exact hz), hO.out]
      have HR := Lib.hid (And.intro hal hae)
      clear hz hal hae
      go_wp2_with fail
      go_ret2
      exact ⟨none, 0, [], by rw [HR.out.2]; rfl, HR.out.1.symm, ⟨Lies.nil_, fun u hu => (by cases hu)⟩, fun u hu => (by cases hu), HB.out.1, loC_nil _⟩
    subst hz
    have hKZ : K = 0 := by have := HZ.out; unfold orI at this; split at this <;> omega
    have HKZ := Lib.hid hKZ
    clear hKZ
    go_wp2_with fail
    go_loopw [7, 22] (fun v7 v22 wr => ∃ j : Nat, v22 = .int .i64 (j : Int) ∧ j ≤ l.length ∧ wr.ownsRow w.heap.size 112 4 v7 (linesAt (l.take j) t).length ((linesAt (l.take j) t).flatMap (Ln.cells Ct.cells)) ∧ Below w.heap.size w wr ∧ Own wr w.heap.size 46 t.cells)
      (fun _ v22 _ => l.length - (intOf v22).toNat)
    case atStart => exact ⟨0, rfl, by omega, World.ownsRow_nil _ _ _ _, HB.out.1, HB.out.2⟩
    case round =>
      obtain ⟨j, rfl, hj, hownj, hbj, hvoj⟩ := hrel
      obtain ⟨wi, hwi⟩ : ∃ wi, wi = wr := ⟨_, rfl⟩
      subst hwi
      by_cases hjt : j < l.length
      · have hy : l[j]? = some l[j] := List.getElem?_eq_getElem hjt
        have hym := List.mem_of_getElem? hy
        generalize l[j] = u at *
        obtain ⟨b', o', rfl, hB', hys⟩ := lies_up HL.out.1.head (by omega)
        obtain ⟨e0, e1, e2, e3, e4, e5⟩ := ((hys j u hy).past_ hbj hB').six
        obtain ⟨V2, hV2, hvb2, hvs2, hvo2⟩ := upbox wi u
        have hin0 : UOk u := HL.out.2.1 u hym
        have hrowV := own_below hownj hvb2
        have hPne : u7.ownBlock ≠ some wi.heap.size := fun e => by have := (hownj.lt _ e).2; omega
        have hTne : u7.ownBlock ≠ some w.heap.size := fun e => by
          rcases hownj.2 with ⟨h0, _⟩ | ⟨g, cap, cur, h0, _, hg, _⟩
          · rw [h0] at e; cases e
          · rw [h0] at e
            injection e with e
            subst e
            unfold Own at hvoj
            rw [hvoj] at hg
            simp at hg
        have hbV := hbj.trans (hvb2.mono hbj.size)
        have hnx := linesAt_next (t := t) hy
        have hlen := linesAt_len (l.take j) t
        rw [List.length_take] at hlen
        have hln : (linesAt (l.take j) t).length ≤ 1099511627776 := by omega
        have HJ := Lib.hid (And.intro hnx (And.intro hbV (And.intro hvo2 (And.intro (hvoj.past hvb2 hvoj.inside) (And.intro hrowV (And.intro hPne hTne))))))
        have hof := fun W => Lib.hid (of_any u.d W hin0.dn.1 hin0.dn.2)
        have hah := fun W => Lib.hid (ahead_any u.t t W)
        have hlt2 := hvoj.inside
        have q3 : (0 : Int) ≤ (j : Int) := by omega
        have q4 : (j : Int) < (l.length : Int) := by omega
        have q5 : decide ((j : Int) < (l.length : Int)) = true := decide_eq_true q4
        generalize linesAt (l.take j) t = us at *
        unfold Tm.val at hah
        clear hy hym hys hvb2 hvs2 hin0 hownj hbj hbV hnx hlen hvoj hvo2 hrowV hPne hTne
        go_upto_region 8 with fail
        rw [← hV2]
        clear hV2 e0 e1 e2 e3 e4 e5
        obtain ⟨e0, e1, e2, e3, e4, e5⟩ := own6 HJ.out.2.2.1
        obtain ⟨d0, d1, d2⟩ := own3 HJ.out.2.2.2.1
        go_wp2_with fail
        refine (hah _).out.mono ?_
        rintro _ w5 ⟨rfl, b5⟩
        have hrow5 := own_below HJ.out.2.2.2.2.1 b5
        have hvo := HJ.out.2.2.1.past b5 HJ.out.2.2.1.inside
        have hb5 := HJ.out.2.1.trans (b5.mono HJ.out.2.1.size)
        have hT5 := HJ.out.2.2.2.1.past b5 HJ.out.2.2.2.1.inside
        have H5 := Lib.hid (And.intro hrow5 (And.intro hb5 hT5))
        clear e0 e1 e2 e3 e4 e5 d0 d1 d2 hah b5
        cases hle : u.t.le t
        case false =>
          have HE := Lib.hid hle
          clear hle hrow5 hb5 hT5 hvo
          go_wp2_with fail
          go_roundw
          case rel =>
            refine ⟨j + 1, by go_num, by omega, ?_, H5.out.2.1, H5.out.2.2⟩
            rw [HJ.out.1, HE.out, if_neg Bool.false_ne_true, List.append_nil]
            exact H5.out.1
          case measure => simp [intOf]; omega
        case true =>
          have HE := Lib.hid hle
          clear hle
          obtain ⟨e0, e1, e2, e3, e4, e5⟩ := own6 hvo
          have HS2 := Lib.hid (fun W (h : Own W wi.heap.size 48 u.cells) => (own6 h : W.cell? ⟨wi.heap.size, 0, none⟩ = some (.slice u.kA u.key.length u.kc) ∧ W.cell? ⟨wi.heap.size, 1, none⟩ = some (.slice u.rA u.row.length u.rc) ∧ W.cell? ⟨wi.heap.size, 2, none⟩ = some (.int .u64 (u.t.e : Int)) ∧ W.cell? ⟨wi.heap.size, 3, none⟩ = some (.int .u64 (u.t.a : Int)) ∧ W.cell? ⟨wi.heap.size, 4, none⟩ = some (.int .u64 (u.t.b : Int)) ∧ W.cell? ⟨wi.heap.size, 5, none⟩ = some (.int .i64 u.d)))
          go_upto_region 9 with fail
          go_region_held3 (fun w' => Own w' wi.heap.size 48 u.cells ∧ (w'.cell? ⟨wi.heap.size, 0, none⟩ = some (.slice u.kA u.key.length u.kc) ∧ w'.cell? ⟨wi.heap.size, 1, none⟩ = some (.slice u.rA u.row.length u.rc) ∧ w'.cell? ⟨wi.heap.size, 2, none⟩ = some (.int .u64 (u.t.e : Int)) ∧ w'.cell? ⟨wi.heap.size, 3, none⟩ = some (.int .u64 (u.t.a : Int)) ∧ w'.cell? ⟨wi.heap.size, 4, none⟩ = some (.int .u64 (u.t.b : Int)) ∧ w'.cell? ⟨wi.heap.size, 5, none⟩ = some (.int .i64 u.d)))
            ((refine (fun h => And.intro h (HS2.out _ h)) ?_; repeat (first | with_reducible exact ho9 | with_reducible exact ho8 | with_reducible exact hvo | with_reducible refine Own.more ?_ _ | with_reducible refine own_drew' ?_)))
            (first | (go_at_call 62; refine (hof _).out.mono ?_; rintro _ w2 ⟨rfl, b2⟩; have ho8 : Own w2 wi.heap.size 48 u.cells := (own_drew' hvo).past b2 hvo.inside; have hrow2 := own_below hrow5.drew b2; have hb8 := (hb5.drew).trans (b2.mono (hb5.drew).size); have hT8 := (own_drew' hT5).past b2 hT5.inside) | (refine step_append_lies (size := 4) (cells := Ln.cells Ct.cells) (l := [(⟨u.d, ⟨u.rA, u.rc, u.row, 0⟩⟩ : Ln Ct)]) (B := w2.heap.size + 1) _ rfl (.tmp 30) (.tmp 38) 104 112 rfl i0 _ 48 HI.out.1 HI.out.2.1 HI.out.2.2.1 HI.out.2.2.2.1 HI.out.2.2.2.2 rfl (by decide) (fun _ => rfl) lccells_one w.heap.size u7 us.length _ rfl (hrow2.alloc _) 1 w2.heap.size 0 (by simp [Act.eval, Act.put]) (lc_made _ _ _) (by unfold maxLen; simp; omega) (by simp; omega) (by simp; exact Nat.le_succ_of_le hb8.size) ?_; intro v3 w3 ho3 hb3 hv3 hg3; have ho9 : Own w3 wi.heap.size 48 u.cells := (hg3.block _ (by have := ho8.inside; simp; omega) (fun e => HJ.out.2.2.2.2.2.1 e.symm)).trans (ho8.more _); have hT9 : Own w3 w.heap.size 46 t.cells := (hg3.block _ (by have := hT8.inside; simp; omega) (fun e => HJ.out.2.2.2.2.2.2 e.symm)).trans (hT8.more _)))
          all_goals
            have H3 := Lib.hid (And.intro ho3 (And.intro ((Below.alloc hb8 hb8.size _).trans hb3) hT9))
            clear ho3 hb3 hv3 hg3 ho9 ho8 hb8 hrow2 hrow5 hb5 hT5 hT8 hT9 HS2 hvo b2 hof e0 e1 e2 e3 e4 e5
            go_wp2_with fail
            go_roundw
            case rel =>
              refine ⟨j + 1, by go_num, by omega, ?_, H3.out.2.1, H3.out.2.2⟩
              rw [HJ.out.1, HE.out, if_pos rfl, List.flatMap_append, List.length_append]
              exact H3.out.1
            case measure => simp [intOf]; omega
      · have hj2 : j = l.length := by omega
        have q5 : decide ((j : Int) < (l.length : Int)) = false := decide_eq_false (by omega)
        rw [hj2, List.take_length] at hownj
        have hgood : ∀ u ∈ l, chkU u = 0 := chkUs_all.1 (HK.out.trans HKZ.out)
        have hmem : ∀ x ∈ linesAt l t, ∃ u ∈ l, x.u = ⟨u.rA, u.rc, u.row, 0⟩ ∧ x.S = u.d := fun x hx => by
          unfold linesAt at hx
          obtain ⟨u, hu, rfl⟩ := List.mem_map.1 hx
          exact ⟨u, (List.mem_filter.1 hu).1, rfl, rfl⟩
        have hll := linesAt_len l t
        have hcall := Lib.hid (counts_any u7 (linesAt l t).length w.heap.size (linesAt l t) wi _ _ (by rw [linesAt_pL]) (by rw [linesAt_pL]) rfl hownj hbj.size (fun x hx => by
            obtain ⟨u, hu, e, _⟩ := hmem x hx
            rw [e]
            exact ⟨((HL.out.1.each_ u hu).past hbj (Nat.le_refl _)).row⟩) (fun x hx => by
            obtain ⟨u, hu, e, _⟩ := hmem x hx
            rw [e]
            exact ⟨(HL.out.2.1 u hu).rn, (HL.out.2.1 u hu).rs, by show (-9223372036854775808 : Int) ≤ 0 ∧ (0 : Int) ≤ 9223372036854775807; decide⟩) (fun x hx => by
            obtain ⟨u, hu, e, _⟩ := hmem x hx
            rw [e]
            exact (chkK_zero (hgood u hu)).2.1) (fun x hx => by
            obtain ⟨u, hu, _, e⟩ := hmem x hx
            rw [e]
            exact (HL.out.2.1 u hu).dn) (by omega))
        have hal : atL l t = resL cmpRows (atP l t) := by unfold atL; rw [if_pos hO.out]
        have hae : atE l t = resE cmpRows (atP l t) := by unfold atE; rw [if_pos hO.out]
        rw [← hal, ← hae] at hcall
        have HC := Lib.hid hbj
        generalize atL l t = AL at *
        generalize atE l t = AE at *
        clear hownj hgood hmem hll hal hae hbj hvoj hO
        go_wp2_with fail
        refine hcall.out.mono ?_
        rintro _ w9 ⟨A', c', outL, rfl, k1, k2, k3, k4⟩
        have H9 := Lib.hid (And.intro k1 (And.intro k2 (And.intro k3 k4)))
        clear k1 k2 k3 k4 hcall
        go_wp2_with fail
        go_ret2
        exact ⟨A', c', outL, rfl, H9.out.1, H9.out.2.1, H9.out.2.2.1, HC.out.trans H9.out.2.2.2.1, H9.out.2.2.2.2⟩
end Go.Proofs.YtllpfngmnccejaaGreat
namespace Go.Proofs.YtllpfngmnccejaaGreat
open Go Go.RowKit

/-- lists of counts, as they lie -/
structure CLs (w : World) (B : Nat) (A : Option Addr) (L : List (Rw Ct)) : Prop where
  head : Lies 1 Rw.cells w B A L
  each_ : ∀ s ∈ L, Cts w B s.A s.l
theorem CLs.past {w w' : World} {B B' : Nat} {A : Option Addr} {L : List (Rw Ct)} (h : CLs w B A L) (hb : Below B' w w') (hB : B ≤ B') : CLs w' B A L := ⟨h.head.past hb hB, fun s hs => (h.each_ s hs).past hb hB⟩
theorem CLs.wide {w : World} {B B' : Nat} {A : Option Addr} {L : List (Rw Ct)} (h : CLs w B A L) (hB : B ≤ B') : CLs w B' A L := ⟨h.head.wide hB, fun s hs => (h.each_ s hs).wide hB⟩
theorem CLs.keep {w w' : World} {A : Option Addr} {L : List (Rw Ct)} (h : CLs w w.heap.size A L) (hb : Below w.heap.size w w') : CLs w' w'.heap.size A L := (h.past hb (Nat.le_refl _)).wide hb.size
theorem CLs.at_ {w : World} {B : Nat} {A : Option Addr} {L : List (Rw Ct)} (h : CLs w B A L) {k : Nat} {s : Rw Ct} (hx : L[k]? = some s) :
    ∃ b o, A = some ⟨b, o, none⟩ ∧ b < B ∧ w.cell? ⟨b, o + k, none⟩ = some (.slice s.A s.l.length s.c) ∧ Cts w B s.A s.l := by
  have hk := (List.getElem?_eq_some_iff.1 hx).1
  obtain ⟨b, o, e, hb, hc⟩ := h.head (by omega)
  refine ⟨b, o, e, hb, ?_, h.each_ s (List.mem_of_getElem? hx)⟩
  have := hc k s hx 0 _ rfl
  rwa [Nat.mul_one, Nat.add_zero] at this
def chkCs : List Ct → Int
  | [] => 0
  | c :: l => if chkRow c.row = 0 then chkCs l else chkRow c.row
theorem chkCs_all {l : List Ct} : chkCs l = 0 ↔ ∀ c ∈ l, chkRow c.row = 0 := by
  induction l with
  | nil => simp [chkCs]
  | cons x l ih =>
    simp only [chkCs]
    by_cases hx : chkRow x.row = 0
    · rw [if_pos hx, ih]; simp [hx]
    · rw [if_neg hx]
      exact ⟨fun h => absurd h hx, fun h => h x (by simp)⟩
theorem chkCs_bad {a b : List Ct} {c : Ct} (h : chkCs a = 0) (hc : chkRow c.row ≠ 0) : chkCs (a ++ c :: b) = chkRow c.row := by
  induction a with
  | nil => simp only [List.nil_append, chkCs]; rw [if_neg hc]
  | cons x a ih =>
    simp only [List.cons_append, chkCs] at h ⊢
    by_cases hx : chkRow x.row = 0
    · rw [if_pos hx] at h ⊢; exact ih h
    · rw [if_neg hx] at h; exact absurd h hx
theorem chkCs_snoc {a : List Ct} {c : Ct} (h : chkCs a = 0) (hc : chkRow c.row = 0) : chkCs (a ++ [c]) = 0 := by
  rw [chkCs_all] at *
  intro x hx
  rcases List.mem_append.1 hx with hx | hx
  · exact h x hx
  · obtain rfl : x = c := by simpa using hx
    exact hc
/-- what Merge tells -/
def mergeL (L : List (List Ct)) : List (List Vl × Int) := if chkCs L.flatten = 0 then resL cmpRows (L.flatten.map Ct.p) else []
def mergeE (L : List (List Ct)) : Int := if chkCs L.flatten = 0 then resE cmpRows (L.flatten.map Ct.p) else chkCs L.flatten
def linesC (us : List Ct) : List (Ln Ct) := us.map fun u => ⟨u.n, u⟩
theorem linesC_len (us : List Ct) : (linesC us).length = us.length := List.length_map ..
theorem linesC_pL (us : List Ct) : (linesC us).map (pL Ct.k) = us.map Ct.p := by unfold linesC; rw [List.map_map]; rfl
theorem linesC_snoc (us : List Ct) (u : Ct) : linesC (us ++ [u]) = linesC us ++ [⟨u.n, u⟩] := by unfold linesC; simp
theorem flat_from {L : List (Rw Ct)} {k j : Nat} {s : Rw Ct} {u : Ct} (hx : L[k]? = some s) (hy : s.l[j]? = some u) : ∃ r, flatR L = (flatR (L.take k) ++ s.l.take j) ++ u :: r := by
  obtain ⟨hk, rfl⟩ := List.getElem?_eq_some_iff.1 hx
  obtain ⟨hj, rfl⟩ := List.getElem?_eq_some_iff.1 hy
  refine ⟨L[k].l.drop (j + 1) ++ flatR (L.drop (k + 1)), ?_⟩
  have h1 : flatR L = flatR (L.take k) ++ (L[k].l ++ flatR (L.drop (k + 1))) := by
    have h2 : L = L.take k ++ (L[k] :: L.drop (k + 1)) := by rw [← List.drop_eq_getElem_cons hk, List.take_append_drop]
    conv => lhs; rw [h2]
    unfold flatR
    rw [List.flatMap_append, List.flatMap_cons]
  have h3 : L[k].l = L[k].l.take j ++ (L[k].l[j] :: L[k].l.drop (j + 1)) := by rw [← List.drop_eq_getElem_cons hj, List.take_append_drop]
  rw [h1, show L[k].l ++ flatR (L.drop (k + 1)) = (L[k].l.take j ++ (L[k].l[j] :: L[k].l.drop (j + 1))) ++ flatR (L.drop (k + 1)) from by rw [← h3]]
  simp only [List.append_assoc, List.cons_append]
end Go.Proofs.YtllpfngmnccejaaGreat
namespace Go.Proofs.YtllpfngmnccejaaGreat
open Go Go.RowKit

end Go.Proofs.YtllpfngmnccejaaGreat
namespace Go.Proofs.YtllpfngmnccejaaGreat
open Go Go.RowKit

set_option maxRecDepth 100000 in
set_option maxHeartbeats 16000000 in
theorem sameU_any (A A' : Option Addr) (c c' : Nat) (l m : List Up) (w : World) (hl : Ups w w.heap.size A l) (hm : Ups w w.heap.size A' m) (hol : ∀ u ∈ l, UOk u) (hom : ∀ u ∈ m, UOk u) (hn : l.length ≤ 1099511627776) (hn' : m.length ≤ 1099511627776) :
    Calls Tryz.prog 44 #[.slice A l.length c, .slice A' m.length c'] w fun x w' => ∃ b : Bool, x = .returned (.bool b) ∧ (b = true ↔ l.map Up.p = m.map Up.p) ∧ Below w.heap.size w w' := by
  have HL := Lib.hid (And.intro hl (And.intro hm (And.intro hol hom)))
  clear hl hm hol hom
  by_cases hlen : l.length = m.length
  case neg =>
    have t1 : ((l.length : Int) != (m.length : Int)) = true := by rw [bne_iff_ne]; omega
    have HN := Lib.hid hlen
    clear hlen
    go_enter Tryz.func44, Tryz.ntmps44
    go_wp2_with fail
    go_ret
    exact ⟨false, rfl, by simp only [Bool.false_eq_true, false_iff]; exact fun h => HN.out (by have := congrArg List.length h; simpa using this), Below.refl _ _⟩
  have t1 : ((l.length : Int) != (m.length : Int)) = false := by simp [hlen]
  have HE := Lib.hid hlen
  clear hlen
  go_enter Tryz.func44, Tryz.ntmps44
  go_wp2_with fail
  go_loopw [13] (fun v13 wr => ∃ j : Nat, v13 = .int .i64 (j : Int) ∧ j ≤ l.length ∧ Below w.heap.size w wr ∧ (l.take j).map Up.p = (m.take j).map Up.p) (fun v13 _ => l.length - (intOf v13).toNat)
  case atStart => exact ⟨0, rfl, by omega, Below.refl _ _, rfl⟩
  case round =>
    obtain ⟨j, rfl, hj, hbj, heq⟩ := hrel
    obtain ⟨wi, hwi⟩ : ∃ wi, wi = wr := ⟨_, rfl⟩
    subst hwi
    by_cases hjt : j < l.length
    · have hjm : j < m.length := by have := HE.out; omega
      have hx : l[j]? = some l[j] := List.getElem?_eq_getElem hjt
      have hy : m[j]? = some m[j] := List.getElem?_eq_getElem hjm
      have hxm := List.mem_of_getElem? hx
      have hym := List.mem_of_getElem? hy
      generalize l[j] = x at *
      generalize m[j] = y at *
      obtain ⟨b, o, rfl, hB, hxs⟩ := lies_up HL.out.1.head (by omega)
      obtain ⟨b', o', rfl, hB', hys⟩ := lies_up HL.out.2.1.head (by omega)
      have hX := fun p : Past wi => ((hxs j x hx).past_ (hbj.trans (p.h.mono hbj.size)) hB).six
      have hY := fun p : Past wi => ((hys j y hy).past_ (hbj.trans (p.h.mono hbj.size)) hB').six
      have hxin := fun p : Past wi => ((HL.out.1.each_ x hxm).past (hbj.trans (p.h.mono hbj.size)) (Nat.le_refl _)).wide (Nat.le_trans hbj.size p.h.size)
      have hyin := fun p : Past wi => ((HL.out.2.1.each_ y hym).past (hbj.trans (p.h.mono hbj.size)) (Nat.le_refl _)).wide (Nat.le_trans hbj.size p.h.size)
      have hxo := HL.out.2.2.1 x hxm
      have hyo := HL.out.2.2.2 y hym
      have u1 := fun p : Past wi => calls_past (vsame_any x.kA y.kA x.kc y.kc x.key y.key p.w (hxin p).key (hyin p).key (maxn hxo.kn) (maxn hyo.kn))
      have u2 := fun p : Past wi => calls_past (vsame_any x.rA y.rA x.rc y.rc x.row y.row p.w (hxin p).row (hyin p).row (maxn hxo.rn) (maxn hyo.rn))
      have hnext := fun h : x.p = y.p => (show (l.take (j + 1)).map Up.p = (m.take (j + 1)).map Up.p by rw [List.take_add_one, List.take_add_one, hx, hy, List.map_append, List.map_append, heq]; simp only [Option.toList_some, List.map_cons, List.map_nil]; rw [h])
      have hne := fun h : x.p ≠ y.p => (show ¬ l.map Up.p = m.map Up.p from fun e => h (by
        have h1 : (l.map Up.p)[j]? = some x.p := by rw [List.getElem?_map, hx]; rfl
        have h2 : (m.map Up.p)[j]? = some y.p := by rw [List.getElem?_map, hy]; rfl
        rw [e, h2] at h1
        exact (Option.some.inj h1).symm))
      have HJ := Lib.hid (And.intro hbj heq)
      have q0 : (0 : Int) ≤ (j : Int) := by omega
      have q1 : (j : Int) < (l.length : Int) := by omega
      have q1' : (j : Int) < (m.length : Int) := by omega
      have q2 : decide ((j : Int) < (l.length : Int)) = true := decide_eq_true q1
      clear hx hy hxm hym hxs hys hbj heq hxin hyin hxo hyo
      by_cases hk : x.key = y.key
      · simp only [decide_eq_true hk] at u1
        by_cases hr : x.row = y.row
        · simp only [decide_eq_true hr] at u2
          have hq : ∀ W, (binOp .neq 46 (.agg #[.int .u64 (x.t.e : Int), .int .u64 (x.t.a : Int), .int .u64 (x.t.b : Int)]) (.agg #[.int .u64 (y.t.e : Int), .int .u64 (y.t.a : Int), .int .u64 (y.t.b : Int)])).run Tryz.prog W = .ok (.bool (!eqT x.t y.t)) W := fun W => neq_time x.t y.t W
          have hgd := fun (x1 y1 : Operand) (xs ys : Array Value) (w : World) => grd_time .neq x1 y1 xs ys w
          by_cases ht : x.t = y.t
          · rw [eqT_iff.2 ht] at hq
            by_cases hd : x.d = y.d
            · have t2 : (x.d != y.d) = false := by simp [hd]
              have HEQ := Lib.hid (hnext (by unfold Up.p Up.k; rw [hk, hr, ht, hd]))
              clear hk hr ht hd hnext hne
              go_upto_region 6 with fail
              refine wp_region_past wi (by kernel_rfl) (by kernel_rfl) (Below.refl _ _) ?_
              repeat (first | go_big_quiet_step (fail) | quiet_step (fail))
              quiet_step ((go_at_call 91; exact u1 _))
              repeat (first | go_big_quiet_step (fail) | quiet_step (fail))
              quiet_step ((go_at_call 91; exact u2 _))
              repeat (first | go_big_quiet_step (fail) | quiet_step (fail))
              refine wpQuiet_nil ?_
              intro wz hw'
              obtain ⟨⟨wy, hbz⟩, hw''⟩ := hw'
              dsimp only at hw''
              subst hw''
              have HZ := Lib.hid (HJ.out.1.trans (hbz.mono HJ.out.1.size))
              clear hbz
              go_wp2_with fail
              go_roundw
              case rel => exact ⟨j + 1, by go_num, by omega, HZ.out, HEQ.out⟩
              case measure => simp [intOf]; omega
            · have t2 : (x.d != y.d) = true := bne_iff_ne.2 hd
              have HNE := Lib.hid (hne fun e => hd (congrArg Prod.snd e))
              clear hk hr ht hd hnext hne
              go_upto_region 6 with fail
              refine wp_region_past wi (by kernel_rfl) (by kernel_rfl) (Below.refl _ _) ?_
              repeat (first | go_big_quiet_step (fail) | quiet_step (fail))
              quiet_step ((go_at_call 91; exact u1 _))
              repeat (first | go_big_quiet_step (fail) | quiet_step (fail))
              quiet_step ((go_at_call 91; exact u2 _))
              repeat (first | go_big_quiet_step (fail) | quiet_step (fail))
              refine wpQuiet_nil ?_
              intro wz hw'
              obtain ⟨⟨wy, hbz⟩, hw''⟩ := hw'
              dsimp only at hw''
              subst hw''
              have HZ := Lib.hid (HJ.out.1.trans (hbz.mono HJ.out.1.size))
              clear hbz
              go_wp2_with fail
              go_ret
              exact ⟨false, rfl, by simp only [Bool.false_eq_true, false_iff]; exact HNE.out, HZ.out⟩
          · rw [show eqT x.t y.t = false from Bool.eq_false_iff.2 fun h => ht (eqT_iff.1 h)] at hq
            have HNE := Lib.hid (hne fun e => ht (congrArg (fun z => z.1.t) e))
            clear hk hr ht hnext hne
            go_upto_region 6 with fail
            refine wp_region_past wi (by kernel_rfl) (by kernel_rfl) (Below.refl _ _) ?_
            repeat (first | go_big_quiet_step (fail) | quiet_step (fail))
            quiet_step ((go_at_call 91; exact u1 _))
            repeat (first | go_big_quiet_step (fail) | quiet_step (fail))
            quiet_step ((go_at_call 91; exact u2 _))
            repeat (first | go_big_quiet_step (fail) | quiet_step (fail))
            refine wpQuiet_nil ?_
            intro wz hw'
            obtain ⟨⟨wy, hbz⟩, hw''⟩ := hw'
            dsimp only at hw''
            subst hw''
            have HZ := Lib.hid (HJ.out.1.trans (hbz.mono HJ.out.1.size))
            clear hbz
            go_wp2_with fail
            go_ret
            exact ⟨false, rfl, by simp only [Bool.false_eq_true, false_iff]; exact HNE.out, HZ.out⟩
        · simp only [decide_eq_false hr] at u2
          have HNE := Lib.hid (hne fun e => hr (congrArg (fun z => z.1.row) e))
          clear hk hr hnext hne
          go_upto_region 6 with fail
          refine wp_region_past wi (by kernel_rfl) (by kernel_rfl) (Below.refl _ _) ?_
          repeat (first | go_big_quiet_step (fail) | quiet_step (fail))
          quiet_step ((go_at_call 91; exact u1 _))
          repeat (first | go_big_quiet_step (fail) | quiet_step (fail))
          quiet_step ((go_at_call 91; exact u2 _))
          repeat (first | go_big_quiet_step (fail) | quiet_step (fail))
          refine wpQuiet_nil ?_
          intro wz hw'
          obtain ⟨⟨wy, hbz⟩, hw''⟩ := hw'
          dsimp only at hw''
          subst hw''
          have HZ := Lib.hid (HJ.out.1.trans (hbz.mono HJ.out.1.size))
          clear hbz
          go_wp2_with fail
          go_ret
          exact ⟨false, rfl, by simp only [Bool.false_eq_true, false_iff]; exact HNE.out, HZ.out⟩
      · simp only [decide_eq_false hk] at u1
        have HNE := Lib.hid (hne fun e => hk (congrArg (fun z => z.1.key) e))
        clear hk hnext hne u2
        go_upto_region 6 with fail
        refine wp_region_past wi (by kernel_rfl) (by kernel_rfl) (Below.refl _ _) ?_
        repeat (first | go_big_quiet_step (fail) | quiet_step (fail))
        quiet_step ((go_at_call 91; exact u1 _))
        repeat (first | go_big_quiet_step (fail) | quiet_step (fail))
        refine wpQuiet_nil ?_
        intro wz hw'
        obtain ⟨⟨wy, hbz⟩, hw''⟩ := hw'
        dsimp only at hw''
        subst hw''
        have HZ := Lib.hid (HJ.out.1.trans (hbz.mono HJ.out.1.size))
        clear hbz
        go_wp2_with fail
        go_ret
        exact ⟨false, rfl, by simp only [Bool.false_eq_true, false_iff]; exact HNE.out, HZ.out⟩
    · have hj2 : j = l.length := by omega
      have q2 : decide ((j : Int) < (l.length : Int)) = false := decide_eq_false (by omega)
      rw [hj2, List.take_length, HE.out, List.take_length] at heq
      have HJ := Lib.hid (And.intro hbj heq)
      clear hbj heq
      go_wp2_with fail
      go_ret
      exact ⟨true, rfl, ⟨fun _ => HJ.out.2, fun _ => rfl⟩, HJ.out.1⟩
end Go.Proofs.YtllpfngmnccejaaGreat
namespace Go.Proofs.YtllpfngmnccejaaGreat
open Go Go.RowKit

/-- evened out: no number is 0, they stand in order, each is right -/
def EvenP (l : List Up) : Prop := (∀ u ∈ l, u.d ≠ 0) ∧ Srt Uk.cmp (l.map Up.p) ∧ chkUs l = 0
/-- a Bool that tells whether p -/
def Tells (p : Prop) (w : World) (x : Ending) (w' : World) : Prop := ∃ b : Bool, x = .returned (.bool b) ∧ (b = true ↔ p) ∧ Below w.heap.size w w'
theorem srt_more {l : List Up} {j : Nat} {x u : Up} (h : Srt Uk.cmp ((l.take (j + 1)).map Up.p)) (hx : l[j]? = some x) (hu : l[j + 1]? = some u) (hlt : x.k.cmp u.k < 0) : Srt Uk.cmp ((l.take (j + 1 + 1)).map Up.p) := by
  have e1 : l.take (j + 1) = l.take j ++ [x] := by rw [List.take_add_one, hx]; rfl
  have e2 : l.take (j + 1 + 1) = l.take (j + 1) ++ [u] := by rw [List.take_add_one, hu]; rfl
  rw [e2, List.map_append]
  rw [e1, List.map_append] at h ⊢
  unfold Srt at *
  rw [List.pairwise_append]
  refine ⟨h, by simp, fun a ha b hb => ?_⟩
  obtain rfl : b = u.p := by simpa using hb
  rcases List.mem_append.1 ha with ha | ha
  · rw [List.pairwise_append] at h
    exact uk_lin.lt_trans (h.2.2 a ha x.p (by simp)) hlt
  · obtain rfl : a = x.p := by simpa using ha
    exact hlt
theorem srt_not {l : List Up} {j : Nat} {x u : Up} (hx : l[j]? = some x) (hu : l[j + 1]? = some u) (hge : ¬ x.k.cmp u.k < 0) : ¬ Srt Uk.cmp (l.map Up.p) := fun h => by
  unfold Srt at h
  obtain ⟨h1, rfl⟩ := List.getElem?_eq_some_iff.1 hx
  obtain ⟨h2, rfl⟩ := List.getElem?_eq_some_iff.1 hu
  have := List.pairwise_iff_getElem.1 h j (j + 1) (by simpa using h1) (by simpa using h2) (by omega)
  simp only [List.getElem_map] at this
  exact hge this
set_option maxRecDepth 100000 in
set_option maxHeartbeats 16000000 in
theorem even_any (A : Option Addr) (c : Nat) (l : List Up) (w : World) (hl : Ups w w.heap.size A l) (hok : ∀ u ∈ l, UOk u) (hn : l.length ≤ 1099511627776) :
    Calls Tryz.prog 46 #[.slice A l.length c] w (Tells (EvenP l) w) := by
  have HL := Lib.hid (And.intro hl hok)
  clear hl hok
  go_enter Tryz.func46, Tryz.ntmps46
  go_wp2_with fail
  go_loopw [7] (fun v7 wr => ∃ j : Nat, v7 = .int .i64 (j : Int) ∧ j ≤ l.length ∧ Below w.heap.size w wr ∧ (∀ u ∈ l.take j, u.d ≠ 0) ∧ Srt Uk.cmp ((l.take j).map Up.p)) (fun v7 _ => l.length - (intOf v7).toNat)
  case atStart => exact ⟨0, rfl, by omega, Below.refl _ _, fun u hu => (by cases hu), List.Pairwise.nil⟩
  case round =>
    obtain ⟨j, rfl, hj, hbj, hnz, hsrt⟩ := hrel
    obtain ⟨wi, hwi⟩ : ∃ wi, wi = wr := ⟨_, rfl⟩
    subst hwi
    by_cases hjt : j < l.length
    · have hy : l[j]? = some l[j] := List.getElem?_eq_getElem hjt
      have hym := List.mem_of_getElem? hy
      generalize l[j] = u at *
      obtain ⟨b, o, rfl, hB, hys⟩ := lies_up HL.out.1.head (by omega)
      obtain ⟨e0, e1, e2, e3, e4, e5⟩ := ((hys j u hy).past_ hbj hB).six
      obtain ⟨V, hV, hvb, hvs, hvo⟩ := upbox wi u
      have hbV := hbj.trans (hvb.mono hbj.size)
      have hX := fun p : Past V => own6 (hvo.past p.h hvo.inside)
      have hnz2 : u.d ≠ 0 → ∀ x ∈ l.take (j + 1), x.d ≠ 0 := fun h x hx => by
        rw [List.take_add_one, hy] at hx
        rcases List.mem_append.1 hx with hx | hx
        · exact hnz x hx
        · obtain rfl : x = u := by simpa using hx
          exact h
      have HJ := Lib.hid (And.intro hbV (And.intro hy (And.intro hym (And.intro hnz2 hsrt))))
      have q0 : (0 : Int) ≤ (j : Int) := by omega
      have q1 : (j : Int) < (l.length : Int) := by omega
      have q2 : decide ((j : Int) < (l.length : Int)) = true := decide_eq_true q1
      by_cases hd : u.d = 0
      · have t1 : (u.d == 0) = true := beq_iff_eq.2 hd
        have HN := Lib.hid (fun h : EvenP l => h.1 u hym hd)
        clear hy hym hbj hnz hsrt hvb hvs hbV hnz2 hvo hd
        go_upto_region 4 with fail
        rw [← hV]
        clear hV e0 e1 e2 e3 e4 e5
        refine wp_region_past V (by kernel_rfl) (by kernel_rfl) (Below.refl _ _) ?_
        repeat (first | go_big_quiet_step (fail) | quiet_step (fail))
        refine wpQuiet_nil ?_
        intro wz hw'
        obtain ⟨⟨wy, hbz⟩, hw''⟩ := hw'
        dsimp only at hw''
        subst hw''
        have HZ := Lib.hid (HJ.out.1.trans (hbz.mono HJ.out.1.size))
        clear hbz
        go_wp2_with fail
        go_ret
        exact ⟨false, rfl, by simp only [Bool.false_eq_true, false_iff]; exact HN.out, HZ.out⟩
      have t1 : (u.d == 0) = false := beq_eq_false_iff_ne.2 hd
      have HD := Lib.hid hd
      cases j with
      | zero =>
        simp only [Nat.zero_mul, Nat.add_zero] at e0 e1 e2 e3 e4 e5
        have q3 : decide ((0 : Int) < ((0 : Nat) : Int)) = false := by decide
        clear hy hym hbj hnz hsrt hvb hvs hbV hnz2 hvo hd
        go_upto_region 4 with fail
        rw [← hV]
        clear hV e0 e1 e2 e3 e4 e5
        refine wp_region_past V (by kernel_rfl) (by kernel_rfl) (Below.refl _ _) ?_
        repeat (first | go_big_quiet_step (fail) | quiet_step (fail))
        refine wpQuiet_nil ?_
        intro wz hw'
        obtain ⟨⟨wy, hbz⟩, hw''⟩ := hw'
        dsimp only at hw''
        subst hw''
        have HZ := Lib.hid (HJ.out.1.trans (hbz.mono HJ.out.1.size))
        clear hbz
        go_wp2_with fail
        go_roundw
        case rel =>
          refine ⟨1, by go_num, by omega, HZ.out, HJ.out.2.2.2.1 HD.out, ?_⟩
          have : l.take (0 + 1) = [u] := by rw [List.take_add_one, HJ.out.2.1]; rfl
          rw [this]
          unfold Srt
          simp
        case measure => simp [intOf]; omega
      | succ i =>
        have hx : l[i]? = some (l[i]'(by omega)) := List.getElem?_eq_getElem _
        have hxm := List.mem_of_getElem? hx
        generalize (l[i]'(by omega)) = x at *
        have hxs := fun p : Past V => ((hys i x hx).past_ (hbV.trans (p.h.mono hbV.size)) hB).six
        have hin := fun (z : Up) (hz : z ∈ l) (p : Past V) => ((HL.out.1.each_ z hz).past (hbV.trans (p.h.mono hbV.size)) (Nat.le_refl _)).wide (Nat.le_trans hbV.size p.h.size)
        have u1 : ∀ p : Past V, Calls Tryz.prog 25 #[.agg #[.slice x.kA x.key.length x.kc, .slice x.rA x.row.length x.rc, .int .u64 (x.t.e : Int), .int .u64 (x.t.a : Int), .int .u64 (x.t.b : Int), .int .i64 x.d], .agg #[.slice u.kA u.key.length u.kc, .slice u.rA u.row.length u.rc, .int .u64 (u.t.e : Int), .int .u64 (u.t.a : Int), .int .u64 (u.t.b : Int), .int .i64 u.d]] p.w fun e w'' => e = .returned (.int .i64 (x.k.cmp u.k)) ∧ ∃ q : Past V, w'' = q.w := fun p =>
          calls_past ((dcompare_gr x u p.w (hin x hxm p) (hin u hym p) (HL.out.2 x hxm) (HL.out.2 u hym)).mono fun e w' h => ⟨h.1, h.2.below⟩)
        obtain ⟨r, hr⟩ : ∃ r, x.k.cmp u.k = r := ⟨_, rfl⟩
        rw [hr] at u1
        have HX := Lib.hid (And.intro hx hr)
        have q3 : (0 : Int) ≤ (i : Int) := by omega
        have q4 : (i : Int) < (l.length : Int) := by omega
        have q5 : decide (((i + 1 : Nat) : Int) > 0) = true := decide_eq_true (by omega)
        have q5' : decide ((0 : Int) < (i : Int) + 1) = true := decide_eq_true (by omega)
        by_cases hr0 : r < 0
        · have t2 : decide (r ≥ 0) = false := decide_eq_false (by omega)
          have t2' : decide (0 ≤ r) = false := decide_eq_false (by omega)
          have HR0 := Lib.hid hr0
          clear hy hym hbj hnz hsrt hvb hvs hbV hnz2 hvo hd hx hxm hr hin hr0
          go_upto_region 4 with fail
          rw [← hV]
          clear hV e0 e1 e2 e3 e4 e5
          refine wp_region_past V (by kernel_rfl) (by kernel_rfl) (Below.refl _ _) ?_
          repeat (first | go_big_quiet_step (fail) | quiet_step (fail))
          quiet_step ((go_at_call 25; exact u1 _))
          repeat (first | go_big_quiet_step (fail) | quiet_step (fail))
          refine wpQuiet_nil ?_
          intro wz hw'
          obtain ⟨⟨wy, hbz⟩, hw''⟩ := hw'
          dsimp only at hw''
          subst hw''
          have HZ := Lib.hid (HJ.out.1.trans (hbz.mono HJ.out.1.size))
          clear hbz
          go_wp2_with fail
          go_roundw
          case rel => exact ⟨i + 1 + 1, by go_num, by omega, HZ.out, HJ.out.2.2.2.1 HD.out, srt_more HJ.out.2.2.2.2 HX.out.1 HJ.out.2.1 (by rw [HX.out.2]; exact HR0.out)⟩
          case measure => simp [intOf]; omega
        · have t2 : decide (r ≥ 0) = true := decide_eq_true (by omega)
          have t2' : decide (0 ≤ r) = true := decide_eq_true (by omega)
          have HR0 := Lib.hid hr0
          clear hy hym hbj hnz hsrt hvb hvs hbV hnz2 hvo hd hx hxm hr hin hr0
          go_upto_region 4 with fail
          rw [← hV]
          clear hV e0 e1 e2 e3 e4 e5
          refine wp_region_past V (by kernel_rfl) (by kernel_rfl) (Below.refl _ _) ?_
          repeat (first | go_big_quiet_step (fail) | quiet_step (fail))
          quiet_step ((go_at_call 25; exact u1 _))
          repeat (first | go_big_quiet_step (fail) | quiet_step (fail))
          refine wpQuiet_nil ?_
          intro wz hw'
          obtain ⟨⟨wy, hbz⟩, hw''⟩ := hw'
          dsimp only at hw''
          subst hw''
          have HZ := Lib.hid (HJ.out.1.trans (hbz.mono HJ.out.1.size))
          clear hbz
          go_wp2_with fail
          go_ret
          exact ⟨false, rfl, by simp only [Bool.false_eq_true, false_iff]; exact fun h => srt_not HX.out.1 HJ.out.2.1 (by rw [HX.out.2]; have := HR0.out; omega) h.2.1, HZ.out⟩
    · have hj2 : j = l.length := by omega
      have q2 : decide ((j : Int) < (l.length : Int)) = false := decide_eq_false (by omega)
      rw [hj2, List.take_length] at hnz hsrt
      have hcall := Lib.hid (dcheck_any A c l wi ((HL.out.1.past hbj (Nat.le_refl _)).wide hbj.size) (by omega) HL.out.2)
      obtain ⟨K, hK⟩ : ∃ K, chkUs l = K := ⟨_, rfl⟩
      rw [hK] at hcall
      have HJ := Lib.hid (And.intro hbj (And.intro hnz (And.intro hsrt hK)))
      clear hbj hnz hsrt hK
      go_wp2_with fail
      refine hcall.out.mono ?_
      rintro _ w9 ⟨rfl, b9⟩
      have H9 := Lib.hid (HJ.out.1.trans (b9.mono HJ.out.1.size))
      clear b9 hcall
      go_wp2_with fail
      go_ret
      exact ⟨K == 0, rfl, ⟨fun h => ⟨HJ.out.2.1, HJ.out.2.2.1, HJ.out.2.2.2.trans (beq_iff_eq.1 h)⟩, fun h => beq_iff_eq.2 (HJ.out.2.2.2.symm.trans h.2.2)⟩, H9.out⟩
end Go.Proofs.YtllpfngmnccejaaGreat
namespace Go.Proofs.YtllpfngmnccejaaGreat
open Go Go.RowKit

set_option maxRecDepth 100000 in
set_option maxHeartbeats 3200000 in
theorem rcompare_any (a b : Up) (w : World) (ha : UIn w w.heap.size a) (hb : UIn w w.heap.size b) (oa : UOk a) (ob : UOk b) :
    Calls Tryz.prog 77 #[a.val, b.val] w fun e w' => e = .returned (.int .i64 (a.k.cmp b.k)) ∧ Below w.heap.size w w' := by
  have y1 := fun W h1 h2 => Lib.hid (refRows_any a.kA b.kA a.kc b.kc a.key b.key W h1 h2 (maxn oa.kn) (maxn ob.kn))
  have y2 := fun W h1 h2 => Lib.hid (refRows_any a.rA b.rA a.rc b.rc a.row b.row W h1 h2 (maxn oa.rn) (maxn ob.rn))
  have y3 := fun W => Lib.hid (refCompare_any a.t b.t W)
  have hc := Lib.hid (show a.k.cmp b.k = if cmpRows a.key b.key = 0 then (if cmpRows a.row b.row = 0 then a.t.cmp b.t else cmpRows a.row b.row) else cmpRows a.key b.key from rfl)
  obtain ⟨W, hW, hg, o1, o2⟩ := two_box w a b
  have HB := Lib.hid (And.intro hg.below (And.intro o1 (And.intro o2 (And.intro (ha.keep hg.below) (hb.keep hg.below)))))
  obtain ⟨a0, a1, a2, a3, a4, a5⟩ := own6 o1
  obtain ⟨b0, b1, b2, b3, b4, b5⟩ := own6 o2
  generalize cmpRows a.key b.key = x at *
  generalize cmpRows a.row b.row = y at *
  generalize a.t.cmp b.t = z at *
  unfold Tm.val at y3
  have hav : a.val = .agg #[.slice a.kA a.key.length a.kc, .slice a.rA a.row.length a.rc, .int .u64 (a.t.e : Int), .int .u64 (a.t.a : Int), .int .u64 (a.t.b : Int), .int .i64 a.d] := rfl
  have hbv : b.val = .agg #[.slice b.kA b.key.length b.kc, .slice b.rA b.row.length b.rc, .int .u64 (b.t.e : Int), .int .u64 (b.t.a : Int), .int .u64 (b.t.b : Int), .int .i64 b.d] := rfl
  rw [hav, hbv]
  clear hav hbv ha hb oa ob hg o1 o2
  go_enter Tryz.func77, Tryz.ntmps77
  go_upto_region 1 with fail
  rw [← hW]
  clear hW
  go_wp2_with fail
  refine (y1 _ HB.out.2.2.2.1.key HB.out.2.2.2.2.key).out.mono ?_
  rintro _ w1 ⟨rfl, g1⟩
  have H1 := Lib.hid (And.intro (HB.out.1.trans (g1.mono HB.out.1.size)) (And.intro (HB.out.2.1.past g1 HB.out.2.1.inside) (And.intro (HB.out.2.2.1.past g1 HB.out.2.2.1.inside) (And.intro (HB.out.2.2.2.1.keep g1) (HB.out.2.2.2.2.keep g1)))))
  clear g1 a0 a1 a2 a3 a4 a5 b0 b1 b2 b3 b4 b5 y1
  obtain ⟨a0, a1, a2, a3, a4, a5⟩ := own6 H1.out.2.1
  obtain ⟨b0, b1, b2, b3, b4, b5⟩ := own6 H1.out.2.2.1
  by_cases hx : x = 0
  case neg =>
    have t1 : (x == 0) = false := beq_eq_false_iff_ne.2 hx
    rw [if_neg hx] at hc
    clear hx
    go_wp2_with fail
    go_ret
    exact ⟨ret_i64 hc.out.symm, H1.out.1⟩
  rw [if_pos hx] at hc
  subst hx
  go_wp2_with fail
  refine (y2 _ H1.out.2.2.2.1.row H1.out.2.2.2.2.row).out.mono ?_
  rintro _ w2 ⟨rfl, g2⟩
  have H2 := Lib.hid (And.intro (H1.out.1.trans (g2.mono H1.out.1.size)) (And.intro (H1.out.2.1.past g2 H1.out.2.1.inside) (H1.out.2.2.1.past g2 H1.out.2.2.1.inside)))
  clear g2 a0 a1 a2 a3 a4 a5 b0 b1 b2 b3 b4 b5 y2
  obtain ⟨a0, a1, a2, a3, a4, a5⟩ := own6 H2.out.2.1
  obtain ⟨b0, b1, b2, b3, b4, b5⟩ := own6 H2.out.2.2
  by_cases hy : y = 0
  case neg =>
    have t1 : (y == 0) = false := beq_eq_false_iff_ne.2 hy
    rw [if_neg hy] at hc
    clear hy
    go_wp2_with fail
    go_ret
    exact ⟨ret_i64 hc.out.symm, H2.out.1⟩
  rw [if_pos hy] at hc
  subst hy
  go_wp2_with fail
  refine (y3 _).out.mono ?_
  rintro _ w3 ⟨rfl, g3⟩
  have H3 := Lib.hid (H2.out.1.trans (g3.mono H2.out.1.size))
  clear g3
  go_wp2_with fail
  go_ret
  exact ⟨ret_i64 hc.out.symm, H3.out⟩
/-- a slice of two rows -/
theorem rows_box (w : World) (u : Up) (hu : UIn w w.heap.size u) : ∃ V, V = w.alloc (.cells #[.slice u.kA u.key.length u.kc, .slice u.rA u.row.length u.rc] 42) ∧ Below w.heap.size w V ∧ V.cell? ⟨w.heap.size, 0, none⟩ = some (.slice u.kA u.key.length u.kc) ∧ V.cell? ⟨w.heap.size, 1, none⟩ = some (.slice u.rA u.row.length u.rc) ∧ UIn V V.heap.size u ∧ w.heap.size < V.heap.size := by
  have ho := Own.made w 42 [.slice u.kA u.key.length u.kc, .slice u.rA u.row.length u.rc]
  exact ⟨_, rfl, (Below.refl _ _).alloc (Nat.le_refl _) _, ho.at_ 0, ho.at_ 1, hu.keep ((Below.refl _ _).alloc (Nat.le_refl _) _), by simp⟩
theorem chkRow_four {l : List Vl} (h : chkRow l ≠ 0) : chkRow l = 4 := by
  unfold chkRow at *
  split at h
  · exact absurd rfl h
  · rename_i h1; rw [if_neg h1]
set_option maxRecDepth 100000 in
set_option maxHeartbeats 6400000 in
theorem rcheck_any (A : Option Addr) (c : Nat) (l : List Up) (w : World) (hl : Ups w w.heap.size A l) (hn : l.length ≤ 140737488351232) (hk : ∀ u ∈ l, UOk u) :
    Calls Tryz.prog 76 #[.slice A l.length c] w fun x w' => x = .returned (.int .i64 (chkUs l)) ∧ Below w.heap.size w w' := by
  have HL := Lib.hid (And.intro hl hk)
  clear hl hk
  go_enter Tryz.func76, Tryz.ntmps76
  go_wp2_with fail
  go_loopw [10] (fun i wr => ∃ k : Nat, i = .int .i64 (k : Int) ∧ k ≤ l.length ∧ Below w.heap.size w wr ∧ chkUs (l.take k) = 0) (fun i _ => l.length - (intOf i).toNat)
  case atStart => exact ⟨0, rfl, by omega, Below.refl _ _, rfl⟩
  case round =>
    obtain ⟨k, rfl, hk, hb, h0⟩ := hrel
    obtain ⟨wi, hwi⟩ : ∃ wi, wi = wr := ⟨_, rfl⟩
    subst hwi
    by_cases hlt : k < l.length
    · have hx : l[k]? = some l[k] := List.getElem?_eq_getElem hlt
      have hmem := List.mem_of_getElem? hx
      obtain ⟨b, o, rfl, hB, hxs⟩ := lies_up HL.out.1.head (by omega)
      have hxa := (hxs k _ hx).past_ hb hB
      have hin := ((HL.out.1.each_ _ hmem).past hb (Nat.le_refl _)).wide hb.size
      have hok := HL.out.2 _ hmem
      have hnx := chkUs_take hx h0
      have hbad := fun h => chkUs_bad hx h0 h
      generalize l[k] = u at *
      obtain ⟨c0, c1, c2, c3, c4, c5⟩ := hxa.six
      obtain ⟨V, hV, hvb, hvs, hvo⟩ := upbox wi u
      obtain ⟨V2, hV2, hvb2, g0, g1, hin2, hlt2⟩ := rows_box V u (hin.keep hvb)
      have hcu : chkU u = orI (chkRow u.key) (orI (chkRow u.row) (chk [u.t])) := rfl
      have y1 := fun W (h : Below V2.heap.size V2 W) => Lib.hid (vrefCheck_any u.kA u.kc u.key W (hin2.keep h).key (maxn hok.kn) (fun v hv => (hok.ks v hv).1))
      have y2 := fun W (h : Below V2.heap.size V2 W) => Lib.hid (vrefCheck_any u.rA u.rc u.row W (hin2.keep h).row (maxn hok.rn) (fun v hv => (hok.rs v hv).1))
      have HV := Lib.hid (And.intro (hb.trans ((hvb.trans (hvb2.mono hvb.size)).mono hb.size)) (And.intro (hvo.past hvb2 hvo.inside) (And.intro hnx (And.intro hbad (And.intro g0 (And.intro g1 (And.intro hcu (And.intro (chkRow_four (l := u.key)) (And.intro (chkRow_four (l := u.row)) (And.intro hlt2 hvs))))))))))
      obtain ⟨d0, d1, d2, d3, d4, d5⟩ := own6 hvo
      have q0 : (0 : Int) ≤ (k : Int) := by omega
      have q1 : (k : Int) < (l.length : Int) := by omega
      have q2 : decide ((k : Int) < (l.length : Int)) = true := decide_eq_true q1
      obtain ⟨K, hK⟩ : ∃ K, chkRow u.key = K := ⟨_, rfl⟩
      obtain ⟨R, hR⟩ : ∃ R, chkRow u.row = R := ⟨_, rfl⟩
      simp only [hK] at y1
      simp only [hR] at y2
      have HK := Lib.hid (And.intro hK hR)
      clear hx hmem hxs hxa hin hok hnx hbad hvb hvb2 hvo hin2 hb h0 hvs hcu g0 g1 hlt2 hK hR
      go_upto_region 4 with fail
      rw [← hV]
      clear hV c0 c1 c2 c3 c4 c5
      go_wp2_with fail
      rw [← hV2]
      clear hV2 d0 d1 d2 d3 d4 d5
      go_loopw [20] (fun v20 wx => ∃ i : Nat, v20 = .int .i64 (i : Int) ∧ i ≤ 2 ∧ Below V2.heap.size V2 wx ∧ (1 ≤ i → K = 0) ∧ (2 ≤ i → R = 0)) (fun v20 _ => 2 - (intOf v20).toNat)
      case atStart => exact ⟨0, rfl, by omega, Below.refl _ _, fun h => (by omega), fun h => (by omega)⟩
      case round =>
        obtain ⟨i, rfl, hi, hbi, hi1, hi2⟩ := hrel
        obtain ⟨wj, hwj⟩ : ∃ wj, wj = wr := ⟨_, rfl⟩
        subst hwj
        have g0 := (hbi.cell (p := ⟨V.heap.size, 0, none⟩) HV.out.2.2.2.2.2.2.2.2.2.1).trans HV.out.2.2.2.2.1
        have g1 := (hbi.cell (p := ⟨V.heap.size, 1, none⟩) HV.out.2.2.2.2.2.2.2.2.2.1).trans HV.out.2.2.2.2.2.1
        match i, hi, hi1, hi2 with
        | 0, _, _, _ =>
          have hcall := y1 wj hbi
          have HJ := Lib.hid hbi
          clear hbi
          go_wp2_with fail
          refine hcall.out.mono ?_
          rintro _ w1 ⟨rfl, b1⟩
          have H1 := Lib.hid (HJ.out.trans (b1.mono HJ.out.size))
          clear b1 hcall g0 g1
          by_cases hz : K = 0
          · have t1 : (K != 0) = false := by simp [hz]
            have HZ := Lib.hid hz
            clear hz
            go_wp2_with fail
            go_roundw
            case rel => exact ⟨1, rfl, by omega, H1.out, fun _ => HZ.out, fun h => (by omega)⟩
            case measure => simp [intOf]
          · have t1 : (K != 0) = true := bne_iff_ne.2 hz
            have h4 := HV.out.2.2.2.2.2.2.2.1 (by rw [HK.out.1]; exact hz)
            have hcu : chkU u = 4 := by rw [HV.out.2.2.2.2.2.2.1]; unfold orI; rw [if_neg (by rw [HK.out.1]; exact hz)]; exact h4
            have hr := Lib.hid ((HV.out.2.2.2.1 (by rw [hcu]; decide)).trans hcu)
            clear hz h4 hcu
            go_wp2_with fail
            go_ret
            exact ⟨ret_i64 hr.out.symm, HV.out.1.trans (H1.out.mono HV.out.1.size)⟩
        | 1, _, hi1, _ =>
          have hK0 := Lib.hid (hi1 (by omega))
          have hcall := y2 wj hbi
          have HJ := Lib.hid hbi
          clear hbi hi1
          go_wp2_with fail
          refine hcall.out.mono ?_
          rintro _ w1 ⟨rfl, b1⟩
          have H1 := Lib.hid (HJ.out.trans (b1.mono HJ.out.size))
          clear b1 hcall g0 g1
          by_cases hz : R = 0
          · have t1 : (R != 0) = false := by simp [hz]
            have HZ := Lib.hid hz
            clear hz
            go_wp2_with fail
            go_roundw
            case rel => exact ⟨2, rfl, by omega, H1.out, fun _ => hK0.out, fun _ => HZ.out⟩
            case measure => simp [intOf]
          · have t1 : (R != 0) = true := bne_iff_ne.2 hz
            have h4 := HV.out.2.2.2.2.2.2.2.2.1 (by rw [HK.out.2]; exact hz)
            have hcu : chkU u = 4 := by rw [HV.out.2.2.2.2.2.2.1]; unfold orI; rw [if_pos (HK.out.1.trans hK0.out), if_neg (by rw [HK.out.2]; exact hz)]; exact h4
            have hr := Lib.hid ((HV.out.2.2.2.1 (by rw [hcu]; decide)).trans hcu)
            clear hz h4 hcu
            go_wp2_with fail
            go_ret
            exact ⟨ret_i64 hr.out.symm, HV.out.1.trans (H1.out.mono HV.out.1.size)⟩
        | 2, _, hi1, hi2 =>
          have hcu : chkU u = chk [u.t] := by rw [HV.out.2.2.2.2.2.2.1]; unfold orI; rw [if_pos (HK.out.1.trans (hi1 (by omega))), if_pos (HK.out.2.trans (hi2 (by omega)))]
          have hvo := HV.out.2.1.past hbi HV.out.2.1.inside
          have htm := times_made wj u.t
          have hcall := Lib.hid (refCheck_any (some ⟨wj.heap.size, 0, none⟩) 1 [u.t] _ htm (by unfold maxLen; simp))
          have HJ := Lib.hid (And.intro (hbi.alloc hbi.size (.cells #[.int .u64 (u.t.e : Int), .int .u64 (u.t.a : Int), .int .u64 (u.t.b : Int)] 46)) hcu)
          obtain ⟨d0, d1, d2, d3, d4, d5⟩ := own6 hvo
          obtain ⟨Q, hQ⟩ : ∃ Q, chk [u.t] = Q := ⟨_, rfl⟩
          rw [hQ] at hcall
          have HQ := Lib.hid hQ
          clear hbi hvo htm hcu hi1 hi2 g0 g1 hQ
          go_wp2_with fail
          refine hcall.out.mono ?_
          rintro _ w1 ⟨rfl, b1⟩
          have H1 := Lib.hid (HJ.out.1.trans (b1.mono HJ.out.1.size))
          clear b1 hcall d0 d1 d2 d3 d4 d5
          by_cases hz : Q = 0
          · have t1 : (Q != 0) = false := by simp [hz]
            have HZ := Lib.hid hz
            clear hz
            go_wp2_with fail
            go_roundw
            case rel => exact ⟨k + 1, by go_num, by omega, HV.out.1.trans (H1.out.mono HV.out.1.size), by rw [HV.out.2.2.1, HJ.out.2, HQ.out, HZ.out]⟩
            case measure => simp [intOf]; omega
          · have t1 : (Q != 0) = true := bne_iff_ne.2 hz
            have hr := Lib.hid ((HV.out.2.2.2.1 (by rw [HJ.out.2, HQ.out]; exact hz)).trans (HJ.out.2.trans HQ.out))
            clear hz
            go_wp2_with fail
            go_ret
            exact ⟨ret_i64 hr.out.symm, HV.out.1.trans (H1.out.mono HV.out.1.size)⟩
        | i + 3, hi, _, _ => omega
    · have hk2 : k = l.length := by omega
      subst hk2
      rw [List.take_length] at h0
      have q2 : decide ((l.length : Int) < (l.length : Int)) = false := decide_eq_false (by omega)
      have HX := Lib.hid (And.intro h0 hb)
      clear h0 hb
      go_wp2_with fail
      go_ret
      exact ⟨ret_i64 HX.out.1.symm, HX.out.2⟩
end Go.Proofs.YtllpfngmnccejaaGreat
namespace Go.Proofs.YtllpfngmnccejaaGreat
open Go Go.RowKit

set_option maxRecDepth 100000 in
set_option maxHeartbeats 16000000 in
theorem reven_any (A : Option Addr) (c : Nat) (l : List Up) (w : World) (hl : Ups w w.heap.size A l) (hok : ∀ u ∈ l, UOk u) (hn : l.length ≤ 1099511627776) :
    Calls Tryz.prog 49 #[.slice A l.length c] w (Tells (EvenP l) w) := by
  have HL := Lib.hid (And.intro hl hok)
  clear hl hok
  go_enter Tryz.func49, Tryz.ntmps49
  go_wp2_with fail
  go_loopw [7] (fun v7 wr => ∃ j : Nat, v7 = .int .i64 (j : Int) ∧ j ≤ l.length ∧ Below w.heap.size w wr ∧ (∀ u ∈ l.take j, u.d ≠ 0) ∧ Srt Uk.cmp ((l.take j).map Up.p)) (fun v7 _ => l.length - (intOf v7).toNat)
  case atStart => exact ⟨0, rfl, by omega, Below.refl _ _, fun u hu => (by cases hu), List.Pairwise.nil⟩
  case round =>
    obtain ⟨j, rfl, hj, hbj, hnz, hsrt⟩ := hrel
    obtain ⟨wi, hwi⟩ : ∃ wi, wi = wr := ⟨_, rfl⟩
    subst hwi
    by_cases hjt : j < l.length
    · have hy : l[j]? = some l[j] := List.getElem?_eq_getElem hjt
      have hym := List.mem_of_getElem? hy
      generalize l[j] = u at *
      obtain ⟨b, o, rfl, hB, hys⟩ := lies_up HL.out.1.head (by omega)
      obtain ⟨e0, e1, e2, e3, e4, e5⟩ := ((hys j u hy).past_ hbj hB).six
      obtain ⟨V, hV, hvb, hvs, hvo⟩ := upbox wi u
      have hbV := hbj.trans (hvb.mono hbj.size)
      have hX := fun p : Past V => own6 (hvo.past p.h hvo.inside)
      have hnz2 : u.d ≠ 0 → ∀ x ∈ l.take (j + 1), x.d ≠ 0 := fun h x hx => by
        rw [List.take_add_one, hy] at hx
        rcases List.mem_append.1 hx with hx | hx
        · exact hnz x hx
        · obtain rfl : x = u := by simpa using hx
          exact h
      have HJ := Lib.hid (And.intro hbV (And.intro hy (And.intro hym (And.intro hnz2 hsrt))))
      have q0 : (0 : Int) ≤ (j : Int) := by omega
      have q1 : (j : Int) < (l.length : Int) := by omega
      have q2 : decide ((j : Int) < (l.length : Int)) = true := decide_eq_true q1
      by_cases hd : u.d = 0
      · have t1 : (u.d == 0) = true := beq_iff_eq.2 hd
        have HN := Lib.hid (fun h : EvenP l => h.1 u hym hd)
        clear hy hym hbj hnz hsrt hvb hvs hbV hnz2 hvo hd
        go_upto_region 4 with fail
        rw [← hV]
        clear hV e0 e1 e2 e3 e4 e5
        refine wp_region_past V (by kernel_rfl) (by kernel_rfl) (Below.refl _ _) ?_
        repeat (first | go_big_quiet_step (fail) | quiet_step (fail))
        refine wpQuiet_nil ?_
        intro wz hw'
        obtain ⟨⟨wy, hbz⟩, hw''⟩ := hw'
        dsimp only at hw''
        subst hw''
        have HZ := Lib.hid (HJ.out.1.trans (hbz.mono HJ.out.1.size))
        clear hbz
        go_wp2_with fail
        go_ret
        exact ⟨false, rfl, by simp only [Bool.false_eq_true, false_iff]; exact HN.out, HZ.out⟩
      have t1 : (u.d == 0) = false := beq_eq_false_iff_ne.2 hd
      have HD := Lib.hid hd
      cases j with
      | zero =>
        simp only [Nat.zero_mul, Nat.add_zero] at e0 e1 e2 e3 e4 e5
        have q3 : decide ((0 : Int) < ((0 : Nat) : Int)) = false := by decide
        clear hy hym hbj hnz hsrt hvb hvs hbV hnz2 hvo hd
        go_upto_region 4 with fail
        rw [← hV]
        clear hV e0 e1 e2 e3 e4 e5
        refine wp_region_past V (by kernel_rfl) (by kernel_rfl) (Below.refl _ _) ?_
        repeat (first | go_big_quiet_step (fail) | quiet_step (fail))
        refine wpQuiet_nil ?_
        intro wz hw'
        obtain ⟨⟨wy, hbz⟩, hw''⟩ := hw'
        dsimp only at hw''
        subst hw''
        have HZ := Lib.hid (HJ.out.1.trans (hbz.mono HJ.out.1.size))
        clear hbz
        go_wp2_with fail
        go_roundw
        case rel =>
          refine ⟨1, by go_num, by omega, HZ.out, HJ.out.2.2.2.1 HD.out, ?_⟩
          have : l.take (0 + 1) = [u] := by rw [List.take_add_one, HJ.out.2.1]; rfl
          rw [this]
          unfold Srt
          simp
        case measure => simp [intOf]; omega
      | succ i =>
        have hx : l[i]? = some (l[i]'(by omega)) := List.getElem?_eq_getElem _
        have hxm := List.mem_of_getElem? hx
        generalize (l[i]'(by omega)) = x at *
        have hxs := fun p : Past V => ((hys i x hx).past_ (hbV.trans (p.h.mono hbV.size)) hB).six
        have hin := fun (z : Up) (hz : z ∈ l) (p : Past V) => ((HL.out.1.each_ z hz).past (hbV.trans (p.h.mono hbV.size)) (Nat.le_refl _)).wide (Nat.le_trans hbV.size p.h.size)
        have u1 : ∀ p : Past V, Calls Tryz.prog 77 #[.agg #[.slice x.kA x.key.length x.kc, .slice x.rA x.row.length x.rc, .int .u64 (x.t.e : Int), .int .u64 (x.t.a : Int), .int .u64 (x.t.b : Int), .int .i64 x.d], .agg #[.slice u.kA u.key.length u.kc, .slice u.rA u.row.length u.rc, .int .u64 (u.t.e : Int), .int .u64 (u.t.a : Int), .int .u64 (u.t.b : Int), .int .i64 u.d]] p.w fun e w'' => e = .returned (.int .i64 (x.k.cmp u.k)) ∧ ∃ q : Past V, w'' = q.w := fun p =>
          calls_past ((rcompare_any x u p.w (hin x hxm p) (hin u hym p) (HL.out.2 x hxm) (HL.out.2 u hym)).mono fun e w' h => ⟨h.1, h.2⟩)
        obtain ⟨r, hr⟩ : ∃ r, x.k.cmp u.k = r := ⟨_, rfl⟩
        rw [hr] at u1
        have HX := Lib.hid (And.intro hx hr)
        have q3 : (0 : Int) ≤ (i : Int) := by omega
        have q4 : (i : Int) < (l.length : Int) := by omega
        have q5 : decide (((i + 1 : Nat) : Int) > 0) = true := decide_eq_true (by omega)
        have q5' : decide ((0 : Int) < (i : Int) + 1) = true := decide_eq_true (by omega)
        by_cases hr0 : r < 0
        · have t2 : decide (r ≥ 0) = false := decide_eq_false (by omega)
          have t2' : decide (0 ≤ r) = false := decide_eq_false (by omega)
          have HR0 := Lib.hid hr0
          clear hy hym hbj hnz hsrt hvb hvs hbV hnz2 hvo hd hx hxm hr hin hr0
          go_upto_region 4 with fail
          rw [← hV]
          clear hV e0 e1 e2 e3 e4 e5
          refine wp_region_past V (by kernel_rfl) (by kernel_rfl) (Below.refl _ _) ?_
          repeat (first | go_big_quiet_step (fail) | quiet_step (fail))
          quiet_step ((go_at_call 77; exact u1 _))
          repeat (first | go_big_quiet_step (fail) | quiet_step (fail))
          refine wpQuiet_nil ?_
          intro wz hw'
          obtain ⟨⟨wy, hbz⟩, hw''⟩ := hw'
          dsimp only at hw''
          subst hw''
          have HZ := Lib.hid (HJ.out.1.trans (hbz.mono HJ.out.1.size))
          clear hbz
          go_wp2_with fail
          go_roundw
          case rel => exact ⟨i + 1 + 1, by go_num, by omega, HZ.out, HJ.out.2.2.2.1 HD.out, srt_more HJ.out.2.2.2.2 HX.out.1 HJ.out.2.1 (by rw [HX.out.2]; exact HR0.out)⟩
          case measure => simp [intOf]; omega
        · have t2 : decide (r ≥ 0) = true := decide_eq_true (by omega)
          have t2' : decide (0 ≤ r) = true := decide_eq_true (by omega)
          have HR0 := Lib.hid hr0
          clear hy hym hbj hnz hsrt hvb hvs hbV hnz2 hvo hd hx hxm hr hin hr0
          go_upto_region 4 with fail
          rw [← hV]
          clear hV e0 e1 e2 e3 e4 e5
          refine wp_region_past V (by kernel_rfl) (by kernel_rfl) (Below.refl _ _) ?_
          repeat (first | go_big_quiet_step (fail) | quiet_step (fail))
          quiet_step ((go_at_call 77; exact u1 _))
          repeat (first | go_big_quiet_step (fail) | quiet_step (fail))
          refine wpQuiet_nil ?_
          intro wz hw'
          obtain ⟨⟨wy, hbz⟩, hw''⟩ := hw'
          dsimp only at hw''
          subst hw''
          have HZ := Lib.hid (HJ.out.1.trans (hbz.mono HJ.out.1.size))
          clear hbz
          go_wp2_with fail
          go_ret
          exact ⟨false, rfl, by simp only [Bool.false_eq_true, false_iff]; exact fun h => srt_not HX.out.1 HJ.out.2.1 (by rw [HX.out.2]; have := HR0.out; omega) h.2.1, HZ.out⟩
    · have hj2 : j = l.length := by omega
      have q2 : decide ((j : Int) < (l.length : Int)) = false := decide_eq_false (by omega)
      rw [hj2, List.take_length] at hnz hsrt
      have hcall := Lib.hid (rcheck_any A c l wi ((HL.out.1.past hbj (Nat.le_refl _)).wide hbj.size) (by omega) HL.out.2)
      obtain ⟨K, hK⟩ : ∃ K, chkUs l = K := ⟨_, rfl⟩
      rw [hK] at hcall
      have HJ := Lib.hid (And.intro hbj (And.intro hnz (And.intro hsrt hK)))
      clear hbj hnz hsrt hK
      go_wp2_with fail
      refine hcall.out.mono ?_
      rintro _ w9 ⟨rfl, b9⟩
      have H9 := Lib.hid (HJ.out.1.trans (b9.mono HJ.out.1.size))
      clear b9 hcall
      go_wp2_with fail
      go_ret
      exact ⟨K == 0, rfl, ⟨fun h => ⟨HJ.out.2.1, HJ.out.2.2.1, HJ.out.2.2.2.trans (beq_iff_eq.1 h)⟩, fun h => beq_iff_eq.2 (HJ.out.2.2.2.symm.trans h.2.2)⟩, H9.out⟩
end Go.Proofs.YtllpfngmnccejaaGreat
namespace Go.Proofs.YtllpfngmnccejaaGreat
open Go Go.RowKit

def vnum (n : Int) : Vl := ⟨false, n, ⟨#[]⟩⟩
theorem vals_num (w : World) (n : Int) : Vals (w.alloc (.cells #[.bool false, .int .i64 n, .string ⟨#[]⟩] 50)) (w.alloc (.cells #[.bool false, .int .i64 n, .string ⟨#[]⟩] 50)).heap.size (some ⟨w.heap.size, 0, none⟩) [vnum n] := fun _ => by
  have ho := Own.made w 50 [.bool false, .int .i64 n, .string ⟨#[]⟩]
  refine ⟨w.heap.size, 0, rfl, by simp, fun i x hx => ?_⟩
  match i, hx with
  | 0, hx =>
    obtain rfl : vnum n = x := by simpa using hx
    exact ⟨ho.at_ 0, ho.at_ 1, ho.at_ 2⟩
def lu (G : Nat) (n d : Int) (e : Nat) : Up := ⟨none, 0, [], some ⟨G, 0, none⟩, 1, [vnum n], ⟨e, 0, 0⟩, d⟩
theorem lu_in {w : World} {G : Nat} {n d : Int} {e : Nat} (h : Vals w w.heap.size (some ⟨G, 0, none⟩) [vnum n]) : UIn w w.heap.size (lu G n d e) := ⟨Vals.nil_, h⟩
theorem lu_ok {G : Nat} {n d : Int} {e : Nat} (hn : -9223372036854775808 ≤ n ∧ n ≤ 9223372036854775807) (hd : -9223372036854775808 ≤ d ∧ d ≤ 9223372036854775807) : UOk (lu G n d e) :=
  ⟨Nat.zero_le _, by show 1 ≤ 140737488351232; omega, fun v hv => (by cases hv), fun v hv => by
    obtain rfl : v = vnum n := by simpa [lu] using hv
    exact ⟨Nat.zero_le _, hn⟩, hd⟩
theorem ups_own {w : World} {G : Nat} {t : TypeId} {l : List Up} (h : Own w G t (l.flatMap Up.cells)) (hin : ∀ u ∈ l, UIn w w.heap.size u) : Ups w w.heap.size (some ⟨G, 0, none⟩) l :=
  ⟨fun _ => ⟨G, 0, rfl, h.inside, fun i x hi j u hj => by rw [show 0 + i * 6 + j = i * 6 + j by omega, h.at_]; exact flat_of (size := 6) (cells := Up.cells) (fun _ => rfl) l i j x u hi hj⟩, hin⟩
theorem rw_own {α : Type} {w : World} {G : Nat} {t : TypeId} {l : List (Rw α)} (h : Own w G t (l.flatMap Rw.cells)) : Lies 1 Rw.cells w w.heap.size (some ⟨G, 0, none⟩) l :=
  fun _ => ⟨G, 0, rfl, h.inside, fun i x hi j u hj => by rw [show 0 + i * 1 + j = i * 1 + j by omega, h.at_]; exact flat_of (size := 1) (cells := Rw.cells) (fun _ => rfl) l i j x u hi hj⟩
theorem boxd (w : World) (l : List Value) (t : TypeId) : ∃ W, W = w.alloc (.cells l.toArray t) ∧ W.heap.size = w.heap.size + 1 ∧ Below w.heap.size w W ∧ Own W w.heap.size t l :=
  ⟨_, rfl, by simp, (Below.refl _ _).alloc (Nat.le_refl _) _, Own.made w t l⟩
/-- two updates in a row of their own -/
theorem box_two (w : World) (G1 G2 : Nat) (n1 n2 d1 d2 : Int) (e : Nat) (ei : Int) (he : (e : Int) = ei) (h1 : Vals w w.heap.size (some ⟨G1, 0, none⟩) [vnum n1]) (h2 : Vals w w.heap.size (some ⟨G2, 0, none⟩) [vnum n2]) :
    ∃ V, V = w.alloc (.cells #[.slice none 0 0, .slice (some ⟨G1, 0, none⟩) 1 1, .int .u64 0, .int .u64 0, .int .u64 0, .int .i64 d1, .slice none 0 0, .slice (some ⟨G2, 0, none⟩) 1 1, .int .u64 ei, .int .u64 0, .int .u64 0, .int .i64 d2] 48) ∧ Below w.heap.size w V ∧ Ups V V.heap.size (some ⟨w.heap.size, 0, none⟩) [lu G1 n1 d1 0, lu G2 n2 d2 e] := by
  subst he
  obtain ⟨W, e1, s1, b1, o1⟩ := boxd w [.slice none 0 0, .slice (some ⟨G1, 0, none⟩) 1 1, .int .u64 0, .int .u64 0, .int .u64 0, .int .i64 d1, .slice none 0 0, .slice (some ⟨G2, 0, none⟩) 1 1, .int .u64 (e : Int), .int .u64 0, .int .u64 0, .int .i64 d2] 48
  refine ⟨W, e1, b1, ups_own (t := 48) (l := [lu G1 n1 d1 0, lu G2 n2 d2 e]) o1 fun u hu => ?_⟩
  rcases List.mem_cons.1 hu with rfl | hu
  · exact lu_in (vals_keep h1 b1)
  · obtain rfl : u = lu G2 n2 d2 e := by simpa using hu
    exact lu_in (vals_keep h2 b1)
theorem box_lists (w : World) (A1 G3 : Nat) (l1 : List Up) (hl : l1.length = 2) (n3 d3 : Int) (h1 : Ups w w.heap.size (some ⟨A1, 0, none⟩) l1) (h3 : Vals w w.heap.size (some ⟨G3, 0, none⟩) [vnum n3]) :
    ∃ V, V = (w.alloc (.cells #[.slice none 0 0, .slice (some ⟨G3, 0, none⟩) 1 1, .int .u64 0, .int .u64 0, .int .u64 0, .int .i64 d3] 48)).alloc (.cells #[.slice (some ⟨A1, 0, none⟩) 2 2, .slice (some ⟨w.heap.size, 0, none⟩) 1 1] 22) ∧ Below w.heap.size w V ∧
      ULs V V.heap.size (some ⟨w.heap.size + 1, 0, none⟩) [⟨some ⟨A1, 0, none⟩, 2, l1⟩, ⟨some ⟨w.heap.size, 0, none⟩, 1, [lu G3 n3 d3 0]⟩] := by
  obtain ⟨W1, e1, s1, b1, o1⟩ := boxd w [.slice none 0 0, .slice (some ⟨G3, 0, none⟩) 1 1, .int .u64 0, .int .u64 0, .int .u64 0, .int .i64 d3] 48
  obtain ⟨W2, e2, s2, b2, o2⟩ := boxd W1 [.slice (some ⟨A1, 0, none⟩) 2 2, .slice (some ⟨w.heap.size, 0, none⟩) 1 1] 22
  rw [s1] at o2
  have hu3 : Ups W1 W1.heap.size (some ⟨w.heap.size, 0, none⟩) [lu G3 n3 d3 0] := ups_own (t := 48) (l := [lu G3 n3 d3 0]) o1 fun u hu => by
    obtain rfl : u = lu G3 n3 d3 0 := by simpa using hu
    exact lu_in (vals_keep h3 b1)
  refine ⟨W2, by rw [e2, e1], belows b1 b2, rw_own (t := 22) (by simp only [List.flatMap_cons, List.flatMap_nil, Rw.cells, hl]; exact o2), fun s hs => ?_⟩
  rcases List.mem_cons.1 hs with rfl | hs
  · exact (h1.keep b1).keep b2
  · obtain rfl : s = ⟨some ⟨w.heap.size, 0, none⟩, 1, [lu G3 n3 d3 0]⟩ := by simpa using hs
    exact hu3.keep b2
theorem cons0 (G1 G2 G3 : Nat) : consL [[lu G1 2 2 0, lu G2 1 1 0], [lu G3 2 (-2) 0]] = [((⟨[], [vnum 1], ⟨0, 0, 0⟩⟩ : Uk), (1 : Int))] ∧ consE [[lu G1 2 2 0, lu G2 1 1 0], [lu G3 2 (-2) 0]] = 0 := ⟨by kernel_rfl, by kernel_rfl⟩
theorem at0 (G1 G2 : Nat) : atL [lu G1 1 3 0, lu G2 1 4 2] ⟨1, 0, 0⟩ = [([vnum 1], (3 : Int))] ∧ atE [lu G1 1 3 0, lu G2 1 4 2] ⟨1, 0, 0⟩ = 0 := ⟨by kernel_rfl, by kernel_rfl⟩
theorem even0 {l : List Up} (h : l.map Up.p = [((⟨[], [vnum 1], ⟨0, 0, 0⟩⟩ : Uk), (1 : Int))]) : EvenP l := by
  have hl : l.length = 1 := by have := congrArg List.length h; simpa using this
  obtain ⟨u, rfl⟩ := List.length_eq_one_iff.1 hl
  · have hp : u.p = ((⟨[], [vnum 1], ⟨0, 0, 0⟩⟩ : Uk), (1 : Int)) := by simpa using h
    have hk : u.k = ⟨[], [vnum 1], ⟨0, 0, 0⟩⟩ := congrArg Prod.fst hp
    have hd : u.d = 1 := congrArg Prod.snd hp
    refine ⟨fun x hx => ?_, by unfold Srt; simp, ?_⟩
    · obtain rfl : x = u := by simpa using hx
      rw [hd]; decide
    · simp only [chkUs]
      unfold chkU
      rw [hk]
      exact if_pos (by kernel_rfl)
end Go.Proofs.YtllpfngmnccejaaGreat
namespace Go.Proofs.YtllpfngmnccejaaGreat
open Go Go.RowKit

def Up.less (u : Up) : Up := { u with d := -u.d }
theorem less_k (u : Up) : u.less.k = u.k := rfl
def bothU (l : List Up) : List Up := l.flatMap fun u => if -9223372036854775807 < u.d then [u, u.less] else []
theorem both_next {l : List Up} {j : Nat} {u : Up} (h : l[j]? = some u) : bothU (l.take (j + 1)) = bothU (l.take j) ++ if -9223372036854775807 < u.d then [u, u.less] else [] := by
  unfold bothU
  rw [List.take_add_one, h, List.flatMap_append]
  simp
theorem both_len (l : List Up) : (bothU l).length ≤ 2 * l.length := by
  induction l with
  | nil => simp [bothU]
  | cons u l ih =>
    have : bothU (u :: l) = (if -9223372036854775807 < u.d then [u, u.less] else []) ++ bothU l := by unfold bothU; rw [List.flatMap_cons]
    rw [this, List.length_append, List.length_cons]
    have : (if -9223372036854775807 < u.d then [u, u.less] else []).length ≤ 2 := by split <;> simp
    omega
theorem both_sum (l : List Up) (k : Uk) : sumOf Uk.cmp ((bothU l).map Up.p) k = 0 := by
  induction l with
  | nil => simp [bothU, sumOf]
  | cons u l ih =>
    have : bothU (u :: l) = (if -9223372036854775807 < u.d then [u, u.less] else []) ++ bothU l := by unfold bothU; rw [List.flatMap_cons]
    rw [this, List.map_append, sumOf_append, ih]
    split
    · simp only [List.map_cons, List.map_nil]
      rw [show u.less.p = (u.k, -u.d) from rfl, show u.p = (u.k, u.d) from rfl]
      simp only [sumOf]
      split <;> omega
    · simp [sumOf]
theorem nz_none {K : Type} {cmp : K → K → Int} {R : K → Prop} (L : Lin cmp R) {l : List (K × Int)} (hR : ∀ x ∈ l, R x.1) (h : ∀ k, sumOf cmp l k = 0) : nz cmp l = [] :=
  List.eq_nil_iff_forall_not_mem.2 fun y hy => by
    obtain ⟨_, h2, h3⟩ := (nz_mem L hR y).1 hy
    exact h3 (h2.trans (h _))
theorem both_none (l : List Up) : consL [bothU l] = [] := by
  unfold consL
  split
  · rename_i hc
    have hc := chkLs_all.1 hc (bothU l) (by simp)
    unfold resL
    split
    · rw [List.flatten_cons, List.flatten_nil, List.append_nil]
      exact nz_none uk_lin (fun x hx => by
        obtain ⟨u, hu, rfl⟩ := List.mem_map.1 hx
        exact chkUs_all.1 hc u hu) (both_sum l)
    · rfl
  · rfl
theorem less_ok {u : Up} (h : UOk u) (hd : -9223372036854775807 < u.d) : UOk u.less := ⟨h.kn, h.rn, h.ks, h.rs, by show -9223372036854775808 ≤ -u.d ∧ -u.d ≤ 9223372036854775807; have := h.dn; omega⟩
theorem both_ok {l : List Up} (h : ∀ u ∈ l, UOk u) : ∀ u ∈ bothU l, UOk u := fun u hu => by
  obtain ⟨x, hx, hux⟩ := List.mem_flatMap.1 hu
  split at hux
  · rename_i hd
    rcases List.mem_cons.1 hux with rfl | hux
    · exact h _ hx
    · obtain rfl : u = x.less := by simpa using hux
      exact less_ok (h x hx) hd
  · cases hux
theorem both_in {w : World} {B : Nat} {l : List Up} (h : ∀ u ∈ l, UIn w B u) : ∀ u ∈ bothU l, UIn w B u := fun u hu => by
  obtain ⟨x, hx, hux⟩ := List.mem_flatMap.1 hu
  split at hux
  · rcases List.mem_cons.1 hux with rfl | hux
    · exact h _ hx
    · obtain rfl : u = x.less := by simpa using hux
      exact ⟨(h x hx).key, (h x hx).row⟩
  · cases hux
/-- two updates in a block of their own -/
theorem pair_up (w : World) (u v : Up) : Lies 6 Up.cells (w.alloc (.cells #[.slice u.kA u.key.length u.kc, .slice u.rA u.row.length u.rc, .int .u64 (u.t.e : Int), .int .u64 (u.t.a : Int), .int .u64 (u.t.b : Int), .int .i64 u.d, .slice v.kA v.key.length v.kc, .slice v.rA v.row.length v.rc, .int .u64 (v.t.e : Int), .int .u64 (v.t.a : Int), .int .u64 (v.t.b : Int), .int .i64 v.d] 48)) (w.heap.size + 1) (some ⟨w.heap.size, 0, none⟩) [u, v] := fun _ =>
  ⟨w.heap.size, 0, rfl, Nat.lt_succ_self _, fun i x hi j y hj => by
    rw [show 0 + i * 6 + j = i * 6 + j by omega]
    exact ((Own.made w 48 ([u, v].flatMap Up.cells)).at_ _).trans (flat_of (size := 6) (cells := Up.cells) (fun _ => rfl) [u, v] i j x y hi hj)⟩
theorem one_list (w : World) (A : Option Addr) (c : Nat) (l : List Up) (h : Ups w w.heap.size A l) : ∃ V, V = w.alloc (.cells #[.slice A l.length c] 22) ∧ Below w.heap.size w V ∧ ULs V V.heap.size (some ⟨w.heap.size, 0, none⟩) [⟨A, c, l⟩] := by
  obtain ⟨W, e1, s1, b1, o1⟩ := boxd w [.slice A l.length c] 22
  refine ⟨W, e1, b1, rw_own (t := 22) o1, fun s hs => ?_⟩
  obtain rfl : s = ⟨A, c, l⟩ := by simpa using hs
  exact h.keep b1
theorem two_lists (w : World) (A A' : Option Addr) (c c' : Nat) (l m : List Up) (h : Ups w w.heap.size A l) (h' : Ups w w.heap.size A' m) : ∃ V, V = w.alloc (.cells #[.slice A l.length c, .slice A' m.length c'] 22) ∧ Below w.heap.size w V ∧ ULs V V.heap.size (some ⟨w.heap.size, 0, none⟩) [⟨A, c, l⟩, ⟨A', c', m⟩] := by
  obtain ⟨W, e1, s1, b1, o1⟩ := boxd w [.slice A l.length c, .slice A' m.length c'] 22
  refine ⟨W, e1, b1, rw_own (t := 22) o1, fun s hs => ?_⟩
  rcases List.mem_cons.1 hs with rfl | hs
  · exact h.keep b1
  · obtain rfl : s = ⟨A', c', m⟩ := by simpa using hs
    exact h'.keep b1
end Go.Proofs.YtllpfngmnccejaaGreat
namespace Go.Proofs.YtllpfngmnccejaaGreat
open Go Go.RowKit

section
variable {K : Type} {cmp : K → K → Int}
theorem ins_len (x : K × Int) : ∀ l : List (K × Int), (ins cmp x l).length ≤ l.length + 1
  | [] => by simp [ins]
  | y :: t => by
    unfold ins
    have := ins_len x t
    repeat' split
    all_goals simp only [List.length_cons] at *
    all_goals omega
theorem asmF_len : ∀ (l a : List (K × Int)), (asmF cmp a l).length ≤ a.length + l.length
  | [], a => by simp [asmF]
  | x :: l, a => by
    have h1 := asmF_len l (ins cmp x a)
    have h2 := ins_len (cmp := cmp) x a
    show (asmF cmp (ins cmp x a) l).length ≤ _
    rw [List.length_cons]
    omega
theorem nz_len (l : List (K × Int)) : (nz cmp l).length ≤ l.length := by
  unfold nz asm
  have h1 := List.length_filter_le (fun x : K × Int => x.2 != 0) (asmF cmp [] l)
  have h2 := asmF_len (cmp := cmp) l []
  simp only [List.length_nil] at h2
  omega
theorem resL_len (l : List (K × Int)) : (resL cmp l).length ≤ l.length := by
  unfold resL
  split
  · exact nz_len l
  · simp
theorem resE_ne {l : List (K × Int)} (h : resE cmp l ≠ 0) : resL cmp l = [] := by
  unfold resE at h
  unfold resL
  split at h
  · exact absurd rfl h
  · rename_i h1; rw [if_neg h1]
theorem resE_zero {l : List (K × Int)} (h : resE cmp l = 0) : resL cmp l = nz cmp l ∧ (asm cmp l).all (fun x => fits x.2) = true := by
  unfold resE at h
  unfold resL
  split at h
  · rename_i h1; exact ⟨if_pos h1, h1⟩
  · omega
theorem res_again {R : K → Prop} (L : Lin cmp R) {l : List (K × Int)} (hl : ∀ x ∈ l, R x.1) (h : resE cmp l = 0) : resL cmp (resL cmp l) = resL cmp l ∧ resE cmp (resL cmp l) = 0 := by
  obtain ⟨h1, h2⟩ := resE_zero h
  have h3 : (asm cmp (nz cmp l)).all (fun x => fits x.2) = true := by rw [fit_all, nz_nz L hl, ← fit_all]; exact h2
  rw [h1]
  unfold resL resE
  rw [if_pos h3, if_pos h3, nz_nz L hl]
  exact ⟨rfl, rfl⟩
end
theorem consE_ne {L : List (List Up)} (h : consE L ≠ 0) : consL L = [] := by
  unfold consE at h
  unfold consL
  split at h
  · rename_i h1; rw [if_pos h1]; exact resE_ne h
  · rename_i h1; rw [if_neg h1]
theorem consL_len (L : List (List Up)) : (consL L).length ≤ L.flatten.length := by
  unfold consL
  split
  · have := resL_len (cmp := Uk.cmp) (L.flatten.map Up.p); rwa [List.length_map] at this
  · simp
theorem chk_all {L : List (List Up)} : chkLs L = 0 ↔ ∀ u ∈ L.flatten, chkU u = 0 := by
  rw [chkLs_all]
  constructor
  · intro h u hu
    obtain ⟨l, hl, hul⟩ := List.mem_flatten.1 hu
    exact chkUs_all.1 (h l hl) u hul
  · intro h l hl
    exact chkUs_all.2 fun u hu => h u (List.mem_flatten.2 ⟨l, hl, hu⟩)
theorem keys_right {l : List Up} (h : ∀ u ∈ l, chkU u = 0) : ∀ x ∈ l.map Up.p, UkR x.1 := fun x hx => by
  obtain ⟨u, hu, rfl⟩ := List.mem_map.1 hx
  exact h u hu
/-- the same updates, in whatever order and lists -/
theorem cons_perm {L M : List (List Up)} (h : L.flatten.Perm M.flatten) : (consE L = 0 ↔ consE M = 0) ∧ consL L = consL M := by
  by_cases h1 : chkLs L = 0
  · have h2 : chkLs M = 0 := chk_all.2 fun u hu => chk_all.1 h1 u (h.mem_iff.2 hu)
    have := resL_ext uk_lin (keys_right (chk_all.1 h1)) (keys_right (chk_all.1 h2)) fun k => sumOf_perm (h.map Up.p) k
    unfold consE consL
    rw [if_pos h1, if_pos h2, if_pos h1, if_pos h2, this.1, this.2]
    exact ⟨Iff.rfl, rfl⟩
  · have h2 : chkLs M ≠ 0 := fun h2 => h1 (chk_all.2 fun u hu => chk_all.1 h2 u (h.mem_iff.1 hu))
    unfold consE consL
    rw [if_neg h1, if_neg h2, if_neg h1, if_neg h2]
    exact ⟨⟨fun h => absurd h h1, fun h => absurd h h2⟩, rfl⟩
theorem cons_chk {L : List (List Up)} (h : consE L = 0) : chkLs L = 0 ∧ resE Uk.cmp (L.flatten.map Up.p) = 0 ∧ consL L = resL Uk.cmp (L.flatten.map Up.p) := by
  unfold consE at h
  split at h
  · rename_i h1; exact ⟨h1, h, by unfold consL; rw [if_pos h1]⟩
  · rename_i h1; exact absurd h h1
theorem cons_even {L : List (List Up)} {x : List Up} (h : consE L = 0) (hx : x.map Up.p = consL L) : EvenP x := by
  obtain ⟨h1, h2, h3⟩ := cons_chk h
  obtain ⟨h4, _⟩ := resE_zero h2
  rw [h3, h4] at hx
  refine ⟨fun u hu h0 => ?_, by rw [hx]; exact nz_srt uk_lin _, chkUs_all.2 fun u hu => ?_⟩
  · have : u.p ∈ nz Uk.cmp (L.flatten.map Up.p) := by rw [← hx]; exact List.mem_map.2 ⟨u, hu, rfl⟩
    exact ((nz_mem uk_lin (keys_right (chk_all.1 h1)) _).1 this).2.2 h0
  · have : u.p ∈ nz Uk.cmp (L.flatten.map Up.p) := by rw [← hx]; exact List.mem_map.2 ⟨u, hu, rfl⟩
    exact nz_right (R := UkR) (keys_right (chk_all.1 h1)) _ this
theorem cons_again {L : List (List Up)} {x : List Up} (h : consE L = 0) (hx : x.map Up.p = consL L) : consL [x] = consL L ∧ consE [x] = 0 := by
  obtain ⟨h1, h2, h3⟩ := cons_chk h
  have hc : chkLs [x] = 0 := chkLs_all.2 fun l hl => by
    obtain rfl : l = x := by simpa using hl
    exact (cons_even h hx).2.2
  have := res_again uk_lin (keys_right (chk_all.1 h1)) h2
  unfold consL consE at *
  rw [if_pos hc, if_pos hc]
  simp only [List.flatten_cons, List.flatten_nil, List.append_nil]
  rw [hx, if_pos h1]
  exact this
/-- a list from its end down to k -/
def upsT (l : List Up) (k : Nat) : List Up := (l.drop k).reverse
theorem upsT_end (l : List Up) : upsT l l.length = [] := by unfold upsT; simp
theorem upsT_next {l : List Up} {k : Nat} {u : Up} (h : l[k]? = some u) : upsT l k = upsT l (k + 1) ++ [u] := by
  unfold upsT
  obtain ⟨hk, rfl⟩ := List.getElem?_eq_some_iff.1 h
  rw [List.drop_eq_getElem_cons hk, List.reverse_cons]
theorem upsT_zero (l : List Up) : upsT l 0 = l.reverse := by unfold upsT; rw [List.drop_zero]
theorem upsT_len (l : List Up) (k : Nat) : (upsT l k).length ≤ l.length := by unfold upsT; simp
theorem upsT_perm (a b : List Up) : ([a, b] : List (List Up)).flatten.Perm ([upsT b 0 ++ a] : List (List Up)).flatten := by
  simp only [List.flatten_cons, List.flatten_nil, List.append_nil]
  rw [upsT_zero]
  exact List.perm_append_comm.trans (List.Perm.append_right a (List.reverse_perm b).symm)
theorem up_made (w : World) (u : Up) : Lies 6 Up.cells (w.alloc (.cells #[.slice u.kA u.key.length u.kc, .slice u.rA u.row.length u.rc, .int .u64 (u.t.e : Int), .int .u64 (u.t.a : Int), .int .u64 (u.t.b : Int), .int .i64 u.d] 48)) (w.heap.size + 1) (some ⟨w.heap.size, 0, none⟩) [u] := fun _ =>
  ⟨w.heap.size, 0, rfl, Nat.lt_succ_self _, fun i x hi j y hj => by
    rw [show 0 + i * 6 + j = i * 6 + j by omega]
    exact ((Own.made w 48 ([u].flatMap Up.cells)).at_ _).trans (flat_of (size := 6) (cells := Up.cells) (fun _ => rfl) [u] i j x y hi hj)⟩
end Go.Proofs.YtllpfngmnccejaaGreat
namespace Go.Proofs.YtllpfngmnccejaaGreat
open Go Go.RowKit

def wideV (S : Int) : Value := .agg #[.int .i64 (S / 18446744073709551616), .int .u64 (loW S)]
set_option maxRecDepth 100000 in
set_option maxHeartbeats 800000 in
theorem plus_any (S n : Int) (w : World) (h1 : -9223372036854775808 ≤ n) (h2 : n ≤ 9223372036854775807) (h3 : -85070591730234615865843651857942052864 ≤ S) (h4 : S < 85070591730234615865843651857942052864) :
    Calls Tryz.prog 78 #[.agg #[.int .i64 (S / 18446744073709551616), .int .u64 (loW S)], .int .i64 n] w fun e w' => e = .returned (.agg #[.int .i64 ((S + n) / 18446744073709551616), .int .u64 (loW (S + n))]) ∧ Below w.heap.size w w' := by
  have l0 := loW_bound S
  have e1 : IntKind.u64.wrap (loW S + IntKind.u64.wrap n) = loW (S + n) := by rw [wrapU, wrapU]; unfold loW; omega
  have q0 : 0 ≤ S / 18446744073709551616 + 4611686018427387904 := by omega
  have q1 : S / 18446744073709551616 < 4611686018427387904 := by omega
  have e2 : ((loW (S + n) < loW S ∧ n < 0 → (S + n) / 18446744073709551616 = S / 18446744073709551616) ∧ (loW (S + n) < loW S ∧ 0 ≤ n → (S + n) / 18446744073709551616 = S / 18446744073709551616 + 1)) ∧ ((loW S ≤ loW (S + n) ∧ n < 0 → (S + n) / 18446744073709551616 = S / 18446744073709551616 - 1) ∧ (loW S ≤ loW (S + n) ∧ 0 ≤ n → (S + n) / 18446744073709551616 = S / 18446744073709551616)) := by unfold loW; omega
  generalize S / 18446744073709551616 = H at *
  generalize (S + n) / 18446744073709551616 = H' at *
  generalize loW (S + n) = L at *
  generalize loW S = L0 at *
  have HE := Lib.hid e2
  clear e2
  go_enter Tryz.func78, Tryz.ntmps78
  go_wp2_with fail
  all_goals
    have e2 := HE.out
    exact bodyPost_ret (v := .agg #[.int .i64 H', .int .u64 L]) (by simp [results, Tryz.results78, go_sem]; omega) rfl ⟨rfl, ((Below.refl _ _).alloc (Nat.le_refl _) _).alloc (by simp) _⟩
set_option maxRecDepth 100000 in
set_option maxHeartbeats 800000 in
theorem fit_any (S : Int) (w : World) (h3 : -85070591730234615865843651857942052864 ≤ S) (h4 : S < 85070591730234615865843651857942052864) :
    Calls Tryz.prog 79 #[.agg #[.int .i64 (S / 18446744073709551616), .int .u64 (loW S)]] w fun e w' => e = .returned (.tuple #[.int .i64 (fitN S), .int .i64 (fitE S)]) ∧ Below w.heap.size w w' := by
  obtain ⟨l1, l2⟩ := loW_bound S
  have e0 : wrap64 (loW S) = sg (loW S) := wrapS _ l1 l2
  have hs := Lib.hid (sg_lo S)
  have hs2 : S / 18446744073709551616 = 0 ∧ 0 ≤ sg (loW S) ∨ S / 18446744073709551616 = -1 ∧ sg (loW S) < 0 ↔ fits S = true := by
    rw [fits_iff]; unfold sg loW; split <;> omega
  have HS := Lib.hid hs2
  clear hs2 l1 l2
  go_enter Tryz.func79, Tryz.ntmps79
  go_wp2_with fail
  all_goals
    go_ret2
    refine ⟨?_, (Below.refl _ _).alloc (Nat.le_refl _) _⟩
    have hs2 := HS.out
    by_cases hf : fits S = true
    · have h6 := hs.out hf
      have h7 := hs2.2 hf
      first
      | (exfalso; omega)
      | (unfold fitN fitE; rw [hf, h6]; rfl)
    · have h7 := mt hs2.1 hf
      first
      | (exfalso; omega)
      | (unfold fitN fitE; simp [hf])
end Go.Proofs.YtllpfngmnccejaaGreat
namespace Go.Proofs.YtllpfngmnccejaaGreat
open Go Go.RowKit

theorem flat_set {α : Type} {size : Nat} {cells : α → List Value} (hcl : ∀ x, (cells x).length = size) : ∀ (X : List α) (k r : Nat) (u : α) (v : Value), X[k]? = some u → r < size → (X.flatMap cells).set (k * size + r) v = (X.take k).flatMap cells ++ ((cells u).set r v ++ (X.drop (k + 1)).flatMap cells)
  | [], k, r, u, v, h, _ => by simp at h
  | x :: X, 0, r, u, v, h, hr => by
    obtain rfl : x = u := by simpa using h
    rw [List.flatMap_cons, Nat.zero_mul, Nat.zero_add, List.set_append_left _ _ (by rw [hcl]; exact hr)]
    simp
  | x :: X, k + 1, r, u, v, h, hr => by
    have ih := flat_set hcl X k r u v (by simpa using h) hr
    rw [List.flatMap_cons, List.set_append_right _ _ (by rw [hcl, Nat.add_mul]; omega), hcl, show (k + 1) * size + r - size = k * size + r by rw [Nat.add_mul]; omega, ih]
    simp
theorem flat_part {α : Type} {cells : α → List Value} {X : List α} {k : Nat} {u : α} (h : X[k]? = some u) : X.flatMap cells = (X.take k).flatMap cells ++ (cells u ++ (X.drop (k + 1)).flatMap cells) := by
  obtain ⟨hk, rfl⟩ := List.getElem?_eq_some_iff.1 h
  have e : X = X.take k ++ X[k] :: X.drop (k + 1) := by rw [← List.drop_eq_getElem_cons hk, List.take_append_drop]
  have e := congrArg (fun Y : List α => Y.flatMap cells) e
  simp only [List.flatMap_append, List.flatMap_cons] at e
  exact e
theorem flat_change {α : Type} {cells : α → List Value} {X : List α} {k : Nat} {u u' : α} (h : X[k]? = some u) : (X.set k u').flatMap cells = (X.take k).flatMap cells ++ (cells u' ++ (X.drop (k + 1)).flatMap cells) := by
  obtain ⟨hk, rfl⟩ := List.getElem?_eq_some_iff.1 h
  rw [List.set_eq_take_append_cons_drop, if_pos hk]
  simp
theorem flat_sets {α : Type} {size : Nat} {cells : α → List Value} (hcl : ∀ x, (cells x).length = size) {X : List α} {k : Nat} {u : α} (h : X[k]? = some u) (c : List Value) (hc : c.length = size) (r : Nat) (v : Value) (hr : r < size) :
    ((X.take k).flatMap cells ++ (c ++ (X.drop (k + 1)).flatMap cells)).set (k * size + r) v = (X.take k).flatMap cells ++ (c.set r v ++ (X.drop (k + 1)).flatMap cells) := by
  have hk := (List.getElem?_eq_some_iff.1 h).1
  have hl : ((X.take k).flatMap cells).length = k * size := by rw [flat_size hcl, List.length_take, Nat.min_eq_left (by omega)]
  rw [List.set_append_right _ _ (by rw [hl]; omega), hl, Nat.add_sub_cancel_left, List.set_append_left _ _ (by rw [hc]; exact hr)]
end Go.Proofs.YtllpfngmnccejaaGreat
namespace Go.Proofs.YtllpfngmnccejaaGreat
open Go Go.RowKit

section
variable {α K : Type} {cmp : K → K → Int} {k : α → K}
theorem lsplit_at {β : Type} {P : List β} {i : Nat} {y : β} (h : P[i]? = some y) : P = P.take i ++ y :: P.drop (i + 1) := by
  obtain ⟨hi, rfl⟩ := List.getElem?_eq_some_iff.1 h
  conv => lhs; rw [← List.take_append_drop i P, List.drop_eq_getElem_cons hi]
theorem ins_same (P : List (Ln α)) (i : Nat) (x : K × Int) (y : Ln α) (h : ∀ z ∈ P.take i, cmp (k z.u) x.1 < 0) (hy : P[i]? = some y) (h0 : cmp (k y.u) x.1 = 0) : (P.set i ⟨y.S + x.2, y.u⟩).map (pL k) = ins cmp x (P.map (pL k)) := by
  have hi := (List.getElem?_eq_some_iff.1 hy).1
  rw [List.set_eq_take_append_cons_drop, if_pos hi]
  conv => rhs; rw [lsplit_at hy]
  rw [List.map_append, List.map_append, ins_skip x _ _ fun z hz => by
    obtain ⟨p, hp, rfl⟩ := List.mem_map.1 hz
    exact h p hp]
  rw [List.map_cons, List.map_cons]
  show _ = (P.take i).map (pL k) ++ (if cmp (k y.u) x.1 = 0 then _ else _)
  rw [if_pos h0]
  rfl
theorem ins_new (P : List (Ln α)) (i : Nat) (u : α) (n : Int) (h : ∀ z ∈ P.take i, cmp (k z.u) (k u) < 0) (hy : ∀ y, P[i]? = some y → 0 < cmp (k y.u) (k u)) : (P.take i ++ ⟨n, u⟩ :: P.drop i).map (pL k) = ins cmp (k u, n) (P.map (pL k)) := by
  conv => rhs; rw [← List.take_append_drop i P]
  rw [List.map_append, List.map_append, ins_skip (k u, n) _ _ fun z hz => by
    obtain ⟨p, hp, rfl⟩ := List.mem_map.1 hz
    exact h p hp]
  congr 1
  cases hd : P.drop i with
  | nil => rfl
  | cons y t =>
    have hy0 : P[i]? = some y := by
      have := congrArg List.head? hd
      rw [List.head?_drop] at this
      exact this
    have h1 := hy y hy0
    rw [List.map_cons, List.map_cons]
    show _ = if cmp (k y.u) (k u) = 0 then _ else if cmp (k y.u) (k u) < 0 then _ else _
    rw [if_neg (by omega), if_neg (by omega)]
    rfl
theorem set_new {β : Type} (P : List β) (i : Nat) (hi : i ≤ P.length) (y z : β) : (P.take i ++ y :: P.drop i).set i z = P.take i ++ z :: P.drop i := by
  rw [List.set_append_right _ _ (by rw [List.length_take]; omega), List.length_take, Nat.min_eq_left hi, Nat.sub_self]
  rfl
theorem get_new {β : Type} (P : List β) (i : Nat) (hi : i ≤ P.length) (y : β) : (P.take i ++ y :: P.drop i)[i]? = some y := by
  rw [List.getElem?_append_right (by rw [List.length_take]; omega), List.length_take, Nat.min_eq_left hi, Nat.sub_self]
  rfl
end
def wcells (S : Int) : List Value := [.int .i64 (S / 18446744073709551616), .int .u64 (loW S)]
theorem wcells_len (S : Int) : (wcells S).length = 2 := rfl
theorem wcells_one (S : Int) : ∀ v ∈ wcells S, v.oneCell' = true := by
  intro v hv
  simp only [wcells, List.mem_cons, List.not_mem_nil, or_false] at hv
  rcases hv with rfl | rfl <;> rfl
theorem wcells_zero : wcells 0 = [.int .i64 0, .int .u64 0] := by unfold wcells loW; rfl
theorem set_wide {X : List Int} {k : Nat} {S : Int} (h : X[k]? = some S) (n : Int) :
    ((X.flatMap wcells).set (k * 2 + 0) (.int .i64 (n / 18446744073709551616))).set (k * 2 + 1) (.int .u64 (loW n)) = (X.set k n).flatMap wcells := by
  rw [flat_change h, flat_part h, flat_sets (size := 2) wcells_len h _ rfl 0 _ (by decide), flat_sets (size := 2) wcells_len h _ rfl 1 _ (by decide)]
  rfl
theorem set_same {β : Type} {l : List β} {i : Nat} {x : β} (h : l[i]? = some x) : l.set i x = l := by obtain ⟨hi, rfl⟩ := List.getElem?_eq_some_iff.1 h; exact List.set_getElem_self hi
theorem asm_snoc {K : Type} {cmp : K → K → Int} (l : List (K × Int)) (x : K × Int) : asm cmp (l ++ [x]) = ins cmp x (asm cmp l) := by unfold asm asmF; rw [List.foldl_append]; rfl
end Go.Proofs.YtllpfngmnccejaaGreat
namespace Go.Proofs.YtllpfngmnccejaaGreat
open Go Go.RowKit

set_option maxRecDepth 100000 in
set_option maxHeartbeats 1600000 in
theorem vcopy_any (A : Option Addr) (c : Nat) (l : List Vl) (w : World) (hl : Vals w w.heap.size A l) (hn : l.length ≤ 1099511627776) :
    Calls Tryz.prog 70 #[.slice A l.length c] w fun x w' => ∃ A' c', x = .returned (.slice A' l.length c') ∧ Vals w' w'.heap.size A' l ∧ Below w.heap.size w w' ∧ (∀ b o, A' = some ⟨b, o, none⟩ → w.heap.size ≤ b ∧ b < w'.heap.size) := by
  have hr0 := Lib.hid (show (w.alloc (.cells #[] 50)).ownsRow w.heap.size 50 3 (.slice (some ⟨w.heap.size, 0, none⟩) 0 0) 0 [] from World.ownsRow_made w #[] 0 (Nat.le_refl _) (Nat.zero_le _) rfl)
  have hv := Lib.hid (hl.past ((Below.refl _ w).alloc (Nat.le_refl _) (.cells #[] 50)) (Nat.le_refl _))
  clear hl
  go_enter Tryz.func70, Tryz.ntmps70
  go_wp2_with (at_builtin; refine wpList_append_vl _ rfl _ _ rfl w.heap.size _ _ _ rfl hr0.out w.heap.size A c l rfl hv.out ?m1 ?m2 ?m3)
  case m1 => omega
  case m2 => simp
  intro v' w' ho' hb'
  have hlt := ho'.lt
  obtain ⟨A', c', rfl, _, _, h3⟩ := vals_of_own (l := l) (n := 0 + l.length) (by omega) (by simpa using ho')
  have HA := Lib.hid (And.intro h3 (And.intro (((Below.refl _ w).alloc (Nat.le_refl _) (.cells #[] 50)).trans hb') (show ∀ b o, A' = some ⟨b, o, none⟩ → w.heap.size ≤ b ∧ b < w'.heap.size from fun b o e => by subst e; exact hlt b rfl)))
  clear ho' hb' h3 hlt
  go_wp2_with fail
  go_ret
  exact ⟨A', c', rfl, HA.out.1, HA.out.2.1, HA.out.2.2⟩
theorem own_zeroth {w : World} {P : Nat} {t : TypeId} {z0 z1 z2 z3 z4 z5 : Value} (h : Own w P t [z0, z1, z2, z3, z4, z5]) (f : Value) :
    ∃ X, X = w.setCell ⟨P, 0, none⟩ f ∧ Own X P t [f, z1, z2, z3, z4, z5] ∧ (∀ B u, Below B u w → B ≤ P → Below B u X) ∧ X.heap.size = w.heap.size ∧ (∀ b, b ≠ P → X.heap[b]? = w.heap[b]?) :=
  ⟨_, rfl, h.set_ 0 f, fun B u hb hB => hb.setCell (p := ⟨P, 0, none⟩) hB _, by simp [World.setCell], fun b hb => Below.heap_setCell w ⟨P, 0, none⟩ f b hb⟩
theorem own_first {w : World} {P : Nat} {t : TypeId} {z0 z1 z2 z3 z4 z5 : Value} (h : Own w P t [z0, z1, z2, z3, z4, z5]) (f : Value) :
    ∃ X, X = w.setCell ⟨P, 1, none⟩ f ∧ Own X P t [z0, f, z2, z3, z4, z5] ∧ (∀ B u, Below B u w → B ≤ P → Below B u X) ∧ X.heap.size = w.heap.size ∧ (∀ b, b ≠ P → X.heap[b]? = w.heap[b]?) :=
  ⟨_, rfl, h.set_ 1 f, fun B u hb hB => hb.setCell (p := ⟨P, 1, none⟩) hB _, by simp [World.setCell], fun b hb => Below.heap_setCell w ⟨P, 1, none⟩ f b hb⟩
theorem vals_but {w X : World} {P : Nat} {A : Option Addr} {l : List Vl} (h : Vals w w.heap.size A l) (hA : ∀ b o, A = some ⟨b, o, none⟩ → b ≠ P) (hs : X.heap.size = w.heap.size) (hX : ∀ b, b ≠ P → X.heap[b]? = w.heap[b]?) : Vals X X.heap.size A l := fun hp => by
  obtain ⟨b, o, e, hb, hc⟩ := h hp
  have hk : ∀ j, X.cell? ⟨b, j, none⟩ = w.cell? ⟨b, j, none⟩ := fun j => by unfold World.cell?; rw [hX b (hA b o e)]
  refine ⟨b, o, e, by omega, fun i v hi => ?_⟩
  obtain ⟨a0, a1, a2⟩ := hc i v hi
  exact ⟨(hk _).trans a0, (hk _).trans a1, (hk _).trans a2⟩
def Copied (l : List Up) (w : World) (x : Ending) (w' : World) : Prop :=
  ∃ A c, ∃ outL : List Up, x = .returned (.slice A outL.length c) ∧ outL.map Up.p = l.map Up.p ∧ Ups w' w'.heap.size A outL ∧ (∀ u ∈ outL, UOk u) ∧ Below w.heap.size w w'
/-- the same, and that it is a row of the call's own -/
def CopiedOwn (l : List Up) (w : World) (x : Ending) (w' : World) : Prop :=
  ∃ v, ∃ outL : List Up, x = .returned v ∧ outL.map Up.p = l.map Up.p ∧ w'.ownsRow w.heap.size 48 6 v outL.length (outL.flatMap Up.cells) ∧ (∀ u ∈ outL, UIn w' w'.heap.size u ∧ UOk u ∧ Far w.heap.size v w' u) ∧ Below w.heap.size w w'
theorem copy_snoc {l outL : List Up} {j : Nat} {u u' : Up} (h : l[j]? = some u) (hm : outL.map Up.p = (l.take j).map Up.p) (e : u'.p = u.p) : (outL ++ [u']).map Up.p = (l.take (j + 1)).map Up.p := by
  rw [List.take_add_one, h, List.map_append, List.map_append, hm]
  simp [e]
theorem infoUp' : (Tryz.prog.info? 48).map (fun i => (i.zero, i.size, i.bytes)) = some (some (.agg #[.slice none 0 0, .slice none 0 0, .int .u64 0, .int .u64 0, .int .u64 0, .int .i64 0]), 6, 80) := by kernel_rfl
set_option maxRecDepth 100000 in
set_option maxHeartbeats 6400000 in
theorem copyU_own (A : Option Addr) (c : Nat) (l : List Up) (w : World) (hl : Ups w w.heap.size A l) (hok : ∀ u ∈ l, UOk u) (h8 : ∀ u ∈ l, u.key.length ≤ 1099511627776 ∧ u.row.length ≤ 1099511627776) (hn : l.length ≤ 1099511627776) :
    Calls Tryz.prog 26 #[.slice A l.length c] w (CopiedOwn l w) := by
  obtain ⟨i0, hi, hz0, hz1, hz2⟩ := info_parts infoUp'
  have HI := Lib.hid (And.intro Tryz.underlying22 (And.intro hi (And.intro hz0 (And.intro hz1 hz2))))
  have HL := Lib.hid (And.intro hl (And.intro hok h8))
  clear hl hok h8 hi hz0 hz1 hz2
  go_enter Tryz.func26, Tryz.ntmps26
  go_wp2_with fail
  go_loopw [3, 8] (fun v3 v8 wr => ∃ (j : Nat) (outL : List Up), v8 = .int .i64 (j : Int) ∧ j ≤ l.length ∧ outL.length = j ∧ wr.ownsRow w.heap.size 48 6 v3 outL.length (outL.flatMap Up.cells) ∧ (∀ u ∈ outL, UIn wr wr.heap.size u ∧ UOk u ∧ Far w.heap.size v3 wr u) ∧ outL.map Up.p = (l.take j).map Up.p ∧ Below w.heap.size w wr)
    (fun _ v8 _ => l.length - (intOf v8).toNat)
  case atStart => exact ⟨0, [], rfl, by omega, rfl, World.ownsRow_nil _ _ _ _, fun u hu => (by cases hu), rfl, Below.refl _ _⟩
  case round =>
    obtain ⟨j, outL, rfl, hj, hlen, hown, hout, hmap, hb⟩ := hrel
    obtain ⟨wi, hwi⟩ : ∃ wi, wi = wr := ⟨_, rfl⟩
    subst hwi
    by_cases hjt : j < l.length
    · have hy : l[j]? = some l[j] := List.getElem?_eq_getElem hjt
      have hym := List.mem_of_getElem? hy
      generalize l[j] = u at *
      obtain ⟨g, o, rfl, hB, hys⟩ := lies_up HL.out.1.head (by omega)
      obtain ⟨e0, e1, e2, e3, e4, e5⟩ := ((hys j u hy).past_ hb hB).six
      obtain ⟨V, hV, hvb, hvs, hvo⟩ := upbox wi u
      have hinV : UIn V V.heap.size u := ((((HL.out.1.each_ u hym).past hb (Nat.le_refl _)).wide hb.size).keep hvb)
      have h8 := HL.out.2.2 u hym
      have z1 := Lib.hid (vcopy_any u.kA u.kc u.key V hinV.key (by omega))
      have HV := Lib.hid (And.intro (hb.trans (hvb.mono hb.size)) (And.intro hvo (And.intro hinV (And.intro hy (And.intro (HL.out.2.1 u hym) (And.intro hvb hvs))))))
      have HO := Lib.hid (And.intro hown (And.intro hout (And.intro hmap (And.intro hb hlen))))
      have HW := Lib.hid (((HL.out.1.each_ u hym).past hb (Nat.le_refl _)).wide hb.size)
      have q3 : (0 : Int) ≤ (j : Int) := by omega
      have q4 : (j : Int) < (l.length : Int) := by omega
      have q5 : decide ((j : Int) < (l.length : Int)) = true := decide_eq_true q4
      clear hy hym hys hvb hvs hinV hown hout hmap hb
      go_upto_region 5 with fail
      rw [← hV]
      clear hV e0 e1 e2 e3 e4 e5
      obtain ⟨e0, e1, e2, e3, e4, e5⟩ := own6 hvo
      clear hvo
      go_wp2_with fail
      refine z1.out.mono ?_
      rintro _ w1 ⟨A1, k1, rfl, hv1, b1, hf1⟩
      have ho1 := HV.out.2.1.past b1 HV.out.2.1.inside
      obtain ⟨X1, hX1, hxo1, hxb1, hxs1, hxr1⟩ := own_zeroth ho1 (.slice A1 u.key.length k1)
      have hfz := (own_frozen6 ho1).1
      have hc0 := (own6 ho1).1
      have hbX1 : Below wi.heap.size wi X1 := hxb1 _ _ (HV.out.2.2.2.2.2.1.trans (b1.mono HV.out.2.2.2.2.2.1.size)) (Nat.le_refl _)
      have hrow1 : Vals X1 X1.heap.size u.rA u.row := (HW.out.row.past hbX1 (Nat.le_refl _)).wide hbX1.size
      have hne : ∀ b, V.heap.size ≤ b → b ≠ wi.heap.size := fun b h => by have := HV.out.2.2.2.2.2.2; omega
      have hkey1 := vals_but hv1 (fun b o e => hne b (hf1 b o e).1) hxs1 hxr1
      have z2 := Lib.hid (vcopy_any u.rA u.rc u.row X1 hrow1 (by omega))
      have H1 := Lib.hid (And.intro hbX1 (And.intro hxo1 (And.intro hkey1 (And.intro (fun b o (e : A1 = some ⟨b, o, none⟩) => (⟨(hf1 b o e).1, by rw [hxs1]; exact (hf1 b o e).2⟩ : V.heap.size ≤ b ∧ b < X1.heap.size)) hne))))
      clear hv1 b1 hf1 ho1 hxo1 hxb1 hxs1 hxr1 hbX1 hrow1 hne hkey1 e0 e1 e2 e3 e4 e5 z1
      go_upto_region 6 with fail
      rw [← hX1]
      clear hX1 hfz hc0
      obtain ⟨e0, e1, e2, e3, e4, e5⟩ := own6 H1.out.2.1
      go_wp2_with fail
      refine z2.out.mono ?_
      rintro _ w2 ⟨A2, k2, rfl, hv2, b2, hf2⟩
      have ho2 := H1.out.2.1.past b2 H1.out.2.1.inside
      obtain ⟨X2, hX2, hxo2, hxb2, hxs2, hxr2⟩ := own_first ho2 (.slice A2 u.row.length k2)
      have hfz := (own_frozen6 ho2).2.1
      have hc0 := (own6 ho2).2.1
      have hbX2 : Below wi.heap.size wi X2 := hxb2 _ _ (H1.out.1.trans (b2.mono H1.out.1.size)) (Nat.le_refl _)
      have hsX : V.heap.size ≤ X1.heap.size := by have := H1.out.1.size; have := H1.out.2.1.inside; have := HV.out.2.2.2.2.2.2; omega
      have hkey2 := vals_but (vals_keep H1.out.2.2.1 b2) (fun b o e => H1.out.2.2.2.2 b (H1.out.2.2.2.1 b o e).1) hxs2 hxr2
      have hrow2 := vals_but hv2 (fun b o e => H1.out.2.2.2.2 b (Nat.le_trans hsX (hf2 b o e).1)) hxs2 hxr2
      have hs2 := b2.size
      have hlts : ∀ b o, (A1 = some ⟨b, o, none⟩ ∨ A2 = some ⟨b, o, none⟩) → V.heap.size ≤ b ∧ b < X2.heap.size := fun b o e => by
        rcases e with e | e
        · have h1 := H1.out.2.2.2.1 b o e
          omega
        · have h1 := hf2 b o e
          omega
      obtain ⟨u', hu'⟩ : ∃ u' : Up, u' = ⟨A1, k1, u.key, A2, k2, u.row, u.t, u.d⟩ := ⟨_, rfl⟩
      have hin' : UIn X2 X2.heap.size u' := by subst hu'; exact ⟨hkey2, hrow2⟩
      have hfar' : Far w.heap.size u3 X2 u' := fun b o hb => by
        subst hu'
        have h1 := hlts b o hb
        have h2 := HV.out.2.2.2.2.2.2
        have h3 := HO.out.2.2.2.1.size
        refine ⟨h1.2, fun e => ?_, by omega⟩
        have := (HO.out.1.lt b e).2
        omega
      have hok' : UOk u' := by
        subst hu'
        have := HV.out.2.2.2.2.1
        exact ⟨this.kn, this.rn, this.ks, this.rs, this.dn⟩
      have hp' : u'.p = u.p := by subst hu'; rfl
      have hsw : w.heap.size ≤ X2.heap.size := Nat.le_trans HO.out.2.2.2.1.size hbX2.size
      have H2 := Lib.hid (And.intro hbX2 (And.intro (own_below HO.out.1 hbX2) (And.intro hin' (And.intro hfar' (And.intro hok' hp')))))
      have HU := Lib.hid hu'
      have hln : outL.length ≤ 1099511627776 := by omega
      clear hv2 b2 hf2 ho2 hxb2 hxs2 hxr2 hbX2 hkey2 hrow2 hs2 hlts hin' hfar' hok' hp' e0 e1 e2 e3 e4 e5 z2 hsX hu'
      go_upto_region 7 with fail
      rw [← hX2]
      clear hX2 hfz hc0
      obtain ⟨e0, e1, e2, e3, e4, e5⟩ := own6 hxo2
      have hu' := HU.out
      have c0 : Value.slice A1 u.key.length k1 = .slice u'.kA u'.key.length u'.kc := by rw [hu']
      have c1 : Value.slice A2 u.row.length k2 = .slice u'.rA u'.row.length u'.rc := by rw [hu']
      have c2 : Value.int .u64 (u.t.e : Int) = .int .u64 (u'.t.e : Int) := by rw [hu']
      have c3 : Value.int .u64 (u.t.a : Int) = .int .u64 (u'.t.a : Int) := by rw [hu']
      have c4 : Value.int .u64 (u.t.b : Int) = .int .u64 (u'.t.b : Int) := by rw [hu']
      have c5 : Value.int .i64 u.d = .int .i64 u'.d := by rw [hu']
      rw [c0] at e0
      rw [c1] at e1
      rw [c2] at e2
      rw [c3] at e3
      rw [c4] at e4
      rw [c5] at e5
      clear hu' c0 c1 c2 c3 c4 c5 hxo2
      go_wp2_with (at_builtin; refine wpList_push _ rfl _ _ 22 rfl w.heap.size 48 i0 _ 6 80 HI.out.1 HI.out.2.1 HI.out.2.2.1 HI.out.2.2.2.1 HI.out.2.2.2.2 rfl (by decide) _ _ _ rfl H2.out.2.1 #[.slice u'.kA u'.key.length u'.kc, .slice u'.rA u'.row.length u'.rc, .int .u64 (u'.t.e : Int), .int .u64 (u'.t.a : Int), .int .u64 (u'.t.b : Int), .int .i64 u'.d] rfl rfl ?p1 ?p2 ?p3 ?p4 ?_)
      case p1 => exact ⟨rfl, rfl, rfl, rfl, rfl, rfl⟩
      case p2 => unfold maxLen; omega
      case p3 => omega
      case p4 => exact hsw
      intro v' w' ho' hb' hob hgw
      have hbw' : Below w.heap.size w w' := (HO.out.2.2.2.1.trans (H2.out.1.mono HO.out.2.2.2.1.size)).trans hb'
      have hfarn : ∀ u, Far w.heap.size u3 X2 u → Far w.heap.size v' w' u := fun u hu b o hb => by
        obtain ⟨h1, h2, h3⟩ := hu b o hb
        refine ⟨Nat.lt_of_lt_of_le h1 hgw.size, fun e => ?_, h3⟩
        rcases hob with h | h
        · rw [h] at e; exact h2 e
        · rw [h] at e
          injection e with e
          omega
      have hall : ∀ z ∈ outL ++ [u'], UIn w' w'.heap.size z ∧ UOk z ∧ Far w.heap.size v' w' z := fun z hz => by
        rcases List.mem_append.1 hz with hz | hz
        · have hf3 := (HO.out.2.1 z hz).2.2.next H2.out.1.size
          exact ⟨uin_grown ((HO.out.2.1 z hz).1.keep H2.out.1) hf3 hgw, (HO.out.2.1 z hz).2.1, hfarn z hf3⟩
        · obtain rfl : z = u' := by simpa using hz
          exact ⟨uin_grown H2.out.2.2.1 H2.out.2.2.2.1 hgw, H2.out.2.2.2.2.1, hfarn z H2.out.2.2.2.1⟩
      have hrow' : w'.ownsRow w.heap.size 48 6 v' (outL ++ [u']).length ((outL ++ [u']).flatMap Up.cells) := by
        rw [List.length_append, List.flatMap_append, hlen]
        exact ho'
      have H4 := Lib.hid (And.intro hrow' (And.intro hall (And.intro (copy_snoc HV.out.2.2.2.1 HO.out.2.2.1 H2.out.2.2.2.2.2) hbw')))
      clear ho' hb' hob hgw hbw' hfarn hall hrow' e0 e1 e2 e3 e4 e5
      go_wp2_with fail
      go_roundw
      case rel => exact ⟨j + 1, outL ++ [u'], by go_num, by omega, by rw [List.length_append, List.length_singleton]; omega, H4.out.1, H4.out.2.1, H4.out.2.2.1, H4.out.2.2.2⟩
      case measure => simp [intOf]; omega
    · have hj2 : j = l.length := by omega
      subst hj2
      rw [List.take_length] at hmap
      have HE := Lib.hid (And.intro hmap (And.intro hown (And.intro hout hb)))
      have q5 : decide ((l.length : Int) < (l.length : Int)) = false := decide_eq_false (by omega)
      clear hown hout hmap hb
      go_wp2_with fail
      go_ret
      exact ⟨_, outL, rfl, HE.out.1, HE.out.2.1, HE.out.2.2.1, HE.out.2.2.2⟩
theorem copyU_any (A : Option Addr) (c : Nat) (l : List Up) (w : World) (hl : Ups w w.heap.size A l) (hok : ∀ u ∈ l, UOk u) (h8 : ∀ u ∈ l, u.key.length ≤ 8 ∧ u.row.length ≤ 8) (hn : l.length ≤ 1099511627776) :
    Calls Tryz.prog 26 #[.slice A l.length c] w (Copied l w) := by
  refine (copyU_own A c l w hl hok (fun u hu => by have := h8 u hu; omega) hn).mono ?_
  rintro x w' ⟨v, outL, h1, h2, h3, h4, h5⟩
  obtain ⟨A', c', rfl, _, _, hl'⟩ := lies_of_own (size := 6) (cells := Up.cells) (by decide) ucells_len rfl h3
  exact ⟨A', c', outL, h1, h2, ⟨hl', fun u hu => (h4 u hu).1⟩, fun u hu => (h4 u hu).2.1, h5⟩
end Go.Proofs.YtllpfngmnccejaaGreat
