/- What is there at a time, by the program. -/
import Derived.Test.YtpfjeibhklacbaaDCnt
import Derived.Test.YtpfjeibhklacbaaDCons
import Derived.Test.YtpfjeibhklacbaaAhead
namespace Go.Proofs.Ytpfjeibhklacbaa
open Go Go.RowKit

/-- what is told of counts -/
def CtsSays (l : List (List Vl × Int)) (e : Int) (base : Nat) (w : World) (x : Ending) (w' : World) : Prop :=
  ∃ A c, ∃ outL : List Ct, x = .returned (.tuple #[.slice A outL.length c, .int .i64 e]) ∧ outL.map Ct.p = l ∧ Cts w' w'.heap.size A outL ∧ (∀ u ∈ outL, COk u) ∧ Below base w w'
set_option maxRecDepth 100000 in
set_option maxHeartbeats 3200000 in
theorem counts_any (v : Value) (n base : Nat) (l : List (Ln Ct)) (w : World) (R : List (List Vl × Int)) (E : Int) (hR' : resL cmpRows (l.map (pL Ct.k)) = R) (hE : resE cmpRows (l.map (pL Ct.k)) = E) (hnl : n = l.length) (h : w.ownsRow base 77 4 v n (l.flatMap (Ln.cells Ct.cells))) (hbase : base ≤ w.heap.size) (hin : ∀ x ∈ l, CIn w base x.u) (hok : ∀ x ∈ l, COk x.u) (hR : ∀ x ∈ l, RowR x.u.k)
    (hS : ∀ x ∈ l, -9223372036854775808 ≤ x.S ∧ x.S ≤ 9223372036854775807) (hn : n ≤ 1099511627776) : Calls Try.prog 42 #[v] w (CtsSays R E base w) := by
  have hcall := totalC_any v n base l w hnl h hbase hin hok hR hS hn
  unfold TotCs at hcall
  rw [hR', hE] at hcall
  have HC := Lib.hid hcall
  clear hcall hnl h hbase hin hok hR hS hn hR' hE
  go_enter Try.func42, Try.ntmps42
  go_wp2_with fail
  refine HC.out.mono ?_
  rintro _ w1 ⟨A', c', outL, rfl, k1, k2, k3, k4⟩
  have H := Lib.hid (And.intro k1 (And.intro k2 (And.intro k3 k4)))
  clear k1 k2 k3 k4
  go_wp2_with fail
  go_ret2
  exact ⟨A', c', outL, rfl, H.out.1, H.out.2.1, H.out.2.2.1, H.out.2.2.2⟩
set_option maxRecDepth 100000 in
set_option maxHeartbeats 800000 in
theorem orE2_any (g : Nat) (x y : Int) (w : World) (h0 : w.cell? ⟨g, 0, none⟩ = some (.int .i64 x)) (h1 : w.cell? ⟨g, 1, none⟩ = some (.int .i64 y)) :
    Calls Try.prog 32 #[.slice (some ⟨g, 0, none⟩) 2 2] w fun e w' => e = .returned (.int .i64 (orI x y)) ∧ w = w' := by
  go_enter Try.func32, Try.ntmps32
  go_wp2_with fail
  go_rounds 3
  all_goals
    go_ret
    refine ⟨ret_i64 ?_, rfl⟩
    unfold orI
    simp_all
/-- what At tells -/
def chkAt (l : List Up) (t : Tm) : Int := orI (chkUs l) (chk [t])
def atP (l : List Up) (t : Tm) : List (List Vl × Int) := (l.filter fun u => u.t.le t).map fun u => (u.row, u.d)
def atL (l : List Up) (t : Tm) : List (List Vl × Int) := if chkAt l t = 0 then resL cmpRows (atP l t) else []
def atE (l : List Up) (t : Tm) : Int := if chkAt l t = 0 then resE cmpRows (atP l t) else chkAt l t
def linesAt (l : List Up) (t : Tm) : List (Ln Ct) := (l.filter fun u => u.t.le t).map fun u => ⟨u.d, ⟨u.rA, u.rc, u.row, 0⟩⟩
theorem linesAt_pL (l : List Up) (t : Tm) : (linesAt l t).map (pL Ct.k) = atP l t := by unfold linesAt atP; rw [List.map_map]; rfl
theorem linesAt_len (l : List Up) (t : Tm) : (linesAt l t).length ≤ l.length := by unfold linesAt; rw [List.length_map]; exact List.length_filter_le ..
theorem linesAt_next {l : List Up} {t : Tm} {j : Nat} {u : Up} (h : l[j]? = some u) : linesAt (l.take (j + 1)) t = linesAt (l.take j) t ++ if u.t.le t = true then [⟨u.d, ⟨u.rA, u.rc, u.row, 0⟩⟩] else [] := by
  unfold linesAt
  rw [List.take_add_one, h, List.filter_append, List.map_append]
  congr 1
  by_cases ht : u.t.le t = true <;> simp [ht]
theorem tm_box (w : World) (t : Tm) : ∃ V, V = w.alloc (.cells #[.int .u64 (t.e : Int), .int .u64 (t.a : Int), .int .u64 (t.b : Int)] 36) ∧ Below w.heap.size w V ∧ V.heap.size = w.heap.size + 1 ∧ Own V w.heap.size 36 t.cells :=
  ⟨_, rfl, (Below.refl _ _).alloc (Nat.le_refl _) _, by simp, Own.made w 36 t.cells⟩
theorem own3 {w : World} {P : Nat} {t : TypeId} {a0 a1 a2 : Value} (h : Own w P t [a0, a1, a2]) : w.cell? ⟨P, 0, none⟩ = some a0 ∧ w.cell? ⟨P, 1, none⟩ = some a1 ∧ w.cell? ⟨P, 2, none⟩ = some a2 := ⟨h.at_ 0, h.at_ 1, h.at_ 2⟩
theorem infoLc : (Try.prog.info? 77).map (fun i => (i.zero, i.size, i.bytes)) = some (some (.agg #[.int .u64 0, .int .u64 0, .slice none 0 0, .int .i64 0]), 4, 48) := by kernel_rfl
theorem lc_made (w : World) (S : Int) (c : Ct) : Lies 4 (Ln.cells Ct.cells) (w.alloc (.cells #[.int .u64 (hiW S), .int .u64 (loW S), .slice c.rA c.row.length c.rc, .int .i64 c.n] 77)) (w.heap.size + 1) (some ⟨w.heap.size, 0, none⟩) [(⟨S, c⟩ : Ln Ct)] := fun _ => by
  have ho := Own.made w 77 (Ln.cells Ct.cells (⟨S, c⟩ : Ln Ct))
  refine ⟨w.heap.size, 0, rfl, Nat.lt_succ_self _, fun i x hx j v hv => ?_⟩
  match i, hx with
  | 0, hx =>
    obtain rfl : (⟨S, c⟩ : Ln Ct) = x := by simpa using hx
    rw [show 0 + 0 * 4 + j = j by omega]
    exact (ho.at_ j).trans hv
set_option maxRecDepth 100000 in
set_option maxHeartbeats 16000000 in
theorem at_any (A : Option Addr) (c : Nat) (l : List Up) (t : Tm) (w : World) (hl : Ups w w.heap.size A l) (hok : ∀ u ∈ l, UOk u) (hn : l.length ≤ 1099511627776) :
    Calls Try.prog 19 #[.slice A l.length c, t.val] w (CtsSays (atL l t) (atE l t) w.heap.size w) := by
  obtain ⟨i0, hi, hz0, hz1, hz2⟩ := info_parts infoLc
  have HI := Lib.hid (And.intro Try.underlying74 (And.intro hi (And.intro hz0 (And.intro hz1 hz2))))
  obtain ⟨V, hV, hvb, hvs, hvo⟩ := tm_box w t
  have hupV := hl.keep hvb
  have x1 := fun W (h : Bl V W) => Lib.hid (dcheck_any A c l W (hupV.keep h) (by omega) hok)
  have x3 : ∀ W g, Times W W.heap.size (some ⟨g, 0, none⟩) [t] → Hid (Calls Try.prog 34 #[.slice (some ⟨g, 0, none⟩) 1 1] W fun e w' => e = .returned (.int .i64 (chk [t])) ∧ Below W.heap.size W w') := fun W g h => Lib.hid (check_any (some ⟨g, 0, none⟩) 1 [t] W h (by unfold maxLen; simp))
  have x4 := fun W g h1 h2 => Lib.hid (orE2_any g (chkUs l) (chk [t]) W h1 h2)
  have HS := Lib.hid (fun W (h : Bl V W) => (own3 (hvo.past h hvo.inside) : W.cell? ⟨w.heap.size, 0, none⟩ = some (.int .u64 (t.e : Int)) ∧ W.cell? ⟨w.heap.size, 1, none⟩ = some (.int .u64 (t.a : Int)) ∧ W.cell? ⟨w.heap.size, 2, none⟩ = some (.int .u64 (t.b : Int))))
  have htm := Lib.hid (fun W => times_made W t)
  have htd := Lib.hid (fun W => times_made_drew W t)
  have hself := Bl.refl V
  obtain ⟨d0, d1, d2⟩ := own3 hvo
  have HL := Lib.hid (And.intro hl (And.intro hok (And.intro hvb hvo)))
  rw [show t.val = .agg #[.int .u64 (t.e : Int), .int .u64 (t.a : Int), .int .u64 (t.b : Int)] from rfl]
  obtain ⟨K, hK⟩ : ∃ K, chkUs l = K := ⟨_, rfl⟩
  obtain ⟨Q, hQ⟩ : ∃ Q, chk [t] = Q := ⟨_, rfl⟩
  have hO := Lib.hid (show chkAt l t = orI K Q by unfold chkAt; rw [hK, hQ])
  have HK := Lib.hid hK
  rw [hK] at x4
  simp only [hK] at x1
  rw [hQ] at x4
  simp only [hQ] at x3
  clear hl hok hi hz0 hz1 hz2 hvb hvs hvo hupV hK hQ
  go_enter Try.func19, Try.ntmps19
  go_upto_region 1 with fail
  rw [← hV]
  clear hV
  go_cut [6] (fun s6 wx => s6 = .int .i64 (orI K Q) ∧ Bl V wx)
  case first =>
    go_region_held3 (fun w' => Bl V w' ∧ (w'.cell? ⟨w.heap.size, 0, none⟩ = some (.int .u64 (t.e : Int)) ∧ w'.cell? ⟨w.heap.size, 1, none⟩ = some (.int .u64 (t.a : Int)) ∧ w'.cell? ⟨w.heap.size, 2, none⟩ = some (.int .u64 (t.b : Int))))
      ((refine (fun h => And.intro h (HS.out _ h)) ?_; repeat (first | with_reducible exact hb3 | with_reducible exact hb1 | with_reducible exact hself | with_reducible refine Bl.more ?_ _ | with_reducible refine Bl.drew ?_)))
      (first | (go_at_call 13; refine (x1 _ (by repeat (first | with_reducible exact hself | with_reducible refine Bl.more ?_ _ | with_reducible refine Bl.drew ?_))).out.mono ?_; rintro _ w1 ⟨rfl, k1⟩; have hb1 : Bl V w1 := Bl.call (by repeat (first | with_reducible exact hself | with_reducible refine Bl.more ?_ _ | with_reducible refine Bl.drew ?_)) k1; first | have ht1 := tms_keep (htm.out _) k1 | have ht1 := tms_keep (htd.out _) k1 | skip) | (go_at_call 34; refine (x3 _ _ (by first | exact ht1 | exact htm.out _)).out.mono ?_; rintro _ w3 ⟨rfl, k3⟩; have hb3 : Bl V w3 := Bl.call (by repeat (first | with_reducible exact hb1 | with_reducible refine Bl.more ?_ _)) k3) | (go_at_call 32; refine (x4 _ _ ?_ ?_).out.mono ?_; (simp [go_sem]); (simp [go_sem]); rintro _ w4 ⟨rfl, rfl⟩))
    all_goals
      go_wp2_with fail
      go_meet
      exact ⟨rfl, hb3.more _⟩
  case rest =>
    obtain ⟨rfl, hcb⟩ := hcut
    have hbw := HL.out.2.2.1.trans (hcb.below.mono HL.out.2.2.1.size)
    have HB := Lib.hid (And.intro hbw (HL.out.2.2.2.past hcb.below HL.out.2.2.2.inside))
    obtain ⟨Z, hZ⟩ : ∃ Z, orI K Q = Z := ⟨_, rfl⟩
    rw [hZ] at hO ⊢
    have HZ := Lib.hid hZ
    clear hcb hbw x1 x3 x4 d0 d1 d2 hZ
    by_cases hz : Z = 0
    case neg =>
      have t1 : (Z != 0) = true := bne_iff_ne.2 hz
      have hal : atL l t = [] := by unfold atL; rw [if_neg (by rw [hO.out]; exact hz)]
      have hae : atE l t = Z := by unfold atE; rw [if_neg (by rw [hO.out]; exact hz), hO.out]
      have HR := Lib.hid (And.intro hal hae)
      clear hz hal hae
      go_wp2_with fail
      go_ret2
      exact ⟨none, 0, [], by rw [HR.out.2]; rfl, HR.out.1.symm, ⟨Lies.nil_, fun u hu => (by cases hu)⟩, fun u hu => (by cases hu), HB.out.1⟩
    subst hz
    have hKZ : K = 0 := by have := HZ.out; unfold orI at this; split at this <;> omega
    have HKZ := Lib.hid hKZ
    clear hKZ
    go_wp2_with fail
    go_loopw [7, 22] (fun v7 v22 wr => ∃ j : Nat, v22 = .int .i64 (j : Int) ∧ j ≤ l.length ∧ wr.ownsRow w.heap.size 77 4 v7 (linesAt (l.take j) t).length ((linesAt (l.take j) t).flatMap (Ln.cells Ct.cells)) ∧ Below w.heap.size w wr ∧ Own wr w.heap.size 36 t.cells)
      (fun _ v22 _ => l.length - (intOf v22).toNat)
    case atStart => exact ⟨0, rfl, by omega, World.ownsRow_nil _ _ _ _, HB.out.1, HB.out.2⟩
    case round =>
      obtain ⟨j, rfl, hj, hownj, hbj, hvoj⟩ := hrel
      obtain ⟨wi, hwi⟩ : ∃ wi, wi = wr := ⟨_, rfl⟩
      subst hwi
      by_cases hjt : j < l.length
      · have hy : l[j]? = some l[j] := List.getElem?_eq_getElem hjt
        have hym := List.mem_of_getElem? hy
        generalize l[j] = u at *
        obtain ⟨b', o', rfl, hB', hys⟩ := lies_up HL.out.1.head (by omega)
        obtain ⟨e0, e1, e2, e3, e4, e5⟩ := ((hys j u hy).past_ hbj hB').six
        obtain ⟨V2, hV2, hvb2, hvs2, hvo2⟩ := upbox wi u
        have hin0 : UOk u := HL.out.2.1 u hym
        have hrowV := own_below hownj hvb2
        have hPne : u7.ownBlock ≠ some wi.heap.size := fun e => by have := (hownj.lt _ e).2; omega
        have hTne : u7.ownBlock ≠ some w.heap.size := fun e => by
          rcases hownj.2 with ⟨h0, _⟩ | ⟨g, cap, cur, h0, _, hg, _⟩
          · rw [h0] at e; cases e
          · rw [h0] at e
            injection e with e
            subst e
            unfold Own at hvoj
            rw [hvoj] at hg
            simp at hg
        have hbV := hbj.trans (hvb2.mono hbj.size)
        have hnx := linesAt_next (t := t) hy
        have hlen := linesAt_len (l.take j) t
        rw [List.length_take] at hlen
        have hln : (linesAt (l.take j) t).length ≤ 1099511627776 := by omega
        have HJ := Lib.hid (And.intro hnx (And.intro hbV (And.intro hvo2 (And.intro (hvoj.past hvb2 hvoj.inside) (And.intro hrowV (And.intro hPne hTne))))))
        have hof := fun W => Lib.hid (of_any u.d W hin0.dn.1 hin0.dn.2)
        have hah := fun W => Lib.hid (ahead_any u.t t W)
        have hlt2 := hvoj.inside
        have q3 : (0 : Int) ≤ (j : Int) := by omega
        have q4 : (j : Int) < (l.length : Int) := by omega
        have q5 : decide ((j : Int) < (l.length : Int)) = true := decide_eq_true q4
        generalize linesAt (l.take j) t = us at *
        unfold Tm.val at hah
        clear hy hym hys hvb2 hvs2 hin0 hownj hbj hbV hnx hlen hvoj hvo2 hrowV hPne hTne
        go_upto_region 8 with fail
        rw [← hV2]
        clear hV2 e0 e1 e2 e3 e4 e5
        obtain ⟨e0, e1, e2, e3, e4, e5⟩ := own6 HJ.out.2.2.1
        obtain ⟨d0, d1, d2⟩ := own3 HJ.out.2.2.2.1
        go_wp2_with fail
        refine (hah _).out.mono ?_
        rintro _ w5 ⟨rfl, b5⟩
        have hrow5 := own_below HJ.out.2.2.2.2.1 b5
        have hvo := HJ.out.2.2.1.past b5 HJ.out.2.2.1.inside
        have hb5 := HJ.out.2.1.trans (b5.mono HJ.out.2.1.size)
        have hT5 := HJ.out.2.2.2.1.past b5 HJ.out.2.2.2.1.inside
        have H5 := Lib.hid (And.intro hrow5 (And.intro hb5 hT5))
        clear e0 e1 e2 e3 e4 e5 d0 d1 d2 hah b5
        cases hle : u.t.le t
        case false =>
          have HE := Lib.hid hle
          clear hle hrow5 hb5 hT5 hvo
          go_wp2_with fail
          go_roundw
          case rel =>
            refine ⟨j + 1, by go_num, by omega, ?_, H5.out.2.1, H5.out.2.2⟩
            rw [HJ.out.1, HE.out, if_neg Bool.false_ne_true, List.append_nil]
            exact H5.out.1
          case measure => simp [intOf]; omega
        case true =>
          have HE := Lib.hid hle
          clear hle
          obtain ⟨e0, e1, e2, e3, e4, e5⟩ := own6 hvo
          have HS2 := Lib.hid (fun W (h : Own W wi.heap.size 38 u.cells) => (own6 h : W.cell? ⟨wi.heap.size, 0, none⟩ = some (.slice u.kA u.key.length u.kc) ∧ W.cell? ⟨wi.heap.size, 1, none⟩ = some (.slice u.rA u.row.length u.rc) ∧ W.cell? ⟨wi.heap.size, 2, none⟩ = some (.int .u64 (u.t.e : Int)) ∧ W.cell? ⟨wi.heap.size, 3, none⟩ = some (.int .u64 (u.t.a : Int)) ∧ W.cell? ⟨wi.heap.size, 4, none⟩ = some (.int .u64 (u.t.b : Int)) ∧ W.cell? ⟨wi.heap.size, 5, none⟩ = some (.int .i64 u.d)))
          go_upto_region 9 with fail
          go_region_held3 (fun w' => Own w' wi.heap.size 38 u.cells ∧ (w'.cell? ⟨wi.heap.size, 0, none⟩ = some (.slice u.kA u.key.length u.kc) ∧ w'.cell? ⟨wi.heap.size, 1, none⟩ = some (.slice u.rA u.row.length u.rc) ∧ w'.cell? ⟨wi.heap.size, 2, none⟩ = some (.int .u64 (u.t.e : Int)) ∧ w'.cell? ⟨wi.heap.size, 3, none⟩ = some (.int .u64 (u.t.a : Int)) ∧ w'.cell? ⟨wi.heap.size, 4, none⟩ = some (.int .u64 (u.t.b : Int)) ∧ w'.cell? ⟨wi.heap.size, 5, none⟩ = some (.int .i64 u.d)))
            ((refine (fun h => And.intro h (HS2.out _ h)) ?_; repeat (first | with_reducible exact ho9 | with_reducible exact ho8 | with_reducible exact hvo | with_reducible refine Own.more ?_ _ | with_reducible refine own_drew' ?_)))
            (first | (go_at_call 24; refine (hof _).out.mono ?_; rintro _ w2 ⟨rfl, b2⟩; have ho8 : Own w2 wi.heap.size 38 u.cells := (own_drew' hvo).past b2 hvo.inside; have hrow2 := own_below hrow5.drew b2; have hb8 := (hb5.drew).trans (b2.mono (hb5.drew).size); have hT8 := (own_drew' hT5).past b2 hT5.inside) | (refine step_append_lies (size := 4) (cells := Ln.cells Ct.cells) (l := [(⟨u.d, ⟨u.rA, u.rc, u.row, 0⟩⟩ : Ln Ct)]) (B := w2.heap.size + 1) _ rfl (.tmp 30) (.tmp 38) 74 77 rfl i0 _ 48 HI.out.1 HI.out.2.1 HI.out.2.2.1 HI.out.2.2.2.1 HI.out.2.2.2.2 rfl (by decide) (fun _ => rfl) lccells_one w.heap.size u7 us.length _ rfl (hrow2.alloc _) 1 w2.heap.size 0 (by simp [Act.eval, Act.put]) (lc_made _ _ _) (by unfold maxLen; simp; omega) (by simp; omega) (by simp; exact Nat.le_succ_of_le hb8.size) ?_; intro v3 w3 ho3 hb3 hv3 hg3; have ho9 : Own w3 wi.heap.size 38 u.cells := (hg3.block _ (by have := ho8.inside; simp; omega) (fun e => HJ.out.2.2.2.2.2.1 e.symm)).trans (ho8.more _); have hT9 : Own w3 w.heap.size 36 t.cells := (hg3.block _ (by have := hT8.inside; simp; omega) (fun e => HJ.out.2.2.2.2.2.2 e.symm)).trans (hT8.more _)))
          all_goals
            have H3 := Lib.hid (And.intro ho3 (And.intro ((Below.alloc hb8 hb8.size _).trans hb3) hT9))
            clear ho3 hb3 hv3 hg3 ho9 ho8 hb8 hrow2 hrow5 hb5 hT5 hT8 hT9 HS2 hvo b2 hof e0 e1 e2 e3 e4 e5
            go_wp2_with fail
            go_roundw
            case rel =>
              refine ⟨j + 1, by go_num, by omega, ?_, H3.out.2.1, H3.out.2.2⟩
              rw [HJ.out.1, HE.out, if_pos rfl, List.flatMap_append, List.length_append]
              exact H3.out.1
            case measure => simp [intOf]; omega
      · have hj2 : j = l.length := by omega
        have q5 : decide ((j : Int) < (l.length : Int)) = false := decide_eq_false (by omega)
        rw [hj2, List.take_length] at hownj
        have hgood : ∀ u ∈ l, chkU u = 0 := chkUs_all.1 (HK.out.trans HKZ.out)
        have hmem : ∀ x ∈ linesAt l t, ∃ u ∈ l, x.u = ⟨u.rA, u.rc, u.row, 0⟩ ∧ x.S = u.d := fun x hx => by
          unfold linesAt at hx
          obtain ⟨u, hu, rfl⟩ := List.mem_map.1 hx
          exact ⟨u, (List.mem_filter.1 hu).1, rfl, rfl⟩
        have hll := linesAt_len l t
        have hcall := Lib.hid (counts_any u7 (linesAt l t).length w.heap.size (linesAt l t) wi _ _ (by rw [linesAt_pL]) (by rw [linesAt_pL]) rfl hownj hbj.size (fun x hx => by
            obtain ⟨u, hu, e, _⟩ := hmem x hx
            rw [e]
            exact ⟨((HL.out.1.each_ u hu).past hbj (Nat.le_refl _)).row⟩) (fun x hx => by
            obtain ⟨u, hu, e, _⟩ := hmem x hx
            rw [e]
            exact ⟨(HL.out.2.1 u hu).rn, (HL.out.2.1 u hu).rs, by show (-9223372036854775808 : Int) ≤ 0 ∧ (0 : Int) ≤ 9223372036854775807; decide⟩) (fun x hx => by
            obtain ⟨u, hu, e, _⟩ := hmem x hx
            rw [e]
            exact (chkK_zero (hgood u hu)).2.1) (fun x hx => by
            obtain ⟨u, hu, _, e⟩ := hmem x hx
            rw [e]
            exact (HL.out.2.1 u hu).dn) (by omega))
        have hal : atL l t = resL cmpRows (atP l t) := by unfold atL; rw [if_pos hO.out]
        have hae : atE l t = resE cmpRows (atP l t) := by unfold atE; rw [if_pos hO.out]
        rw [← hal, ← hae] at hcall
        have HC := Lib.hid hbj
        generalize atL l t = AL at *
        generalize atE l t = AE at *
        clear hownj hgood hmem hll hal hae hbj hvoj hO
        go_wp2_with fail
        refine hcall.out.mono ?_
        rintro _ w9 ⟨A', c', outL, rfl, k1, k2, k3, k4⟩
        have H9 := Lib.hid (And.intro k1 (And.intro k2 (And.intro k3 k4)))
        clear k1 k2 k3 k4 hcall
        go_wp2_with fail
        go_ret2
        exact ⟨A', c', outL, rfl, H9.out.1, H9.out.2.1, H9.out.2.2.1, HC.out.trans H9.out.2.2.2⟩
end Go.Proofs.Ytpfjeibhklacbaa
namespace Go.Proofs.Ytpfjeibhklacbaa
open Go Go.RowKit

/-- lists of counts, as they lie -/
structure CLs (w : World) (B : Nat) (A : Option Addr) (L : List (Rw Ct)) : Prop where
  head : Lies 1 Rw.cells w B A L
  each_ : ∀ s ∈ L, Cts w B s.A s.l
theorem CLs.past {w w' : World} {B B' : Nat} {A : Option Addr} {L : List (Rw Ct)} (h : CLs w B A L) (hb : Below B' w w') (hB : B ≤ B') : CLs w' B A L := ⟨h.head.past hb hB, fun s hs => (h.each_ s hs).past hb hB⟩
theorem CLs.wide {w : World} {B B' : Nat} {A : Option Addr} {L : List (Rw Ct)} (h : CLs w B A L) (hB : B ≤ B') : CLs w B' A L := ⟨h.head.wide hB, fun s hs => (h.each_ s hs).wide hB⟩
theorem CLs.keep {w w' : World} {A : Option Addr} {L : List (Rw Ct)} (h : CLs w w.heap.size A L) (hb : Below w.heap.size w w') : CLs w' w'.heap.size A L := (h.past hb (Nat.le_refl _)).wide hb.size
theorem CLs.at_ {w : World} {B : Nat} {A : Option Addr} {L : List (Rw Ct)} (h : CLs w B A L) {k : Nat} {s : Rw Ct} (hx : L[k]? = some s) :
    ∃ b o, A = some ⟨b, o, none⟩ ∧ b < B ∧ w.cell? ⟨b, o + k, none⟩ = some (.slice s.A s.l.length s.c) ∧ Cts w B s.A s.l := by
  have hk := (List.getElem?_eq_some_iff.1 hx).1
  obtain ⟨b, o, e, hb, hc⟩ := h.head (by omega)
  refine ⟨b, o, e, hb, ?_, h.each_ s (List.mem_of_getElem? hx)⟩
  have := hc k s hx 0 _ rfl
  rwa [Nat.mul_one, Nat.add_zero] at this
def chkCs : List Ct → Int
  | [] => 0
  | c :: l => if chkRow c.row = 0 then chkCs l else chkRow c.row
theorem chkCs_all {l : List Ct} : chkCs l = 0 ↔ ∀ c ∈ l, chkRow c.row = 0 := by
  induction l with
  | nil => simp [chkCs]
  | cons x l ih =>
    simp only [chkCs]
    by_cases hx : chkRow x.row = 0
    · rw [if_pos hx, ih]; simp [hx]
    · rw [if_neg hx]
      exact ⟨fun h => absurd h hx, fun h => h x (by simp)⟩
theorem chkCs_bad {a b : List Ct} {c : Ct} (h : chkCs a = 0) (hc : chkRow c.row ≠ 0) : chkCs (a ++ c :: b) = chkRow c.row := by
  induction a with
  | nil => simp only [List.nil_append, chkCs]; rw [if_neg hc]
  | cons x a ih =>
    simp only [List.cons_append, chkCs] at h ⊢
    by_cases hx : chkRow x.row = 0
    · rw [if_pos hx] at h ⊢; exact ih h
    · rw [if_neg hx] at h; exact absurd h hx
theorem chkCs_snoc {a : List Ct} {c : Ct} (h : chkCs a = 0) (hc : chkRow c.row = 0) : chkCs (a ++ [c]) = 0 := by
  rw [chkCs_all] at *
  intro x hx
  rcases List.mem_append.1 hx with hx | hx
  · exact h x hx
  · obtain rfl : x = c := by simpa using hx
    exact hc
/-- what Merge tells -/
def mergeL (L : List (List Ct)) : List (List Vl × Int) := if chkCs L.flatten = 0 then resL cmpRows (L.flatten.map Ct.p) else []
def mergeE (L : List (List Ct)) : Int := if chkCs L.flatten = 0 then resE cmpRows (L.flatten.map Ct.p) else chkCs L.flatten
def linesC (us : List Ct) : List (Ln Ct) := us.map fun u => ⟨u.n, u⟩
theorem linesC_len (us : List Ct) : (linesC us).length = us.length := List.length_map ..
theorem linesC_pL (us : List Ct) : (linesC us).map (pL Ct.k) = us.map Ct.p := by unfold linesC; rw [List.map_map]; rfl
theorem linesC_snoc (us : List Ct) (u : Ct) : linesC (us ++ [u]) = linesC us ++ [⟨u.n, u⟩] := by unfold linesC; simp
theorem flat_from {L : List (Rw Ct)} {k j : Nat} {s : Rw Ct} {u : Ct} (hx : L[k]? = some s) (hy : s.l[j]? = some u) : ∃ r, flatR L = (flatR (L.take k) ++ s.l.take j) ++ u :: r := by
  obtain ⟨hk, rfl⟩ := List.getElem?_eq_some_iff.1 hx
  obtain ⟨hj, rfl⟩ := List.getElem?_eq_some_iff.1 hy
  refine ⟨L[k].l.drop (j + 1) ++ flatR (L.drop (k + 1)), ?_⟩
  have h1 : flatR L = flatR (L.take k) ++ (L[k].l ++ flatR (L.drop (k + 1))) := by
    have h2 : L = L.take k ++ (L[k] :: L.drop (k + 1)) := by rw [← List.drop_eq_getElem_cons hk, List.take_append_drop]
    conv => lhs; rw [h2]
    unfold flatR
    rw [List.flatMap_append, List.flatMap_cons]
  have h3 : L[k].l = L[k].l.take j ++ (L[k].l[j] :: L[k].l.drop (j + 1)) := by rw [← List.drop_eq_getElem_cons hj, List.take_append_drop]
  rw [h1, show L[k].l ++ flatR (L.drop (k + 1)) = (L[k].l.take j ++ (L[k].l[j] :: L[k].l.drop (j + 1))) ++ flatR (L.drop (k + 1)) from by rw [← h3]]
  simp only [List.append_assoc, List.cons_append]
set_option maxRecDepth 100000 in
set_option maxHeartbeats 16000000 in
theorem merge_any (A : Option Addr) (c : Nat) (L : List (Rw Ct)) (w : World) (hl : CLs w w.heap.size A L) (hok : ∀ s ∈ L, ∀ u ∈ s.l, COk u) (hn : (flatR L).length ≤ 1099511627776) (hn2 : L.length ≤ 1099511627776) :
    Calls Try.prog 21 #[.slice A L.length c] w (CtsSays (mergeL (L.map Rw.l)) (mergeE (L.map Rw.l)) w.heap.size w) := by
  obtain ⟨i0, hi, hz0, hz1, hz2⟩ := info_parts infoLc
  have HI := Lib.hid (And.intro Try.underlying74 (And.intro hi (And.intro hz0 (And.intro hz1 hz2))))
  have HL := Lib.hid (And.intro hl hok)
  clear hl hok hi hz0 hz1 hz2
  go_enter Try.func21, Try.ntmps21
  go_wp2_with fail
  go_loopw [4, 12] (fun v4 v12 wr => ∃ k : Nat, v12 = .int .i64 (k : Int) ∧ k ≤ L.length ∧ wr.ownsRow w.heap.size 77 4 v4 (flatR (L.take k)).length ((linesC (flatR (L.take k))).flatMap (Ln.cells Ct.cells)) ∧ Below w.heap.size w wr ∧ chkCs (flatR (L.take k)) = 0)
    (fun _ v12 _ => L.length - (intOf v12).toNat)
  case atStart => exact ⟨0, rfl, by omega, World.ownsRow_nil _ _ _ _, Below.refl _ _, rfl⟩
  case round =>
    obtain ⟨k, rfl, hk, hown, hbw, hchk⟩ := hrel
    obtain ⟨wo, hwo⟩ : ∃ wo, wo = wr := ⟨_, rfl⟩
    subst hwo
    by_cases hlt : k < L.length
    · have hx : L[k]? = some L[k] := List.getElem?_eq_getElem hlt
      have hxm := List.mem_of_getElem? hx
      generalize L[k] = s at *
      obtain ⟨b, o, rfl, hB, hc0, hups⟩ := HL.out.1.at_ hx
      have hc0 := (hbw.cell (p := ⟨b, o + k, none⟩) hB).trans hc0
      have hsn : s.l.length ≤ 1099511627776 := by have := flatR_len hx (Nat.le_refl _); omega
      have HO := Lib.hid (And.intro hown (And.intro hbw (And.intro hx (And.intro hxm (And.intro hups hchk)))))
      have q0 : (0 : Int) ≤ (k : Int) := by omega
      have q1 : (k : Int) < (L.length : Int) := by omega
      have q2 : decide ((k : Int) < (L.length : Int)) = true := decide_eq_true q1
      obtain ⟨KA, hKA⟩ : ∃ KA, s.A = KA := ⟨_, rfl⟩
      rw [hKA] at hc0
      have HKA := Lib.hid hKA
      clear hown hbw hchk hx hxm hups hKA
      go_wp2_with fail
      go_loopw [4, 18] (fun v4 v18 wi => ∃ j : Nat, v18 = .int .i64 (j : Int) ∧ j ≤ s.l.length ∧ wi.ownsRow w.heap.size 77 4 v4 (flatR (L.take k) ++ s.l.take j).length ((linesC (flatR (L.take k) ++ s.l.take j)).flatMap (Ln.cells Ct.cells)) ∧ Below w.heap.size w wi ∧ chkCs (flatR (L.take k) ++ s.l.take j) = 0)
        (fun _ v18 _ => s.l.length - (intOf v18).toNat)
      case atStart => exact ⟨0, rfl, by omega, by rw [List.take_zero, List.append_nil]; exact HO.out.1, HO.out.2.1, by rw [List.take_zero, List.append_nil]; exact HO.out.2.2.2.2.2⟩
      case round =>
        obtain ⟨j, rfl, hj, hownj, hbj, hchj⟩ := hrel
        obtain ⟨wi, hwi⟩ : ∃ wi, wi = wr := ⟨_, rfl⟩
        subst hwi
        by_cases hjt : j < s.l.length
        · have hy : s.l[j]? = some s.l[j] := List.getElem?_eq_getElem hjt
          have hym := List.mem_of_getElem? hy
          generalize s.l[j] = u at *
          have hys0 := HO.out.2.2.2.2.1.head
          rw [HKA.out] at hys0
          obtain ⟨b', o', rfl, hB', hys⟩ := lies_ct hys0 (by omega)
          obtain ⟨e0, e1⟩ := ((hys j u hy).past_ hbj hB').two
          obtain ⟨V, hV, hvb, hvs, hvo⟩ := ctbox wi u
          have hin0 : COk u := HL.out.2 s HO.out.2.2.2.1 u hym
          have hrow0 := (((HO.out.2.2.2.2.1.each_ u hym).past hbj (Nat.le_refl _)).wide hbj.size).keep hvb
          have hcall := Lib.hid (vcheck_any u.rA u.rc u.row V hrow0.row (maxn hin0.rn) (fun v hv => (hin0.rs v hv).1))
          have hlen : (flatR (L.take k)).length + j ≤ (flatR L).length := flatR_len HO.out.2.2.1 (by omega)
          have hlj : (flatR (L.take k) ++ s.l.take j).length = (flatR (L.take k)).length + j := by rw [List.length_append, List.length_take]; omega
          have hln : (flatR (L.take k) ++ s.l.take j).length ≤ 1099511627776 := by omega
          have hof := fun W => Lib.hid (of_any u.n W hin0.dn.1 hin0.dn.2)
          have hrowV := own_below hownj hvb
          have hPne : u4.ownBlock ≠ some wi.heap.size := fun e => by have := (hownj.lt _ e).2; omega
          have hbV := hbj.trans (hvb.mono hbj.size)
          have htk : s.l.take (j + 1) = s.l.take j ++ [u] := by rw [List.take_add_one, hy]; rfl
          obtain ⟨rest, hrest⟩ := flat_from HO.out.2.2.1 hy
          have q3 : (0 : Int) ≤ (j : Int) := by omega
          have q4 : (j : Int) < (s.l.length : Int) := by omega
          have q5 : decide ((j : Int) < (s.l.length : Int)) = true := decide_eq_true q4
          have hbad := fun h => chkCs_bad (a := flatR (L.take k) ++ s.l.take j) (b := rest) (c := u) hchj h
          rw [← hrest] at hbad
          have hgood := fun h => chkCs_snoc (a := flatR (L.take k) ++ s.l.take j) (c := u) hchj h
          generalize hflat : flatR (L.take k) ++ s.l.take j = us at *
          obtain ⟨K, hK⟩ : ∃ K, chkRow u.row = K := ⟨_, rfl⟩
          rw [hK] at hcall hbad hgood
          have HJ := Lib.hid (And.intro htk (And.intro hbV (And.intro hflat (And.intro hbad (And.intro hgood (And.intro hvo (And.intro hrowV hPne)))))))
          clear hy hym hys hys0 hvb hvs hin0 hlen hlj hownj hbj hbV htk hflat hbad hgood hchj hrest hK hrow0 hrowV hPne hvo
          go_upto_region 8 with fail
          rw [← hV]
          clear hV e0 e1
          obtain ⟨e0, e1⟩ := own2 HJ.out.2.2.2.2.2.1
          go_wp2_with fail
          refine hcall.out.mono ?_
          rintro _ w5 ⟨rfl, b5⟩
          have hrow5 := own_below HJ.out.2.2.2.2.2.2.1 b5
          have hvo := HJ.out.2.2.2.2.2.1.past b5 HJ.out.2.2.2.2.2.1.inside
          have hb5 := HJ.out.2.1.trans (b5.mono HJ.out.2.1.size)
          clear e0 e1 hcall b5
          by_cases hK0 : K = 0
          case neg =>
            have t1 : (K != 0) = true := bne_iff_ne.2 hK0
            have hb := HJ.out.2.2.2.1 hK0
            rw [flatR_flat] at hb
            have hcl : mergeL (L.map Rw.l) = [] := by unfold mergeL; rw [if_neg (by rw [hb]; exact hK0)]
            have hce : mergeE (L.map Rw.l) = K := by unfold mergeE; rw [if_neg (by rw [hb]; exact hK0), hb]
            have HR := Lib.hid (And.intro hcl (And.intro hce hb5))
            clear hK0 hb hcl hce hb5 hrow5 hvo
            go_wp2_with fail
            go_ret2
            exact ⟨none, 0, [], by rw [HR.out.2.1]; rfl, HR.out.1.symm, ⟨Lies.nil_, fun u hu => (by cases hu)⟩, fun u hu => (by cases hu), HR.out.2.2⟩
          have HG := Lib.hid (HJ.out.2.2.2.2.1 hK0)
          subst hK0
          obtain ⟨e0, e1⟩ := own2 hvo
          have HS := Lib.hid (fun W (h : Own W wi.heap.size 66 u.cells) => (own2 h : W.cell? ⟨wi.heap.size, 0, none⟩ = some (.slice u.rA u.row.length u.rc) ∧ W.cell? ⟨wi.heap.size, 1, none⟩ = some (.int .i64 u.n)))
          go_upto_region 11 with fail
          go_region_held3 (fun w' => Own w' wi.heap.size 66 u.cells ∧ (w'.cell? ⟨wi.heap.size, 0, none⟩ = some (.slice u.rA u.row.length u.rc) ∧ w'.cell? ⟨wi.heap.size, 1, none⟩ = some (.int .i64 u.n)))
            ((refine (fun h => And.intro h (HS.out _ h)) ?_; repeat (first | with_reducible exact ho9 | with_reducible exact ho8 | with_reducible exact hvo | with_reducible refine Own.more ?_ _ | with_reducible refine own_drew' ?_)))
            (first | (go_at_call 24; refine (hof _).out.mono ?_; rintro _ w2 ⟨rfl, b2⟩; have ho8 : Own w2 wi.heap.size 66 u.cells := (own_drew' hvo).past b2 hvo.inside; have hrow2 := own_below hrow5.drew b2; have hb8 := (hb5.drew).trans (b2.mono (hb5.drew).size)) | (refine step_append_lies (size := 4) (cells := Ln.cells Ct.cells) (l := [(⟨u.n, u⟩ : Ln Ct)]) (B := w2.heap.size + 1) _ rfl (.tmp 28) (.tmp 34) 74 77 rfl i0 _ 48 HI.out.1 HI.out.2.1 HI.out.2.2.1 HI.out.2.2.2.1 HI.out.2.2.2.2 rfl (by decide) (fun _ => rfl) lccells_one w.heap.size u4 us.length _ rfl (hrow2.alloc _) 1 w2.heap.size 0 (by simp [Act.eval, Act.put]) (lc_made _ _ _) (by unfold maxLen; simp; omega) (by simp; omega) (by simp; exact Nat.le_succ_of_le hb8.size) ?_; intro v3 w3 ho3 hb3 hv3 hg3; have ho9 : Own w3 wi.heap.size 66 u.cells := (hg3.block _ (by have := ho8.inside; simp; omega) (fun e => HJ.out.2.2.2.2.2.2.2 e.symm)).trans (ho8.more _)))
          all_goals
            have H3 := Lib.hid (And.intro ho3 ((Below.alloc hb8 hb8.size _).trans hb3))
            clear ho3 hb3 hv3 hg3 ho9 ho8 hb8 hrow2 hrow5 hb5 HS hvo b2 hof e0 e1
            go_wp2_with fail
            go_roundw
            case rel =>
              refine ⟨j + 1, by go_num, by omega, ?_, H3.out.2, ?_⟩
              · rw [HJ.out.1, ← List.append_assoc, HJ.out.2.2.1, linesC_snoc, List.flatMap_append, List.length_append]
                exact H3.out.1
              · rw [HJ.out.1, ← List.append_assoc, HJ.out.2.2.1]
                exact HG.out
            case measure => simp [intOf]; omega
        · have hj2 : j = s.l.length := by omega
          have q5 : decide ((j : Int) < (s.l.length : Int)) = false := decide_eq_false (by omega)
          rw [hj2, List.take_length] at hownj hchj
          have HJ := Lib.hid (And.intro hownj (And.intro hbj hchj))
          clear hownj hbj hj2 hchj
          go_wp2_with fail
          go_roundw
          case rel =>
            refine ⟨k + 1, by go_num, by omega, ?_, HJ.out.2.1, ?_⟩
            · rw [flatR_take HO.out.2.2.1]
              exact HJ.out.1
            · rw [flatR_take HO.out.2.2.1]
              exact HJ.out.2.2
          case measure => simp [intOf]; omega
    · have hk2 : k = L.length := by omega
      have q2 : decide ((k : Int) < (L.length : Int)) = false := decide_eq_false (by omega)
      rw [hk2, List.take_length] at hown hchk
      have hgood : ∀ u ∈ flatR L, chkRow u.row = 0 ∧ COk u ∧ CIn w w.heap.size u := fun u hu => by
        obtain ⟨s, hs, hus⟩ := List.mem_flatMap.1 hu
        exact ⟨chkCs_all.1 hchk u hu, HL.out.2 s hs u hus, (HL.out.1.each_ s hs).each_ u hus⟩
      have hmem : ∀ x ∈ linesC (flatR L), x.u ∈ flatR L ∧ x.S = x.u.n := fun x hx => by
        unfold linesC at hx
        obtain ⟨u, hu, rfl⟩ := List.mem_map.1 hx
        exact ⟨hu, rfl⟩
      rw [flatR_flat] at hchk
      have hcl : mergeL (L.map Rw.l) = resL cmpRows ((L.map Rw.l).flatten.map Ct.p) := by unfold mergeL; rw [if_pos hchk]
      have hce : mergeE (L.map Rw.l) = resE cmpRows ((L.map Rw.l).flatten.map Ct.p) := by unfold mergeE; rw [if_pos hchk]
      have hcall := Lib.hid (counts_any u4 (flatR L).length w.heap.size (linesC (flatR L)) wo _ _ (by rw [linesC_pL, flatR_flat, ← hcl]) (by rw [linesC_pL, flatR_flat, ← hce]) (linesC_len _).symm hown hbw.size (fun x hx => (hgood x.u (hmem x hx).1).2.2.past hbw (Nat.le_refl _)) (fun x hx => (hgood x.u (hmem x hx).1).2.1) (fun x hx => (hgood x.u (hmem x hx).1).1)
        (fun x hx => by rw [(hmem x hx).2]; exact (hgood x.u (hmem x hx).1).2.1.dn) hn)
      have HC := Lib.hid hbw
      generalize mergeL (L.map Rw.l) = ML at *
      generalize mergeE (L.map Rw.l) = ME at *
      clear hown hchk hgood hmem hcl hce hbw
      go_wp2_with fail
      refine hcall.out.mono ?_
      rintro _ w9 ⟨A', c', outL, rfl, k1, k2, k3, k4⟩
      have H9 := Lib.hid (And.intro k1 (And.intro k2 (And.intro k3 k4)))
      clear k1 k2 k3 k4 hcall
      go_wp2_with fail
      go_ret2
      exact ⟨A', c', outL, rfl, H9.out.1, H9.out.2.1, H9.out.2.2.1, HC.out.trans H9.out.2.2.2⟩
end Go.Proofs.Ytpfjeibhklacbaa
