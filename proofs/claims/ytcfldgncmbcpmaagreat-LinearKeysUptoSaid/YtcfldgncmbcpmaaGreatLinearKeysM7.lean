/- Part 7 of the texts on which LinearKeys rests: facts and contracts. -/
import Derived.Test.YtcfldgncmbcpmaaGreatLinearKeysM6
import Derived.Test.YtcfldgncmbcpmaaGreatRows
import Derived.WalkKit
import Derived.ProofKit
import Derived.OpenShut
import Derived.JoinedCond
import Derived.Carry
import Derived.ChangeArms
import Derived.Deep.Slices
import Derived.SizedLaws
namespace Go.Proofs.YtcfldgncmbcpmaaGreat
open Go Go.RowKit

/-- the first error of the columns -/
def arrErr (cs : List Int) : List Up → Int
  | [] => 0
  | u :: l => if colsE u.row cs = 0 then arrErr cs l else colsE u.row cs
theorem arrErr_take {cs : List Int} {l : List Up} {k : Nat} {u : Up} (h : l[k]? = some u) (h0 : arrErr cs (l.take k) = 0) : arrErr cs (l.take (k + 1)) = colsE u.row cs := by
  induction l generalizing k with
  | nil => simp at h
  | cons x l ih =>
    cases k with
    | zero =>
      obtain rfl : x = u := by simpa using h
      simp only [List.take_succ_cons, List.take_zero, arrErr]
      split <;> simp [*]
    | succ k =>
      simp only [List.take_succ_cons, arrErr] at h0 ⊢
      split at h0
      · rename_i hx
        rw [if_pos hx]
        exact ih (by simpa using h) h0
      · rename_i hx; exact absurd h0 hx
theorem arrErr_bad {cs : List Int} {l : List Up} {k : Nat} {u : Up} (h : l[k]? = some u) (h0 : arrErr cs (l.take k) = 0) (hu : colsE u.row cs ≠ 0) : arrErr cs l = colsE u.row cs := by
  induction l generalizing k with
  | nil => simp at h
  | cons x l ih =>
    cases k with
    | zero =>
      obtain rfl : x = u := by simpa using h
      simp only [arrErr]
      rw [if_neg hu]
    | succ k =>
      simp only [List.take_succ_cons, arrErr] at h0 ⊢
      split at h0
      · rename_i hx
        rw [if_pos hx]
        exact ih (by simpa using h) h0
      · rename_i hx; exact absurd h0 hx
theorem arrErr_all {cs : List Int} {l : List Up} (h : arrErr cs l = 0) : ∀ u ∈ l, colsE u.row cs = 0 := by
  induction l with
  | nil => intro u hu; cases hu
  | cons x l ih =>
    simp only [arrErr] at h
    split at h
    · rename_i hx
      intro u hu
      rcases List.mem_cons.1 hu with rfl | hu
      · exact hx
      · exact ih h u hu
    · rename_i hx; exact absurd h hx
def arrP (cs : List Int) (l : List Up) : List (Uk × Int) := l.map fun u => (⟨colsL u.row cs, u.row, u.t⟩, u.d)
theorem pick_mem {l : List Vl} {cs : List Int} (h : colsE l cs = 0) : colsL l cs = cs.map (pick l) ∧ cs.length ≤ 8 ∧ ∀ c ∈ cs, 0 ≤ c ∧ c < (l.length : Int) ∧ pick l c ∈ l := by
  refine ⟨by unfold colsL; rw [if_pos h], ?_, ?_⟩
  · unfold colsE at h
    split at h
    · split at h
      · split at h
        · assumption
        · omega
      · omega
    · omega
  · intro c hc
    unfold colsE at h
    split at h
    · split at h
      · rename_i h1
        have := List.all_eq_true.1 h1 c hc
        unfold inR at this
        simp only [Bool.and_eq_true, decide_eq_true_eq] at this
        refine ⟨this.1, this.2, ?_⟩
        unfold pick
        have hlt : c.toNat < l.length := by omega
        rw [List.getD_eq_getElem?_getD, List.getElem?_eq_getElem hlt]
        exact List.getElem_mem hlt
      · omega
    · omega
theorem cols_chk {l : List Vl} {cs : List Int} (h : colsE l cs = 0) (hl : chkRow l = 0) : chkRow (colsL l cs) = 0 := by
  obtain ⟨h1, h2, h3⟩ := pick_mem h
  obtain ⟨h4, h5⟩ := chkRow_zero hl
  unfold chkRow
  rw [if_pos]
  rw [Bool.and_eq_true, List.all_eq_true, h1]
  refine ⟨fun v hv => ?_, by simpa using h2⟩
  obtain ⟨c, hc, rfl⟩ := List.mem_map.1 hv
  exact List.all_eq_true.1 h4 _ (h3 c hc).2.2
theorem uin_own {w w' : World} {v : Value} {u : Up} (h : UIn w w.heap.size u) (ha : Awn (fun b => v.ownBlock ≠ some b) u) (hg : w.grownBy w' v.ownBlock) : UIn w' w'.heap.size u :=
  uin_pk (PB := w.heap.size) (v := v) h ((Awn.and ha (awn_lt h)).imp fun b hb => ⟨by have := hb.2; omega, hb.1⟩) ⟨hg.os, hg.tape, hg.output, hg.size, fun k hk _ hne => hg.block k hk fun e => hne e.symm⟩
/-- what Arrange tells -/
def arrE (cs : List Int) (l : List Up) : Int := if chkUs l = 0 then (if arrErr cs l = 0 then resE Uk.cmp (arrP cs l) else arrErr cs l) else chkUs l
def arrL (cs : List Int) (l : List Up) : List (Uk × Int) := if arrE cs l = 0 then nz Uk.cmp (arrP cs l) else []
set_option maxRecDepth 100000 in
set_option maxHeartbeats 8000000 in
theorem arrange_any (A' : Option Addr) (c' : Nat) (cs : List Int) (A : Option Addr) (c : Nat) (l : List Up) (w : World) (hcs : Ints w w.heap.size A' cs) (hn' : cs.length ≤ maxLen) (hl : Ups w w.heap.size A l) (hok : ∀ u ∈ l, UOk u) (hn : l.length ≤ 1099511627776) :
    Calls Tryz.prog 10 #[.slice A' cs.length c', .slice A l.length c] w (UpsNew (arrL cs l) (arrE cs l) w) := by
  obtain ⟨i0, hi, hz0, hz1, hz2⟩ := info_parts infoUp
  have HI := Lib.hid (And.intro Tryz.underlying22 (And.intro hi (And.intro hz0 (And.intro hz1 hz2))))
  have hck := dcheck_any A c l w hl (by omega) hok
  obtain ⟨K, hK⟩ : ∃ K, chkUs l = K := ⟨_, rfl⟩
  rw [hK] at hck
  have Hck := Lib.hid hck
  have HL := Lib.hid (And.intro hl (And.intro hok (And.intro hK (And.intro hcs hn'))))
  clear hl hok hK hck hi hz0 hz1 hz2 hcs hn'
  go_enter Tryz.func10, Tryz.ntmps10
  go_wp2_with fail
  refine Hck.out.mono ?_
  rintro _ w1 ⟨rfl, b1⟩
  have H1 := Lib.hid b1
  clear b1 Hck
  by_cases hK0 : K = 0
  case neg =>
    have t1 : (K != 0) = true := bne_iff_ne.2 hK0
    have HK0 := Lib.hid hK0
    clear hK0
    go_wp2_with fail
    go_ret2
    have hE : arrE cs l = K := by unfold arrE; rw [HL.out.2.2.1, if_neg HK0.out]
    exact ⟨none, 0, [], by rw [hE]; rfl, by unfold arrL; rw [hE, if_neg HK0.out]; rfl, ⟨Lies.nil_, fun u hu => (by cases hu)⟩, fun u hu => (by cases hu), H1.out, lo_nil _⟩
  subst hK0
  have HC := Lib.hid (chkUs_all.1 HL.out.2.2.1)
  go_wp2_with fail
  go_loopw [7, 19] (fun v7 v19 wr => ∃ (j : Nat) (M : List Up), v19 = .int .i64 (j : Int) ∧ j ≤ l.length ∧ wr.ownsRow w.heap.size 44 6 v7 M.length (M.flatMap Up.cells) ∧ Below w.heap.size w wr ∧ arrErr cs (l.take j) = 0 ∧ M.map Up.p = arrP cs (l.take j) ∧ ∀ u ∈ M, UIn wr wr.heap.size u ∧ UOk u ∧ Awn (fun b => v7.ownBlock ≠ some b) u ∧ chkU u = 0)
    (fun _ v19 _ => l.length - (intOf v19).toNat)
  case atStart => exact ⟨0, [], rfl, Nat.zero_le _, World.ownsRow_nil _ _ _ _, H1.out, rfl, rfl, fun u hu => (by cases hu)⟩
  case round =>
    obtain ⟨j, M, rfl, hj, hown, hb, her, hmap, hM⟩ := hrel
    obtain ⟨wi, hwi⟩ : ∃ wi, wi = wr := ⟨_, rfl⟩
    subst hwi
    have hMl : M.length = j := by
      have := congrArg List.length hmap
      unfold arrP at this
      rw [List.length_map, List.length_map, List.length_take] at this
      omega
    by_cases hlt : j < l.length
    · have hy : l[j]? = some l[j] := List.getElem?_eq_getElem hlt
      have hym := List.mem_of_getElem? hy
      have hbad := fun h => arrErr_bad (cs := cs) hy her h
      have hnx := arrErr_take (cs := cs) hy her
      generalize l[j] = u at *
      obtain ⟨b, o, rfl, hB, hys⟩ := lies_up HL.out.1.head (by omega)
      obtain ⟨e0, e1, e2, e3, e4, e5⟩ := ((hys j u hy).past_ hb hB).six
      obtain ⟨V3, hV3, hb3, hs3, ho3⟩ := upbox wi u
      have hin : UIn w w.heap.size u := HL.out.1.each_ u hym
      have hoku : UOk u := HL.out.2.1 u hym
      have hbV : Below w.heap.size w V3 := hb.trans (hb3.mono hb.size)
      have Hco := Lib.hid (cols_any u.rA u.rc u.row A' c' cs V3 (((hin.row.past hbV (Nat.le_refl _)).wide hbV.size)) (maxn hoku.rn) hoku.rs ((HL.out.2.2.2.1.past hbV (Nat.le_refl _)).wide hbV.size) HL.out.2.2.2.2)
      unfold ColsPost at Hco
      have htk : l.take (j + 1) = l.take j ++ [u] := by rw [List.take_add_one, hy]; rfl
      obtain ⟨E, hE⟩ : ∃ E, colsE u.row cs = E := ⟨_, rfl⟩
      rw [hE] at Hco hbad hnx
      have HJ := Lib.hid (And.intro hown (And.intro hb (And.intro hmap (And.intro hM (And.intro hbad (And.intro hnx (And.intro htk (And.intro hE (And.intro hin (And.intro hoku (And.intro (HC.out u hym) hMl)))))))))))
      have H3 := Lib.hid (And.intro hb3 (And.intro hs3 ho3))
      have q3 : (0 : Int) ≤ (j : Int) := by omega
      have q4 : (j : Int) < (l.length : Int) := by omega
      have q5 : decide ((j : Int) < (l.length : Int)) = true := decide_eq_true q4
      clear hy hym hys hin hoku hbV htk hown hb her hmap hM hbad hnx hE hb3 hs3 hMl
      go_upto_region 8 with fail
      rw [← hV3]
      clear hV3 e0 e1 e2 e3 e4 e5
      obtain ⟨e0, e1, e2, e3, e4, e5⟩ := own6 ho3
      clear ho3
      go_wp2_with fail
      refine Hco.out.mono ?_
      rintro _ w4 ⟨vk, rfl, hok4, b4⟩
      obtain ⟨kA, kc, rfl, _, _, hv4⟩ := vals_of_own rfl hok4
      have hk4 : ∀ b o, kA = some ⟨b, o, none⟩ → V3.heap.size ≤ b := fun b o e => by subst e; exact (hok4.lt b rfl).1
      have ho4 := H3.out.2.2.past b4 H3.out.2.2.inside
      have H4 := Lib.hid (And.intro b4 (And.intro hv4 (And.intro hk4 ho4)))
      clear e0 e1 e2 e3 e4 e5 hok4 hv4 hk4 b4 Hco
      by_cases hE0 : E = 0
      case neg =>
        have t1 : (E != 0) = true := bne_iff_ne.2 hE0
        have HE0 := Lib.hid hE0
        clear hE0 ho4
        go_wp2_with fail
        go_ret2
        have hA : arrErr cs l = E := HJ.out.2.2.2.2.1 HE0.out
        have hE : arrE cs l = E := by unfold arrE; rw [HL.out.2.2.1, if_pos rfl, hA, if_neg HE0.out]
        have hbf : Below w.heap.size w w4 := HJ.out.2.1.trans ((H3.out.1.trans (H4.out.1.mono H3.out.1.size)).mono HJ.out.2.1.size)
        exact ⟨none, 0, [], by rw [hE]; rfl, by unfold arrL; rw [hE, if_neg HE0.out]; rfl, ⟨Lies.nil_, fun u hu => (by cases hu)⟩, fun u hu => (by cases hu), hbf, lo_nil _⟩
      have t1 : (E != 0) = false := by simp [hE0]
      have HE0 := Lib.hid hE0
      obtain ⟨X, hX, hXo, hXb, hXs⟩ := own_zeroth ho4 (.slice kA (colsL u.row cs).length kc)
      have z0 := (own6 ho4).1
      have k0 := (own_frozen6 ho4).1
      have hb4X : Below wi.heap.size wi X := hXb _ _ (H3.out.1.trans (H4.out.1.mono H3.out.1.size)) (Nat.le_refl _)
      obtain ⟨y0, y1, y2, y3, y4, y5⟩ := own6 hXo
      have hpk : PKeep w4 X wi.heap.size (.slice none 0 0) := hX ▸ pk_set w4 wi.heap.size 0 _ _
      have hkeyX : Vals X X.heap.size kA (colsL u.row cs) := vals_pk H4.out.2.1 hpk fun _ b o e => ⟨by have := H4.out.2.2.1 b o e; have := H3.out.2.1; omega, by simp [Value.ownBlock]⟩
      obtain ⟨x, hx⟩ : ∃ x : Up, x = ⟨kA, kc, colsL u.row cs, u.rA, u.rc, u.row, u.t, u.d⟩ := ⟨_, rfl⟩
      have hxin : UIn X X.heap.size x := by
        have hbw : Below w.heap.size w X := HJ.out.2.1.trans (hb4X.mono HJ.out.2.1.size)
        have h := HJ.out.2.2.2.2.2.2.2.2.1
        rw [hx]
        exact ⟨hkeyX, (h.row.past hbw (Nat.le_refl _)).wide hbw.size⟩
      have hpm := pick_mem (HJ.out.2.2.2.2.2.2.2.1.trans hE0)
      have hxok : UOk x := by
        have h := HJ.out.2.2.2.2.2.2.2.2.2.1
        rw [hx]
        refine ⟨by show (colsL u.row cs).length ≤ _; rw [hpm.1, List.length_map]; omega, h.rn, fun v hv => ?_, h.rs, h.dn⟩
        change v ∈ colsL u.row cs at hv
        rw [hpm.1] at hv
        obtain ⟨d, hd, rfl⟩ := List.mem_map.1 hv
        exact h.rs _ (hpm.2.2 d hd).2.2
      have hxa : Awn (fun b => u7.ownBlock ≠ some b) x := by
        have h1 : Awn (fun b => u7.ownBlock ≠ some b) u := (awn_lt HJ.out.2.2.2.2.2.2.2.2.1).imp fun b hb e => by have := (HJ.out.1.lt b e).1; omega
        rw [hx]
        exact ⟨fun _ b o e e' => by have := H4.out.2.2.1 b o e; have := (HJ.out.1.lt b e').2; have := H3.out.2.1; omega, h1.2⟩
      have hxc : chkU x = 0 := by
        obtain ⟨k1, k2, k3⟩ := chkK_zero HJ.out.2.2.2.2.2.2.2.2.2.2.1
        change chkRow u.row = 0 at k2
        have hcc := cols_chk (HJ.out.2.2.2.2.2.2.2.1.trans hE0) k2
        rw [hx]
        unfold chkU chkK Up.k orI
        dsimp only
        rw [hcc, k2]
        exact k3
      have hrowX := own_below HJ.out.1 hb4X
      have HX := Lib.hid (And.intro hb4X (And.intro hxin (And.intro hxok (And.intro hxa (And.intro hxc (And.intro hrowX hx))))))
      have Hrow := Lib.hid (own_below hrowX ((Below.refl _ X).alloc (Nat.le_refl _) (.cells #[.slice kA (colsL u.row cs).length kc, .slice u.rA u.row.length u.rc, .int .u64 (u.t.e : Int), .int .u64 (u.t.a : Int), .int .u64 (u.t.b : Int), .int .i64 u.d] 44)))
      have hp := Lib.hid (up_made X x)
      rw [hx] at hp
      have hszX : w.heap.size ≤ X.heap.size := Nat.le_trans HJ.out.2.1.size hb4X.size
      have HMl := Lib.hid (show M.length = j from HJ.out.2.2.2.2.2.2.2.2.2.2.2)
      clear hE0 ho4 hXo hXb hXs hb4X hpk hkeyX hxin hpm hxok hxa hxc hrowX hx
      go_upto_region 12 with fail
      rw [← hX]
      clear hX z0 k0
      go_wp2_with (at_builtin; refine wpList_append_grown _ rfl (.tmp 35) (.tmp 37) 22 44 rfl i0 _ 80 HI.out.1 HI.out.2.1 HI.out.2.2.1 HI.out.2.2.2.1 HI.out.2.2.2.2 rfl (by decide) ucells_len ucells_one w.heap.size _ _ _ rfl Hrow.out 1 rfl hp.out ?m1 ?m2 ?m3 ?m4)
      case m1 => show M.length + 1 ≤ maxLen; have := HMl.out; unfold maxLen; omega
      case m2 => show (M.length + 1) * 80 ≤ 140737488355328; have := HMl.out; omega
      case m3 => simp; omega
      intro v' w' ho' hb' hob' hg'
      have hgr : ∀ y : Up, UIn X X.heap.size y → Awn (fun b => u7.ownBlock ≠ some b) y → UIn w' w'.heap.size y ∧ Awn (fun b => v'.ownBlock ≠ some b) y := fun y h1 h2 => by
        refine ⟨uin_own (h1.keep ((Below.refl _ X).alloc (Nat.le_refl _) _)) h2 hg', (Awn.and h2 (awn_lt h1)).imp fun b hb e => ?_⟩
        rcases hob' with e1 | e1
        · rw [e1] at e; exact hb.1 e
        · rw [e1] at e
          injection e with e
          have := hb.2
          first | omega | (simp at e; omega)
      have HA := Lib.hid (And.intro ho' (And.intro (((HJ.out.2.1.trans (HX.out.1.mono HJ.out.2.1.size)).alloc hszX _).trans hb') hgr))
      clear ho' hb' hob' hg' hgr y0 y1 y2 y3 y4 y5
      go_wp2_with fail
      go_roundw
      case rel =>
        obtain ⟨j1, j2, j3, j4, j5, j6, j7, j8, j9, j10, j11, j12⟩ := HJ.out
        refine ⟨j + 1, M ++ [x], by go_num, by omega, ?_, HA.out.2.1, by rw [j6, HE0.out], ?_, fun y hy => ?_⟩
        · rw [List.flatMap_append, List.length_append, HX.out.2.2.2.2.2.2]
          exact HA.out.1
        · rw [j7, List.map_append, j3]
          unfold arrP
          rw [List.map_append, List.map_cons, List.map_cons, List.map_nil, List.map_nil, HX.out.2.2.2.2.2.2]
          rfl
        · rcases List.mem_append.1 hy with hy | hy
          · obtain ⟨k1, k2, k3, k4⟩ := j4 y hy
            obtain ⟨g1, g2⟩ := HA.out.2.2 y (k1.keep HX.out.1) k3
            exact ⟨g1, k2, g2, k4⟩
          · obtain rfl : y = x := by simpa using hy
            obtain ⟨g1, g2⟩ := HA.out.2.2 y HX.out.2.1 HX.out.2.2.2.1
            exact ⟨g1, HX.out.2.2.1, g2, HX.out.2.2.2.2.1⟩
      case measure => simp [intOf]; omega
    · have hj2 : j = l.length := by omega
      have q5 : decide ((j : Int) < (l.length : Int)) = false := decide_eq_false (by omega)
      rw [hj2, List.take_length] at her hmap
      obtain ⟨A3, c3, rfl, _, _, h3⟩ := lies_of_own (size := 6) (cells := Up.cells) (by decide) ucells_len rfl hown
      have hu3 : Ups wi wi.heap.size A3 M := ⟨h3, fun x hx => (hM x hx).1⟩
      obtain ⟨V, hV, hvb, hvl⟩ := one_list wi A3 c3 M hu3
      have hcall := consolidate_new (some ⟨wi.heap.size, 0, none⟩) 1 [⟨A3, c3, M⟩] V hvl (fun s hs x hx => by
        obtain rfl : s = ⟨A3, c3, M⟩ := by simpa using hs
        exact (hM x hx).2.1) (by simp [flatR]; omega) (by simp)
      unfold UpsNew at hcall
      simp only [List.map_cons, List.map_nil] at hcall
      have hcg := cons_group (l := M) fun x hx => (hM x hx).2.2.2
      unfold fitU at hcg
      rw [hmap] at hcg
      have hEE : arrE cs l = consE [M] := by
        rw [hcg.1]
        unfold arrE
        rw [HL.out.2.2.1, if_pos rfl, her, if_pos rfl]
        rfl
      have hLL : arrL cs l = consL [M] := by
        unfold arrL
        rw [hEE, hcg.2, hcg.1]
        by_cases hf : ((asm Uk.cmp (arrP cs l)).all fun x => fits x.2) = true
        · rw [if_pos hf, if_pos hf, if_pos rfl]
        · rw [if_neg hf, if_neg hf, if_neg (by omega)]
      rw [← hEE, ← hLL] at hcall
      obtain ⟨E, hE⟩ : ∃ E, arrE cs l = E := ⟨_, rfl⟩
      rw [hE] at hcall
      have HE := Lib.hid hE
      have HCl := Lib.hid hcall
      have HV := Lib.hid (And.intro (hb.trans (hvb.mono hb.size)) (Nat.le_trans hb.size hvb.size))
      clear hown hb h3 hu3 hvb hvl hcall hE hj2 hcg hEE hLL hM hmap her hMl
      go_wp2_with fail
      rw [← hV]
      clear hV
      refine HCl.out.mono ?_
      rintro _ w4 ⟨A4, k4, outL, rfl, hp4, hu4, ho4, b4, hlo4⟩
      have HF := Lib.hid (And.intro (HV.out.1.trans (b4.mono HV.out.1.size)) (And.intro hp4 (And.intro hu4 (And.intro ho4 hlo4))))
      clear hp4 hu4 ho4 b4 hlo4 HCl
      go_wp2_with fail
      go_ret2
      exact ⟨A4, k4, outL, by rw [HE.out]; rfl, HF.out.2.1, HF.out.2.2.1, HF.out.2.2.2.1, HF.out.1, ⟨fun b o e => Nat.le_trans HV.out.2 (HF.out.2.2.2.2.1 b o e), fun u hu b o e => Nat.le_trans HV.out.2 (HF.out.2.2.2.2.2 u hu b o e)⟩⟩
end Go.Proofs.YtcfldgncmbcpmaaGreat
namespace Go.Proofs.YtcfldgncmbcpmaaGreat
open Go Go.RowKit

/-- what Do tells of another kind -/
def NoneSays (l : List Up) (w : World) (x : Ending) (w' : World) : Prop :=
  x = .returned (.tuple #[.slice none 0 0, .agg #[.int .u64 0, .int .u64 0, .int .u64 0], .int .i64 (if chkUs l = 0 then 4 else chkUs l)]) ∧ Below w.heap.size w w'
set_option maxRecDepth 100000 in
set_option maxHeartbeats 16000000 in
theorem do_other (k n a r : Int) (hk : 0 ≤ k ∧ k ≤ 255) (hf : mkF k = none) (A1 A2 A3 A4 : Option Addr) (l1 l2 l3 l4 c1 c2 c3 c4 : Nat) (A : Option Addr) (c : Nat) (l : List Up) (w : World) (hl : Ups w w.heap.size A l) (hok : ∀ u ∈ l, UOk u) (hn : l.length ≤ 1099511627776) :
    Calls Tryz.prog 8 #[.agg #[.int .u8 k, .int .i64 n, .slice A1 l1 c1, .slice A2 l2 c2, .slice A3 l3 c3, .slice A4 l4 c4, .int .u8 a, .int .i64 r], .slice A l.length c] w (NoneSays l w) := by
  obtain ⟨V, hV, hvb, hvs, hvp, hvt⟩ := pbox w k n a r A1 A2 A3 A4 l1 l2 l3 l4 c1 c2 c3 c4
  have hck := dcheck_any A c l V (hl.keep hvb) (by omega) hok
  obtain ⟨K, hK⟩ : ∃ K, chkUs l = K := ⟨_, rfl⟩
  rw [hK] at hck
  have Hck := Lib.hid hck
  have HL := Lib.hid (And.intro hl (And.intro hok hK))
  have HV := Lib.hid (And.intro hvb (And.intro hvp (And.intro hvt hvs)))
  clear hl hok hK hck hvb hvp hvt hvs
  go_enter Tryz.func8, Tryz.ntmps8
  go_upto_region 1 with fail
  rw [← hV]
  clear hV
  go_wp2_with fail
  refine Hck.out.mono ?_
  rintro _ w1 ⟨rfl, b1⟩
  have H1 := Lib.hid (And.intro (belows HV.out.1 b1) (And.intro (HV.out.2.1.past b1 HV.out.2.1.inside) (And.intro (HV.out.2.2.1.past b1 HV.out.2.2.1.inside) (show w.heap.size + 2 ≤ w1.heap.size by have := HV.out.2.2.2; have := b1.size; omega))))
  clear b1 Hck
  by_cases hK0 : K = 0
  case neg =>
    have t1 : (K != 0) = true := bne_iff_ne.2 hK0
    obtain ⟨X, hX, hXo, hXk, hXs⟩ := own_three H1.out.2.2.1 (.int .u64 0) (.int .u64 0) (.int .u64 0)
    have hbX : Below w.heap.size w X := H1.out.1.trans (hXk.below (by have := H1.out.2.2.2; omega) (Nat.le_succ _) (fun k e => by simp [Value.ownBlock] at e))
    obtain ⟨z0, z1, z2⟩ : w1.cell? ⟨w.heap.size + 1, 0, none⟩ = some (.int .u64 0) ∧ w1.cell? ⟨w.heap.size + 1, 1, none⟩ = some (.int .u64 0) ∧ w1.cell? ⟨w.heap.size + 1, 2, none⟩ = some (.int .u64 0) := ⟨H1.out.2.2.1.at_ 0, H1.out.2.2.1.at_ 1, H1.out.2.2.1.at_ 2⟩
    have f0 := H1.out.2.2.1.open_ 0
    have f1 := H1.out.2.2.1.open_ 1
    have f2 := H1.out.2.2.1.open_ 2
    obtain ⟨x0, x1, x2⟩ : X.cell? ⟨w.heap.size + 1, 0, none⟩ = some (.int .u64 0) ∧ X.cell? ⟨w.heap.size + 1, 1, none⟩ = some (.int .u64 0) ∧ X.cell? ⟨w.heap.size + 1, 2, none⟩ = some (.int .u64 0) := ⟨hXo.at_ 0, hXo.at_ 1, hXo.at_ 2⟩
    have HB := Lib.hid hbX
    have HK0 := Lib.hid hK0
    clear hXo hXk hXs hbX hK0
    go_wp2_with fail
    rw [← hX]
    clear hX
    exact bodyPost_ret (v := .tuple #[.slice none 0 0, .agg #[.int .u64 0, .int .u64 0, .int .u64 0], .int .i64 K]) (by simp [results, Tryz.results8, go_sem, x0, x1, x2]) rfl
      ⟨by rw [HL.out.2.2, if_neg HK0.out], HB.out⟩
  subst hK0
  have hchk := chkUs_all.1 HL.out.2.2
  have HC := Lib.hid hchk
  obtain ⟨p0, p1, p2, p3, p4, p5, p6, p7⟩ : w1.cell? ⟨w.heap.size, 0, none⟩ = some (.int .u8 k) ∧ w1.cell? ⟨w.heap.size, 1, none⟩ = some (.int .i64 n) ∧ w1.cell? ⟨w.heap.size, 2, none⟩ = some (.slice A1 l1 c1) ∧ w1.cell? ⟨w.heap.size, 3, none⟩ = some (.slice A2 l2 c2) ∧ w1.cell? ⟨w.heap.size, 4, none⟩ = some (.slice A3 l3 c3) ∧ w1.cell? ⟨w.heap.size, 5, none⟩ = some (.slice A4 l4 c4) ∧ w1.cell? ⟨w.heap.size, 6, none⟩ = some (.int .u8 a) ∧ w1.cell? ⟨w.heap.size, 7, none⟩ = some (.int .i64 r) :=
    ⟨H1.out.2.1.at_ 0, H1.out.2.1.at_ 1, H1.out.2.1.at_ 2, H1.out.2.1.at_ 3, H1.out.2.1.at_ 4, H1.out.2.1.at_ 5, H1.out.2.1.at_ 6, H1.out.2.1.at_ 7⟩
  have hmk := fun W => Lib.hid (makers_any W)
  unfold MakersSays at hmk
  clear hchk
  go_upto_region 4 with fail
  have hself : Bl w1 w1 := Bl.refl _
  have HP := Lib.hid (fun W (h : Bl w1 W) => (H1.out.2.1.past h H1.out.2.1.inside).at_ 0)
  simp only [List.getElem?_cons_zero] at HP
  go_region_held3 (fun w' => Bl w1 w' ∧ (w'.cell? ⟨w.heap.size, 0, none⟩ = some (.int .u8 k)))
    ((refine (fun h => And.intro h (HP.out _ h)) ?_; repeat (first | with_reducible exact hb2 | with_reducible exact hself | with_reducible refine Bl.more ?_ _ | with_reducible refine Bl.drew ?_)))
    (first | (go_at_call 20; refine (hmk _).out.mono ?_; rintro _ w2 ⟨G, rfl, b2, hlook⟩; have hb2 : Bl w1 w2 := Bl.call (by repeat (first | with_reducible exact hself | with_reducible refine Bl.more ?_ _ | with_reducible refine Bl.drew ?_)) b2; have hlk := hlook w2 (Below.refl _ _) k hk; rw [show mkV k = .nilFunc by unfold mkV; rw [hf], hf, show (none : Option Nat).isSome = false from rfl] at hlk))
  clear hlook b2 hmk hlk p0 p1 p2 p3 p4 p5 p6 p7
  have hR2 := H1.out.2.2.1.past hb2 H1.out.2.2.1.inside
  have hbw : Below w.heap.size w w2 := H1.out.1.trans (hb2.below.mono (Nat.le_trans (by have := H1.out.2.2.2; omega) (Nat.le_refl _)))
  obtain ⟨X, hX, hXo, hXk, hXs⟩ := own_three hR2 (.int .u64 0) (.int .u64 0) (.int .u64 0)
  have hbX : Below w.heap.size w X := hbw.trans (hXk.below (by have := hbw.size; omega) (Nat.le_succ _) (fun k e => by simp [Value.ownBlock] at e))
  obtain ⟨z0, z1, z2⟩ : w2.cell? ⟨w.heap.size + 1, 0, none⟩ = some (.int .u64 0) ∧ w2.cell? ⟨w.heap.size + 1, 1, none⟩ = some (.int .u64 0) ∧ w2.cell? ⟨w.heap.size + 1, 2, none⟩ = some (.int .u64 0) := ⟨hR2.at_ 0, hR2.at_ 1, hR2.at_ 2⟩
  have f0 := hR2.open_ 0
  have f1 := hR2.open_ 1
  have f2 := hR2.open_ 2
  obtain ⟨x0, x1, x2⟩ : X.cell? ⟨w.heap.size + 1, 0, none⟩ = some (.int .u64 0) ∧ X.cell? ⟨w.heap.size + 1, 1, none⟩ = some (.int .u64 0) ∧ X.cell? ⟨w.heap.size + 1, 2, none⟩ = some (.int .u64 0) := ⟨hXo.at_ 0, hXo.at_ 1, hXo.at_ 2⟩
  have HB := Lib.hid hbX
  clear hXo hXk hXs hbX hR2 hbw hb2 hself
  go_wp2_with fail
  rw [← hX]
  clear hX
  exact bodyPost_ret (v := .tuple #[.slice none 0 0, .agg #[.int .u64 0, .int .u64 0, .int .u64 0], .int .i64 4]) (by simp [results, Tryz.results8, go_sem, x0, x1, x2]) rfl ⟨by rw [HL.out.2.2, if_pos rfl], HB.out⟩
set_option maxRecDepth 100000 in
set_option maxHeartbeats 1600000 in
theorem row_any (n : Int) (w : World) : Calls Tryz.prog 17 #[.int .i64 n] w fun x w' => ∃ G, x = .returned (.slice (some ⟨G, 0, none⟩) 1 1) ∧ Vals w' w'.heap.size (some ⟨G, 0, none⟩) [vnum n] ∧ Below w.heap.size w w' := by
  have hv := Lib.hid (vals_num w n)
  go_enter Tryz.func17, Tryz.ntmps17
  go_wp2_with fail
  go_ret
  exact ⟨_, rfl, hv.out, (Below.refl _ _).alloc (Nat.le_refl _) _⟩
end Go.Proofs.YtcfldgncmbcpmaaGreat
namespace Go.Proofs.YtcfldgncmbcpmaaGreat
open Go Go.RowKit

theorem box_one (w : World) (G : Nat) (n d : Int) (h1 : Vals w w.heap.size (some ⟨G, 0, none⟩) [vnum n]) :
    ∃ V, V = w.alloc (.cells #[.slice none 0 0, .slice (some ⟨G, 0, none⟩) 1 1, .int .u64 0, .int .u64 0, .int .u64 0, .int .i64 d] 44) ∧ Below w.heap.size w V ∧ Ups V V.heap.size (some ⟨w.heap.size, 0, none⟩) [lu G n d 0] := by
  obtain ⟨W, e1, s1, b1, o1⟩ := boxd w [.slice none 0 0, .slice (some ⟨G, 0, none⟩) 1 1, .int .u64 0, .int .u64 0, .int .u64 0, .int .i64 d] 44
  refine ⟨W, e1, b1, ups_own (t := 44) (l := [lu G n d 0]) o1 fun u hu => ?_⟩
  obtain rfl : u = lu G n d 0 := by simpa using hu
  exact lu_in (vals_keep h1 b1)
theorem int_one (w : World) (n : Int) : ∃ V, V = w.alloc (.cells #[.int .i64 n] 3) ∧ Below w.heap.size w V ∧ Ints V V.heap.size (some ⟨w.heap.size, 0, none⟩) [n] := by
  obtain ⟨W, e1, s1, b1, o1⟩ := boxd w [.int .i64 n] 3
  refine ⟨W, e1, b1, fun _ => ⟨w.heap.size, 0, rfl, o1.inside, fun i x hx => ?_⟩⟩
  match i, hx with
  | 0, hx =>
    obtain rfl : n = x := by simpa using hx
    exact o1.at_ 0
def ku (a : Nat) (k : List Vl) : Uk := ⟨k, [vnum 1], ⟨0, a, 0⟩⟩
theorem neg0 (G : Nat) : chkUs [lu G 1 2 0] = 0 ∧ okAll mkNeg [lu G 1 2 0] = true ∧ fitP ([lu G 1 2 0].map (madeP mkNeg)) = true ∧ nz Uk.cmp ([lu G 1 2 0].map (madeP mkNeg)) = [(ku 0 [], (-2 : Int))] := ⟨by kernel_rfl, by kernel_rfl, by kernel_rfl, by kernel_rfl⟩
theorem arr0 (G : Nat) : arrE [0] [lu G 1 2 0] = 0 ∧ arrL [0] [lu G 1 2 0] = [(ku 0 [vnum 1], (2 : Int))] := ⟨by kernel_rfl, by kernel_rfl⟩
theorem ent0 (G : Nat) : chkL 0 3 [lu G 1 2 0] = 0 ∧ entOk 0 [lu G 1 2 0] = true ∧ fitP (entP 0 [lu G 1 2 0]) = true ∧ nz Uk.cmp (entP 0 [lu G 1 2 0]) = [(ku 0 [], (2 : Int)), (ku 1 [], (-2 : Int))] := ⟨by kernel_rfl, by kernel_rfl, by kernel_rfl, by kernel_rfl⟩
/-- updates told by what they are of -/
theorem up_two {c : List Up} (h : c.map Up.p = [(ku 0 [], (2 : Int)), (ku 1 [], (-2 : Int))]) : ∃ A1 k1 B1 c1 A2 k2 B2 c2, c = [⟨A1, k1, [], B1, c1, [vnum 1], ⟨0, 0, 0⟩, 2⟩, ⟨A2, k2, [], B2, c2, [vnum 1], ⟨0, 1, 0⟩, -2⟩] := by
  have hl : c.length = 2 := by have := congrArg List.length h; simpa using this
  match c, hl with
  | [x, y], _ =>
    obtain ⟨A1, k1, a, B1, c1, b, t, d⟩ := x
    obtain ⟨A2, k2, a', B2, c2, b', t', d'⟩ := y
    simp only [List.map_cons, List.map_nil, Up.p, Up.k, ku, List.cons.injEq, Prod.mk.injEq, Uk.mk.injEq, and_true] at h
    obtain ⟨⟨⟨rfl, rfl, rfl⟩, rfl⟩, ⟨rfl, rfl, rfl⟩, rfl⟩ := h
    exact ⟨A1, k1, B1, c1, A2, k2, B2, c2, rfl⟩
theorem up_one {c : List Up} {K : Uk} {d : Int} (h : c.map Up.p = [(K, d)]) : ∃ x, c = [x] ∧ x.key = K.key ∧ x.row = K.row ∧ x.t = K.t ∧ x.d = d := by
  have hl : c.length = 1 := by have := congrArg List.length h; simpa using this
  match c, hl with
  | [x], _ =>
    have hp : x.p = (K, d) := by simpa using h
    have hk : x.k = K := congrArg Prod.fst hp
    exact ⟨x, rfl, by rw [← hk]; rfl, by rw [← hk]; rfl, by rw [← hk]; rfl, congrArg Prod.snd hp⟩
set_option maxRecDepth 100000 in
set_option maxHeartbeats 6400000 in
theorem lives_true (w : World) : Calls Tryz.prog 7 #[] w fun e w' => e = .returned (.bool true) ∧ Below w.heap.size w w' := by
  have y1 := fun W => Lib.hid (row_any 1 W)
  go_enter Tryz.func7, Tryz.ntmps7
  go_wp2_with fail
  refine (y1 _).out.mono ?_
  rintro _ w1 ⟨G, rfl, v1, b1⟩
  obtain ⟨V1, hV1, hb1, hu1⟩ := box_one w1 G 1 2 v1
  have hoku : ∀ u ∈ [lu G 1 2 0], UOk u := fun u hu => by
    obtain rfl : u = lu G 1 2 0 := by simpa using hu
    exact lu_ok (by decide) (by decide)
  have hcall := do_negated 0 0 0 none none none none 0 0 0 0 0 0 0 0 (some ⟨w1.heap.size, 0, none⟩) 1 [lu G 1 2 0] V1 hu1 hoku (by simp)
  unfold DoSays at hcall
  have HC := Lib.hid hcall
  have H1 := Lib.hid (And.intro (belows b1 hb1) (And.intro hu1 hoku))
  clear v1 b1 hb1 hu1 hoku hcall y1
  go_wp2_with fail
  rw [← hV1]
  clear hV1
  refine HC.out.mono ?_
  rintro _ w2 ⟨A2, k2, aL, t2, E2, rfl, hE2, hL2, hu2, ho2, b2, _, _⟩
  obtain ⟨n1, n2, n3, n4⟩ := neg0 G
  obtain rfl : E2 = 0 := hE2.2 ⟨n1, n2, n3⟩
  have hp2 := (hL2 rfl).1
  rw [n4] at hp2
  obtain ⟨a0, rfl, _, _, _, hd2⟩ := up_one hp2
  obtain ⟨W2, hW2, hb2', hs2', _⟩ := tbox w2 t2
  obtain ⟨V3, hV3, hb3, hi3⟩ := int_one W2 0
  have hbb := belows (belows b2 hb2') hb3
  have hcall := arrange_any (some ⟨W2.heap.size, 0, none⟩) 1 [0] (some ⟨w1.heap.size, 0, none⟩) 1 [lu G 1 2 0] V3 hi3 (by unfold maxLen; simp) (H1.out.2.1.keep hbb) H1.out.2.2 (by simp)
  rw [(arr0 G).1, (arr0 G).2, hs2'] at hcall
  unfold UpsNew at hcall
  have HC3 := Lib.hid hcall
  have H2 := Lib.hid (And.intro (belows H1.out.1 hbb) (And.intro (H1.out.2.1.keep hbb) (And.intro ((hu2.keep hb2').keep hb3) hd2)))
  clear hE2 hL2 hu2 ho2 b2 n1 n2 n3 n4 hp2 hd2 hb2' hs2' hb3 hi3 hbb hcall HC
  go_wp2_with fail
  rw [← hW2, ← hV3]
  clear hW2 hV3
  refine HC3.out.mono ?_
  rintro _ w3 ⟨A3, k3, bL, rfl, hp3, hu3, ho3, b3, _⟩
  obtain ⟨b0, rfl, hk3, _, _, _⟩ := up_one hp3
  have hcall := enter_any 0 3 (some ⟨w1.heap.size, 0, none⟩) 1 [lu G 1 2 0] w3 (H2.out.2.1.keep b3) H1.out.2.2 (by simp)
  unfold EntSays at hcall
  have HC4 := Lib.hid hcall
  have H3 := Lib.hid (And.intro (belows H2.out.1 b3) (And.intro (H2.out.2.1.keep b3) (And.intro (H2.out.2.2.1.keep b3) (And.intro hu3 hk3))))
  clear hp3 hu3 ho3 b3 hk3 hcall HC3
  go_wp2_with fail
  refine HC4.out.mono ?_
  rintro _ w4 ⟨A4, k4, cL, t4, E4, rfl, hE4, hL4, hu4, ho4, b4, _, _⟩
  obtain ⟨n1, n2, n3, n4⟩ := ent0 G
  obtain rfl : E4 = 0 := hE4.2 ⟨n1, n2, n3⟩
  have hp4 := (hL4 rfl).1
  rw [n4] at hp4
  obtain ⟨A1', k1', B1', c1', A2', k2', B2', c2', rfl⟩ := up_two hp4
  obtain ⟨W4, hW4, hb4', _, _⟩ := tbox w4 t4
  have hu4' := hu4.keep hb4'
  have hcall := next_0 1 A4 k4 _ W4 hu4' ho4 (by simp)
  rw [show nxtE 0 1 [⟨A1', k1', [], B1', c1', [vnum 1], ⟨0, 0, 0⟩, 2⟩, ⟨A2', k2', [], B2', c2', [vnum 1], ⟨0, 1, 0⟩, -2⟩] = 0 by kernel_rfl, show nxtL 0 1 [⟨A1', k1', [], B1', c1', [vnum 1], ⟨0, 0, 0⟩, 2⟩, ⟨A2', k2', [], B2', c2', [vnum 1], ⟨0, 1, 0⟩, -2⟩] = [(ku 1 [], (2 : Int))] by kernel_rfl] at hcall
  unfold UpsNew at hcall
  have HC5 := Lib.hid hcall
  have hbb := belows b4 hb4'
  have H4 := Lib.hid (And.intro (belows H3.out.1 hbb) (And.intro (H3.out.2.1.keep hbb) (And.intro (H3.out.2.2.1.keep hbb) (And.intro (H3.out.2.2.2.1.keep hbb) (And.intro hu4' ho4)))))
  clear hE4 hL4 hu4 hu4' ho4 b4 n1 n2 n3 n4 hp4 hb4' hbb hcall HC4
  go_wp2_with fail
  rw [← hW4]
  clear hW4
  refine HC5.out.mono ?_
  rintro _ w5 ⟨A5, k5, dL, rfl, hp5, hu5, ho5, b5, _⟩
  obtain ⟨d0, rfl, _, _, _, _⟩ := up_one hp5
  have hcall := leave_any 0 (.inl rfl) A4 k4 _ w5 (H4.out.2.2.2.2.1.keep b5) H4.out.2.2.2.2.2 (by simp)
  unfold LevSays at hcall
  have HC6 := Lib.hid hcall
  have H5 := Lib.hid (And.intro (belows H4.out.1 b5) (And.intro (H4.out.2.1.keep b5) (And.intro (H4.out.2.2.1.keep b5) (And.intro (H4.out.2.2.2.1.keep b5) (H4.out.2.2.2.2.1.keep b5)))))
  clear hp5 hu5 ho5 b5 hcall HC5
  go_wp2_with fail
  refine HC6.out.mono ?_
  rintro _ w6 ⟨A6, k6, eL, t6, E6, rfl, hE6, hL6, hu6, ho6, b6, _, _⟩
  obtain rfl : E6 = 0 := hE6.2 ⟨by kernel_rfl, by kernel_rfl⟩
  have hp6 := (hL6 rfl).1
  rw [show nz Uk.cmp (levP 0 [⟨A1', k1', [], B1', c1', [vnum 1], ⟨0, 0, 0⟩, 2⟩, ⟨A2', k2', [], B2', c2', [vnum 1], ⟨0, 1, 0⟩, -2⟩]) = [] by kernel_rfl] at hp6
  obtain rfl : eL = [] := List.map_eq_nil_iff.1 hp6
  obtain ⟨W6, hW6, hb6', _, _⟩ := tbox w6 t6
  have hbb := belows b6 hb6'
  have hcall := do_other 0 0 0 0 (by decide) rfl none none none none 0 0 0 0 0 0 0 0 (some ⟨w1.heap.size, 0, none⟩) 1 [lu G 1 2 0] W6 (H5.out.2.1.keep hbb) H1.out.2.2 (by simp)
  unfold NoneSays at hcall
  rw [(neg0 G).1, if_pos rfl] at hcall
  have HC7 := Lib.hid hcall
  have H6 := Lib.hid (And.intro (belows H5.out.1 hbb) (And.intro (H5.out.2.2.1.keep hbb) (And.intro (H5.out.2.2.2.1.keep hbb) (H5.out.2.2.2.2.keep hbb))))
  clear hE6 hL6 hu6 ho6 b6 hp6 hb6' hbb hcall HC6
  go_wp2_with fail
  rw [← hW6]
  clear hW6
  refine HC7.out.mono ?_
  rintro _ w7 ⟨rfl, b7⟩
  obtain ⟨W7, hW7, hb7', _, _⟩ := zbox w7
  have hbb := belows b7 hb7'
  have hua := H6.out.2.1.keep hbb
  have hub := H6.out.2.2.1.keep hbb
  have huc := H6.out.2.2.2.keep hbb
  obtain ⟨ba, oa, rfl, hBa, hca⟩ := lies_up hua.head (by simp)
  obtain ⟨bb, ob, rfl, hBb, hcb⟩ := lies_up hub.head (by simp)
  obtain ⟨bc, oc, rfl, hBc, hcc⟩ := lies_up huc.head (by simp)
  have fa := (hca 0 a0 rfl).six.2.2.2.2.2
  have fb := (hcb 0 b0 rfl).six.1
  have fc := (hcc 1 _ rfl).six.2.2.2.1
  have hkb := (hub.each_ b0 (by simp)).key
  rw [H3.out.2.2.2.2] at hkb
  change Vals W7 W7.heap.size b0.kA [vnum 1] at hkb
  obtain ⟨bk, ok, ek, hBk, hck⟩ := hkb (by simp)
  have fk := (hck 0 (vnum 1) rfl).2.1
  have hd := H2.out.2.2.2
  have hkl : b0.key.length = 1 := by rw [H3.out.2.2.2.2]; rfl
  rw [hd] at fa
  rw [ek, hkl] at fb
  simp only [Nat.zero_mul, Nat.add_zero, Nat.one_mul] at fa fb fc fk
  change W7.cell? ⟨bk, ok + 1, none⟩ = some (.int .i64 1) at fk
  have HF := Lib.hid (belows H6.out.1 hbb)
  clear hbb hua hub huc hca hcb hcc hkb hck b7 hb7' HC7 ek hd hkl
  subst hW7
  go_wp2_with fail
  go_ret
  exact ⟨rfl, HF.out⟩
end Go.Proofs.YtcfldgncmbcpmaaGreat
namespace Go.Proofs.YtcfldgncmbcpmaaGreat
open Go Go.RowKit

def negX (x : Uk × Int) : Uk × Int := (x.1, -x.2)
theorem sumOf_neg (l : List (Uk × Int)) (k : Uk) : sumOf Uk.cmp (l.map negX) k = - sumOf Uk.cmp l k := by
  induction l with
  | nil => rfl
  | cons x l ih =>
    simp only [List.map_cons, sumOf, ih, negX]
    split <;> omega
theorem fitE_zero {S : Int} (h : fitE S = 0) : fitN S = S := by
  unfold fitE at h
  unfold fitN
  split at h
  · rename_i h1; rw [if_pos h1]
  · omega
theorem made_neg {l : List Up} (h : okAll mkNeg l = true) : l.map (madeP mkNeg) = (l.map (madeP mkKeep)).map negX := by
  rw [List.map_map]
  refine List.map_congr_left fun u hu => ?_
  have h1 := List.all_eq_true.1 h u hu
  have h2 : fitE (u.d * -1) = 0 := by simpa [mkNeg] using h1
  show madeP mkNeg u = negX (madeP mkKeep u)
  unfold madeP negX mkNeg mkKeep
  dsimp only
  rw [fitE_zero h2]
  simp
theorem made_right {mk : Mk} {l : List Up} (hmk : ∀ u ∈ l, chkRow (mk u).1 = 0) (h : chkUs l = 0) : ∀ x ∈ l.map (madeP mk), UkR x.1 := fun x hx => by
  obtain ⟨u, hu, rfl⟩ := List.mem_map.1 hx
  have hc := chkUs_all.1 h u hu
  have ht : chk [u.t] = 0 := (chkK_zero hc).2.2
  show chkK ⟨[], (mk u).1, u.t⟩ = 0
  unfold chkK orI
  dsimp only
  rw [hmk u hu, ht]
  rfl
theorem keep_row {l : List Up} (h : chkUs l = 0) : ∀ u ∈ l, chkRow u.row = 0 := fun u hu => (chkK_zero (chkUs_all.1 h u hu)).2.1
/-- what was made without a key has none -/
theorem made_nokey {mk : Mk} {l out : List Up} (h : out.map Up.p = nz Uk.cmp (l.map (madeP mk))) : ∀ x ∈ out, x.key = [] := fun x hx => by
  have : x.p ∈ nz Uk.cmp (l.map (madeP mk)) := by rw [← h]; exact List.mem_map.2 ⟨x, hx, rfl⟩
  obtain ⟨z, hz, e⟩ := nz_keys this
  obtain ⟨u, _, rfl⟩ := List.mem_map.1 hz
  have : x.k = (⟨[], (mk u).1, u.t⟩ : Uk) := e.symm
  exact congrArg Uk.key this
theorem keep_same {out : List Up} (h : ∀ x ∈ out, x.key = []) : out.map (madeP mkKeep) = out.map Up.p := List.map_congr_left fun x hx => by
  unfold madeP mkKeep Up.p Up.k
  rw [h x hx]
theorem twice_same {l a : List Up} (hc : chkUs l = 0) (hl : okAll mkNeg l = true) (ha : a.map Up.p = nz Uk.cmp (l.map (madeP mkNeg))) (hca : chkUs a = 0) (hoa : okAll mkNeg a = true) :
    nz Uk.cmp (a.map (madeP mkNeg)) = nz Uk.cmp (l.map (madeP mkKeep)) := by
  refine nz_ext uk_lin (R := UkR) (made_right (keep_row hca) hca) (made_right (keep_row hc) hc) fun k => ?_
  rw [made_neg hoa, sumOf_neg, keep_same (made_nokey ha), ha, nz_sum uk_lin, made_neg hl, sumOf_neg]
  omega
theorem sameL_yes (A A' : Option Addr) (c c' : Nat) (l m : List Up) (w : World) (hl : Ups w w.heap.size A l) (hm : Ups w w.heap.size A' m) (hol : ∀ u ∈ l, UOk u) (hom : ∀ u ∈ m, UOk u) (hn : l.length ≤ 1099511627776) (hn' : m.length ≤ 1099511627776) (h : l.map Up.p = m.map Up.p) :
    Calls Tryz.prog 9 #[.slice A l.length c, .slice A' m.length c'] w fun x w' => x = .returned (.bool true) ∧ Below w.heap.size w w' :=
  (sameU_any A A' c c' l m w hl hm hol hom hn hn').mono fun x w' ⟨b, h1, h2, h3⟩ => ⟨by rw [h1, h2.2 h], h3⟩
end Go.Proofs.YtcfldgncmbcpmaaGreat
namespace Go.Proofs.YtcfldgncmbcpmaaGreat
open Go Go.RowKit

theorem at_eq {l e : List Up} {t : Tm} (h1 : chkUs l = 0) (h2 : chkUs e = 0) (h : ∀ r, sumOf cmpRows (atP l t) r = sumOf cmpRows (atP e t) r) : atL l t = atL e t ∧ atE l t = atE e t := by
  by_cases ht : chk [t] = 0
  · rw [(at_of h1 ht).1, (at_of h1 ht).2, (at_of h2 ht).1, (at_of h2 ht).2]
    exact resL_ext row_lin (at_right h1) (at_right h2) h
  · have c1 : chkAt l t = chk [t] := by unfold chkAt orI; rw [if_pos h1]
    have c2 : chkAt e t = chk [t] := by unfold chkAt orI; rw [if_pos h2]
    unfold atL atE
    rw [c1, c2, if_neg ht, if_neg ht, if_neg ht, if_neg ht]
    exact ⟨rfl, rfl⟩
theorem at_none {l : List Up} {t : Tm} (h1 : chkUs l = 0) (h : ∀ r, sumOf cmpRows (atP l t) r = 0) : atL l t = [] := by
  by_cases ht : chk [t] = 0
  · rw [(at_of h1 ht).1]
    unfold resL
    split
    · exact nz_none row_lin (at_right h1) h
    · rfl
  · have c1 : chkAt l t = chk [t] := by unfold chkAt orI; rw [if_pos h1]
    unfold atL
    rw [c1, if_neg ht]
theorem psum_append (p : Uk → Bool) (a b : List (Uk × Int)) : psum p (a ++ b) = psum p a + psum p b := by
  induction a with
  | nil => simp [psum]
  | cons x a ih => simp only [List.cons_append, psum, ih]; omega
/-- of what entered only the updates themselves count -/
theorem psum_ent_first (p : Uk → Bool) (loop : Int) : ∀ l : List Up, (∀ u ∈ l, p (endU loop u).k = false) → psum p (entP loop l) = psum p (l.map Up.p)
  | [], _ => rfl
  | u :: l, h => by
    have ih := psum_ent_first p loop l fun x hx => h x (by simp [hx])
    have h0 := h u (by simp)
    show psum p ([u.p, (endU loop u).p] ++ entP loop l) = psum p (u.p :: l.map Up.p)
    rw [psum_append, ih]
    simp only [psum]
    rw [show (endU loop u).p.1 = (endU loop u).k from rfl, h0]
    simp
/-- where both count they come to nothing -/
theorem psum_ent_none (p : Uk → Bool) (loop : Int) : ∀ l : List Up, entOk loop l = true → (∀ u ∈ l, p (endU loop u).k = p u.k) → psum p (entP loop l) = 0
  | [], _, _ => rfl
  | u :: l, ho, h => by
    unfold entOk at ho
    rw [List.all_cons, Bool.and_eq_true, Bool.and_eq_true] at ho
    have ih := psum_ent_none p loop l ho.2 fun x hx => h x (by simp [hx])
    have h0 := h u (by simp)
    have hf : fitN (u.d * -1) = u.d * -1 := fitE_zero (by simpa using ho.1.1)
    show psum p ([u.p, (endU loop u).p] ++ entP loop l) = 0
    rw [psum_append, ih]
    simp only [psum]
    rw [show (endU loop u).p.1 = (endU loop u).k from rfl, h0, show u.p.1 = u.k from rfl, show u.p.2 = u.d from rfl, show (endU loop u).p.2 = fitN (u.d * -1) from rfl, hf]
    split <;> omega
theorem ent_right {loop : Int} {l : List Up} (hc : chkUs l = 0) (ho : entOk loop l = true) : ∀ x ∈ entP loop l, UkR x.1 := fun x hx => by
  unfold entP at hx
  obtain ⟨u, hu, hx⟩ := List.mem_flatMap.1 hx
  have h := chkUs_all.1 hc u hu
  have h2 := List.all_eq_true.1 ho u hu
  simp only [Bool.and_eq_true, beq_iff_eq] at h2
  rcases List.mem_cons.1 hx with rfl | hx
  · exact h
  · obtain rfl : x = (endU loop u).p := by simpa using hx
    obtain ⟨k1, k2, k3⟩ := chkK_zero h
    change chkRow u.key = 0 at k1
    change chkRow u.row = 0 at k2
    show chkK ⟨u.key, u.row, lat loop u.t⟩ = 0
    unfold chkK orI
    dsimp only
    rw [k1, k2, h2.2]
    rfl
theorem out_chk {L : List (Uk × Int)} {out : List Up} (hR : ∀ x ∈ L, UkR x.1) (h : out.map Up.p = nz Uk.cmp L) : chkUs out = 0 := chkUs_all.2 fun u hu => by
  have : u.p ∈ nz Uk.cmp L := by rw [← h]; exact List.mem_map.2 ⟨u, hu, rfl⟩
  exact nz_right (R := UkR) hR _ this
def still (l : List Up) : Prop := ∀ u ∈ l, u.t.a = 0 ∧ u.t.b = 0
/-- the time of an epoch, and a round of the loop -/
def atR (loop : Int) (e r : Nat) : Tm := if loop = 0 then ⟨e, r, 0⟩ else ⟨e, 0, r⟩
theorem rounds_first {loop : Int} {l i : List Up} (e : Nat) (hs : still l) (hc : chkUs l = 0) (ho : entOk loop l = true) (hi : i.map Up.p = nz Uk.cmp (entP loop l)) : atL i ⟨e, 0, 0⟩ = atL l ⟨e, 0, 0⟩ ∧ atE i ⟨e, 0, 0⟩ = atE l ⟨e, 0, 0⟩ := by
  have hR := ent_right hc ho
  refine at_eq (out_chk hR hi) hc fun r => ?_
  rw [at_sum, at_sum, hi, psum_nz uk_lin _ hR, psum_ent_first]
  intro u hu
  have := hs u hu
  have hle : (lat loop u.t).le ⟨e, 0, 0⟩ = false := by
    unfold lat Tm.le
    split <;> simp
  show ((lat loop u.t).le ⟨e, 0, 0⟩ && _) = false
  rw [hle]
  rfl
theorem rounds_later {loop : Int} {l i : List Up} (e r : Nat) (hr : 1 ≤ r) (hs : still l) (hc : chkUs l = 0) (ho : entOk loop l = true) (hi : i.map Up.p = nz Uk.cmp (entP loop l)) : atL i (atR loop e r) = [] := by
  have hR := ent_right hc ho
  refine at_none (out_chk hR hi) fun q => ?_
  rw [at_sum, hi, psum_nz uk_lin _ hR, psum_ent_none _ loop l ho]
  intro u hu
  have := hs u hu
  have hle : (lat loop u.t).le (atR loop e r) = u.t.le (atR loop e r) := by
    obtain ⟨h1, h2⟩ := this
    unfold lat atR Tm.le
    split
    · simp only [h1, h2]
      have q1 : decide (0 ≤ r) = true := by simp
      have q2 : decide (0 + 1 ≤ r) = true := by simp; omega
      simp [q1, q2, hr]
    · simp only [h1, h2]
      simp [hr]
  show ((lat loop u.t).le (atR loop e r) && _) = (u.t.le (atR loop e r) && _)
  rw [hle]
  rfl
theorem lev_sum (loop : Int) (k : Uk) : ∀ l : List Up, sumOf Uk.cmp (levP loop l) k = psum (fun x : Uk => decide (Uk.cmp ⟨x.key, x.row, lev loop x.t⟩ k = 0)) (l.map Up.p)
  | [] => rfl
  | u :: l => by
    have ih := lev_sum loop k l
    show sumOf Uk.cmp (((⟨u.key, u.row, lev loop u.t⟩ : Uk), u.d) :: levP loop l) k = _
    rw [List.map_cons]
    simp only [sumOf, psum, ih, decide_eq_true_eq]
    rfl
theorem rounds_leave {loop : Int} (hl : loop = 0 ∨ loop = 1) {l i : List Up} (hs : still l) (hc : chkUs l = 0) (ho : entOk loop l = true) (hi : i.map Up.p = nz Uk.cmp (entP loop l)) : chkL loop 1 i = 0 ∧ fitP (levP loop i) = true ∧ nz Uk.cmp (levP loop i) = [] := by
  have hR := ent_right hc ho
  have hci := out_chk hR hi
  have hRl : ∀ x ∈ levP loop i, UkR x.1 := fun x hx => by
    unfold levP at hx
    obtain ⟨u, hu, rfl⟩ := List.mem_map.1 hx
    obtain ⟨k1, k2, k3⟩ := chkK_zero (chkUs_all.1 hci u hu)
    change chkRow u.key = 0 at k1
    change chkRow u.row = 0 at k2
    show chkK ⟨u.key, u.row, lev loop u.t⟩ = 0
    unfold chkK orI
    dsimp only
    rw [k1, k2, lev_chk loop (t := u.t) k3]
    rfl
  have hz : nz Uk.cmp (levP loop i) = [] := nz_none uk_lin hRl fun k => by
    rw [lev_sum, hi, psum_nz uk_lin _ hR, psum_ent_none _ loop l ho]
    intro u hu
    have : lev loop (lat loop u.t) = lev loop u.t := by unfold lev lat; split <;> rfl
    show decide (Uk.cmp ⟨u.key, u.row, lev loop (lat loop u.t)⟩ k = 0) = decide (Uk.cmp ⟨u.key, u.row, lev loop u.t⟩ k = 0)
    rw [this]
  refine ⟨?_, by unfold fitP; rw [fit_all, hz]; rfl, hz⟩
  unfold chkL
  rw [if_pos hci, if_neg (by omega)]
end Go.Proofs.YtcfldgncmbcpmaaGreat
namespace Go.Proofs.YtcfldgncmbcpmaaGreat
open Go Go.RowKit

theorem psum_arr (p : Uk → Bool) (cs : List Int) (h : ∀ k r t, p ⟨k, r, t⟩ = p ⟨[], r, t⟩) : ∀ l : List Up, psum p (arrP cs l) = psum p (l.map Up.p)
  | [] => rfl
  | u :: l => by
    have ih := psum_arr p cs h l
    show psum p (((⟨colsL u.row cs, u.row, u.t⟩ : Uk), u.d) :: arrP cs l) = psum p (u.p :: l.map Up.p)
    simp only [psum, ih]
    rw [h (colsL u.row cs) u.row u.t, show u.p.1 = (⟨u.key, u.row, u.t⟩ : Uk) from rfl, h u.key u.row u.t]
    rfl
theorem keep_sum (K : Uk) : ∀ l : List Up, sumOf Uk.cmp (l.map (madeP mkKeep)) K = psum (fun x : Uk => decide (Uk.cmp ⟨[], x.row, x.t⟩ K = 0)) (l.map Up.p)
  | [] => rfl
  | u :: l => by
    have ih := keep_sum K l
    rw [List.map_cons, List.map_cons]
    simp only [sumOf, psum, ih, decide_eq_true_eq]
    rfl
theorem arr_right {cs : List Int} {l : List Up} (hc : chkUs l = 0) (ha : arrErr cs l = 0) : ∀ x ∈ arrP cs l, UkR x.1 := fun x hx => by
  unfold arrP at hx
  obtain ⟨u, hu, rfl⟩ := List.mem_map.1 hx
  obtain ⟨k1, k2, k3⟩ := chkK_zero (chkUs_all.1 hc u hu)
  change chkRow u.row = 0 at k2
  show chkK ⟨colsL u.row cs, u.row, u.t⟩ = 0
  unfold chkK orI
  dsimp only
  rw [cols_chk (arrErr_all ha u hu) k2, k2]
  exact k3
theorem arr_zero {cs : List Int} {l : List Up} (h : arrE cs l = 0) : chkUs l = 0 ∧ arrErr cs l = 0 ∧ resE Uk.cmp (arrP cs l) = 0 ∧ arrL cs l = nz Uk.cmp (arrP cs l) := by
  have h0 := h
  unfold arrE at h
  split at h
  · rename_i h1
    split at h
    · rename_i h2; exact ⟨h1, h2, h, by unfold arrL; rw [if_pos h0]⟩
    · rename_i h2; exact absurd h h2
  · rename_i h1; exact absurd h h1
/-- each has the values at its columns as its key -/
theorem arr_keys {cs : List Int} {l a : List Up} (ha : a.map Up.p = nz Uk.cmp (arrP cs l)) (he : arrErr cs l = 0) : ∀ u ∈ a, u.key = cs.map (pick u.row) ∧ ∀ c ∈ cs, 0 ≤ c ∧ c < (u.row.length : Int) := fun u hu => by
  have : u.p ∈ nz Uk.cmp (arrP cs l) := by rw [← ha]; exact List.mem_map.2 ⟨u, hu, rfl⟩
  obtain ⟨z, hz, e⟩ := nz_keys this
  unfold arrP at hz
  obtain ⟨x, hx, rfl⟩ := List.mem_map.1 hz
  have hk : u.k = (⟨colsL x.row cs, x.row, x.t⟩ : Uk) := e.symm
  have h1 : u.key = colsL x.row cs := congrArg Uk.key hk
  have h2 : u.row = x.row := congrArg Uk.row hk
  have hp := pick_mem (arrErr_all he x hx)
  rw [h1, h2]
  exact ⟨hp.1, fun c hc => ⟨(hp.2.2 c hc).1, (hp.2.2 c hc).2.1⟩⟩
theorem keys_same {cs : List Int} {l a : List Up} (hc : chkUs l = 0) (he : arrErr cs l = 0) (ha : a.map Up.p = nz Uk.cmp (arrP cs l)) : nz Uk.cmp (a.map (madeP mkKeep)) = nz Uk.cmp (l.map (madeP mkKeep)) := by
  have hR := arr_right hc he
  have hca := out_chk hR ha
  refine nz_ext uk_lin (R := UkR) (made_right (keep_row hca) hca) (made_right (keep_row hc) hc) fun K => ?_
  rw [keep_sum, keep_sum, ha, psum_nz uk_lin _ hR, psum_arr]
  intro k r t
  rfl
theorem keys_even {cs : List Int} {l a : List Up} (hc : chkUs l = 0) (he : arrErr cs l = 0) (ha : a.map Up.p = nz Uk.cmp (arrP cs l)) : EvenP a := by
  have hR := arr_right hc he
  refine ⟨fun u hu h0 => ?_, by rw [ha]; exact nz_srt uk_lin _, out_chk hR ha⟩
  have : u.p ∈ nz Uk.cmp (arrP cs l) := by rw [← ha]; exact List.mem_map.2 ⟨u, hu, rfl⟩
  exact ((nz_mem uk_lin hR _).1 this).2.2 h0
theorem evenL_yes (A : Option Addr) (c : Nat) (l : List Up) (w : World) (hl : Ups w w.heap.size A l) (hok : ∀ u ∈ l, UOk u) (hn : l.length ≤ 1099511627776) (h : EvenP l) :
    Calls Tryz.prog 11 #[.slice A l.length c] w fun x w' => x = .returned (.bool true) ∧ Below w.heap.size w w' :=
  (even_any A c l w hl hok hn).mono fun x w' ⟨b, h1, h2, h3⟩ => ⟨by rw [h1, h2.2 h], h3⟩
theorem arrL_len (cs : List Int) (l : List Up) : (arrL cs l).length ≤ l.length := by
  unfold arrL
  split
  · have := nz_len (cmp := Uk.cmp) (arrP cs l)
    unfold arrP at this ⊢
    rwa [List.length_map] at this
  · simp
set_option maxRecDepth 100000 in
set_option maxHeartbeats 12800000 in
theorem keys_walk (A' : Option Addr) (c' : Nat) (cs : List Int) (A : Option Addr) (c : Nat) (l : List Up) (w : World) (hcs : Ints w w.heap.size A' cs) (_ : cs.length ≤ c') (_ : cs.length ≤ 1048576) (_ : c' ≤ maxLen) (_ : Fit64 cs) (hl : Ups w w.heap.size A l) (hok : ∀ u ∈ l, UOk u) (_ : l.length ≤ c) (_ : c ≤ maxLen) (hn : cs.length + l.length ≤ 1048576) :
    Calls Tryz.prog 4 #[.slice A' cs.length c', .slice A l.length c] w fun e w' => e = .returned (.bool true) ∧ Below w.heap.size w w' := by
  have y0 := fun W => Lib.hid (lives_true W)
  have HL := Lib.hid (And.intro hl (And.intro hok hcs))
  clear hl hok hcs
  go_enter Tryz.func4, Tryz.ntmps4
  go_wp2_with fail
  refine (y0 _).out.mono ?_
  rintro _ w1 ⟨rfl, b1⟩
  have hcall := arrange_any A' c' cs A c l w1 ((HL.out.2.2.past b1 (Nat.le_refl _)).wide b1.size) (by unfold maxLen; omega) (HL.out.1.keep b1) HL.out.2.1 (by omega)
  unfold UpsNew at hcall
  obtain ⟨E, hE⟩ : ∃ E, arrE cs l = E := ⟨_, rfl⟩
  rw [hE] at hcall
  have HC := Lib.hid hcall
  have H1 := Lib.hid (And.intro b1 hE)
  clear b1 hcall y0 hE
  go_wp2_with fail
  refine HC.out.mono ?_
  rintro _ w2 ⟨A2, k2, aL, rfl, hp2, hu2, ho2, b2, _⟩
  have hal : aL.length ≤ l.length := by
    have := arrL_len cs l
    rw [← hp2, List.length_map] at this
    exact this
  have H2 := Lib.hid (And.intro (belows H1.out.1 b2) (And.intro hp2 (And.intro hu2 ho2)))
  clear hp2 hu2 ho2 b2 HC
  by_cases hE0 : E = 0
  case neg =>
    have t1 : (E != 0) = true := bne_iff_ne.2 hE0
    have hz : aL = [] := by
      have h := H2.out.2.1
      unfold arrL at h
      rw [H1.out.2, if_neg hE0] at h
      exact List.map_eq_nil_iff.1 h
    subst hz
    clear hE0 hal
    go_wp2_with fail
    go_ret
    exact ⟨rfl, H2.out.1⟩
  subst hE0
  obtain ⟨g1, g2, g3, g4⟩ := arr_zero H1.out.2
  have hp2 := H2.out.2.1
  rw [g4] at hp2
  have HK := Lib.hid (And.intro (arr_keys hp2 g2) (And.intro (keys_same g1 g2 hp2) (keys_even g1 g2 hp2)))
  clear g1 g2 g3 g4 hp2
  go_wp2_with fail
  go_loopw [32] (fun v32 wr => ∃ j : Nat, v32 = .int .i64 (j : Int) ∧ j ≤ aL.length ∧ Below w2.heap.size w2 wr) (fun v32 _ => aL.length - (intOf v32).toNat)
  case atStart => exact ⟨0, rfl, Nat.zero_le _, Below.refl _ _⟩
  case round =>
    obtain ⟨j, rfl, hj, hb⟩ := hrel
    obtain ⟨wi, hwi⟩ : ∃ wi, wi = wr := ⟨_, rfl⟩
    subst hwi
    by_cases hlt : j < aL.length
    · have hy : aL[j]? = some aL[j] := List.getElem?_eq_getElem hlt
      have hym := List.mem_of_getElem? hy
      generalize aL[j] = u at *
      obtain ⟨b, o, rfl, hB, hys⟩ := lies_up H2.out.2.2.1.head (by omega)
      obtain ⟨e0, e1, e2, e3, e4, e5⟩ := ((hys j u hy).past_ hb hB).six
      obtain ⟨V3, hV3, hb3, hs3, ho3⟩ := upbox wi u
      have hku := HK.out.1 u hym
      have hin : UIn w2 w2.heap.size u := H2.out.2.2.1.each_ u hym
      have HJ := Lib.hid (And.intro (hb.trans (hb3.mono hb.size)) (And.intro hku (And.intro hin ho3)))
      have q3 : (0 : Int) ≤ (j : Int) := by omega
      have q4 : (j : Int) < (aL.length : Int) := by omega
      have q5 : decide ((j : Int) < (aL.length : Int)) = true := decide_eq_true q4
      clear hy hym hys hku hin hb hb3 hs3 ho3
      go_upto_region 9 with fail
      rw [← hV3]
      clear hV3 e0 e1 e2 e3 e4 e5
      go_wp2_with fail
      go_loopw [38] (fun v38 wr => ∃ i : Nat, v38 = .int .i64 (i : Int) ∧ i ≤ cs.length ∧ Below V3.heap.size V3 wr) (fun v38 _ => cs.length - (intOf v38).toNat)
      case atStart => exact ⟨0, rfl, Nat.zero_le _, Below.refl _ _⟩
      case round =>
        obtain ⟨i, rfl, hi, hb4⟩ := hrel
        obtain ⟨wj, hwj⟩ : ∃ wj, wj = wr := ⟨_, rfl⟩
        subst hwj
        by_cases hit : i < cs.length
        · have hx : cs[i]? = some cs[i] := List.getElem?_eq_getElem hit
          have hxm := List.mem_of_getElem? hx
          generalize cs[i] = ci at *
          obtain ⟨r1, r2⟩ := HJ.out.2.1.2 ci hxm
          obtain ⟨m, rfl⟩ : ∃ m : Nat, ci = (m : Int) := ⟨ci.toNat, by omega⟩
          have hml : m < u.row.length := by omega
          have hb2j : Below w2.heap.size w2 wj := HJ.out.1.trans (hb4.mono HJ.out.1.size)
          have hbwj : Below w.heap.size w wj := H2.out.1.trans (hb2j.mono H2.out.1.size)
          obtain ⟨bi, oi, rfl, hBi, hci⟩ := HL.out.2.2 (by omega)
          have ec := (hbwj.cell (p := ⟨bi, oi + i, none⟩) hBi).trans (hci i _ hx)
          have hbox := HJ.out.2.2.2.past hb4 HJ.out.2.2.2.inside
          obtain ⟨f0, f1, f2, f3, f4, f5⟩ := own6 hbox
          have hkl : u.key.length = cs.length := by rw [HJ.out.2.1.1, List.length_map]
          have hki : u.key[i]? = some (pick u.row (m : Int)) := by rw [HJ.out.2.1.1, List.getElem?_map, hx]; rfl
          have hri : u.row[m]? = some (pick u.row (m : Int)) := by
            unfold pick
            rw [Int.toNat_natCast, List.getD_eq_getElem?_getD, List.getElem?_eq_getElem hml]
            rfl
          obtain ⟨bk, ok, ek, hBk, hck⟩ := HJ.out.2.2.1.key (by omega)
          obtain ⟨br, orr, er, hBr, hcr⟩ := HJ.out.2.2.1.row (by omega)
          obtain ⟨a0, a1, a2⟩ := (hck i _ hki)
          obtain ⟨d0, d1, d2⟩ := (hcr m _ hri)
          have a0 := (hb2j.cell (p := ⟨bk, ok + i * 3, none⟩) hBk).trans a0
          have a1 := (hb2j.cell (p := ⟨bk, ok + i * 3 + 1, none⟩) hBk).trans a1
          have a2 := (hb2j.cell (p := ⟨bk, ok + i * 3 + 2, none⟩) hBk).trans a2
          have d0 := (hb2j.cell (p := ⟨br, orr + m * 3, none⟩) hBr).trans d0
          have d1 := (hb2j.cell (p := ⟨br, orr + m * 3 + 1, none⟩) hBr).trans d1
          have d2 := (hb2j.cell (p := ⟨br, orr + m * 3 + 2, none⟩) hBr).trans d2
          rw [ek] at f0
          rw [er] at f1
          rw [hkl] at f0
          generalize pick u.row (m : Int) = x at *
          have hq := fun W => eqIn_val x x W
          rw [show eqV x x = true from eqV_iff.2 rfl] at hq
          unfold Vl.val at hq
          have hg := fun a b xs ys W => grd_val .neq a b xs ys W
          have q6 : (0 : Int) ≤ (i : Int) := by omega
          have q7 : (i : Int) < (cs.length : Int) := by omega
          have q8 : decide ((i : Int) < (cs.length : Int)) = true := decide_eq_true q7
          have q9 : decide ((m : Int) < 0) = false := decide_eq_false (by omega)
          have q10 : decide ((u.row.length : Int) ≤ (m : Int)) = false := decide_eq_false (by omega)
          have q11 : (m : Int) < (u.row.length : Int) := by omega
          have q12 : (0 : Int) ≤ (m : Int) := by omega
          have HB4 := Lib.hid hb4
          clear hx hxm r1 r2 hci hbox hki hri ek er hck hcr hb2j hbwj hb4 hkl
          go_upto_region 12 with fail
          go_quiet (fail)
          go_wp2_with fail
          go_roundw
          case rel => exact ⟨i + 1, by go_num, by omega, by first | exact HB4.out | exact below_draws HB4.out _⟩
          case measure => simp [intOf]; omega
        · have q8 : decide ((i : Int) < (cs.length : Int)) = false := decide_eq_false (by omega)
          have HB4 := Lib.hid hb4
          clear hb4
          go_wp2_with fail
          go_roundw
          case rel => exact ⟨j + 1, by go_num, by omega, HJ.out.1.trans (HB4.out.mono HJ.out.1.size)⟩
          case measure => simp [intOf]; omega
    · have q5 : decide ((j : Int) < (aL.length : Int)) = false := decide_eq_false (by omega)
      have hbw := H2.out.1.trans (hb.mono H2.out.1.size)
      have hcall := do_kept 0 0 0 none none none none 0 0 0 0 0 0 0 0 A2 k2 aL wi ((H2.out.2.2.1.past hb (Nat.le_refl _)).wide hb.size) H2.out.2.2.2 (by omega)
      unfold DoSays at hcall
      have HC2 := Lib.hid hcall
      have H3 := Lib.hid (And.intro hbw ((H2.out.2.2.1.past hb (Nat.le_refl _)).wide hb.size))
      clear hb hbw hcall
      go_wp2_with fail
      refine HC2.out.mono ?_
      rintro _ w3 ⟨A3, k3, bL, t3, E3, rfl, hE3, hL3, hu3, ho3, b3, _, _, hn3⟩
      obtain ⟨W3, hW3, hb3, hs3, _⟩ := tbox w3 t3
      have hbb := belows b3 hb3
      have hbw := belows H3.out.1 hbb
      have hcall := do_kept 0 0 0 none none none none 0 0 0 0 0 0 0 0 A c l W3 (HL.out.1.keep hbw) HL.out.2.1 (by omega)
      unfold DoSays at hcall
      have HC3 := Lib.hid hcall
      have H4 := Lib.hid (And.intro hbw (And.intro (H3.out.2.keep hbb) (And.intro hL3 (And.intro (hu3.keep hb3) (And.intro ho3 hn3)))))
      clear hE3 hL3 hu3 ho3 b3 hb3 hs3 hcall hbw hbb HC2 hn3
      go_wp2_with fail
      rw [← hW3]
      clear hW3
      refine HC3.out.mono ?_
      rintro _ w4 ⟨A4, k4, cL, t4, E4, rfl, hE4, hL4, hu4, ho4, b4, _, _, hn4⟩
      obtain ⟨W4, hW4, hb4, hs4, _⟩ := tbox w4 t4
      have hbb := belows b4 hb4
      have H5 := Lib.hid (And.intro (belows H4.out.1 hbb) (And.intro (H4.out.2.1.keep hbb) (And.intro (H4.out.2.2.2.1.keep hbb) (And.intro hL4 (And.intro (hu4.keep hb4) (And.intro ho4 hn4))))))
      clear hE4 hL4 hu4 ho4 b4 hb4 hs4 hbb HC3 hn4
      by_cases h2 : E3 = 0
      case neg =>
        have t1 : (E3 != 0) = true := bne_iff_ne.2 h2
        clear h2
        go_wp2_with fail
        rw [← hW4]
        go_ret
        exact ⟨rfl, H5.out.1⟩
      have t1 : (E3 != 0) = false := by simp [h2]
      by_cases h3 : E4 = 0
      case neg =>
        have t2 : (E4 != 0) = true := bne_iff_ne.2 h3
        clear h2 h3
        go_wp2_with fail
        rw [← hW4]
        go_ret
        exact ⟨rfl, H5.out.1⟩
      have t2 : (E4 != 0) = false := by simp [h3]
      have heq : bL.map Up.p = cL.map Up.p := by rw [(H4.out.2.2.1 h2).1, (H5.out.2.2.2.1 h3).1]; exact HK.out.2.1
      have HC5 := Lib.hid (evenL_yes A2 k2 aL W4 H5.out.2.1 H2.out.2.2.2 (by omega) HK.out.2.2)
      have HQ := Lib.hid heq
      clear h2 h3 heq
      go_wp2_with fail
      rw [← hW4]
      clear hW4
      refine HC5.out.mono ?_
      rintro _ w5 ⟨rfl, b5⟩
      have HC6 := Lib.hid (sameL_yes A3 A4 k3 k4 bL cL w5 (H5.out.2.2.1.keep b5) (H5.out.2.2.2.2.1.keep b5) H4.out.2.2.2.2.1 H5.out.2.2.2.2.2.1 (by have := H4.out.2.2.2.2.2; omega) (by have := H5.out.2.2.2.2.2.2; omega) HQ.out)
      have H6 := Lib.hid (belows H5.out.1 b5)
      clear b5 HC5
      go_wp2_with fail
      refine HC6.out.mono ?_
      rintro _ w6 ⟨rfl, b6⟩
      have H7 := Lib.hid (belows H6.out b6)
      clear b6 HC6
      go_wp2_with fail
      go_ret
      exact ⟨rfl, H7.out⟩
end Go.Proofs.YtcfldgncmbcpmaaGreat
namespace Go.Proofs.YtcfldgncmbcpmaaGreat
open Go
variable {H : Type}
theorem bulk_pos (d : DataW H) : 1 ≤ Rows.uptoBulk d := by
  cases d with
  | lit l => cases l <;> simp [Rows.uptoBulk]
  | nil => simp [Rows.uptoBulk]
  | ptr d => simp [Rows.uptoBulk]
  | slice es sp => simp [Rows.uptoBulk]
  | agg ps => simp [Rows.uptoBulk]
  | iface t d => simp [Rows.uptoBulk]
  | map es => simp [Rows.uptoBulk]
  | held h => simp [Rows.uptoBulk]
theorem bulk_all : ∀ es : List (DataW H), es.length ≤ Rows.uptoBulkAll es
  | [] => by simp
  | d :: r => by
    have := bulk_all r
    have := bulk_pos d
    simp only [List.length_cons, Rows.uptoBulkAll]
    omega
theorem bulk_slice (es sp : List (DataW H)) : es.length ≤ Rows.uptoBulk (.slice es sp) := by
  have := bulk_all es
  simp only [Rows.uptoBulk]
  omega
end Go.Proofs.YtcfldgncmbcpmaaGreat
namespace Go.Proofs.YtcfldgncmbcpmaaGreat
open Go Go.RowKit Go.ChangeShapes Go.WideShapes Go.ChangeAt Go.Deep

section
variable {H : Type} {enc : TypeId × Value → H} {P : Program} {w : World} {base : Nat} {spare : Nat → Bool} {held : Bool}
/-- the slice, its list; and what its reading tells of its length -/
theorem open_list_at {α : Type} [Inhabited α] {size : Nat} {cells : α → List Value} {OK : α → Prop} {t e : TypeId} (ht : P.underlying t = some (.slice e)) (hc : P.cellsOf e = size) (hpos : 0 < size) (hcl : ∀ x, (cells x).length = size)
    (dec : ∀ {n : Nat} {cs : List Value} {x : DataW H × List MemPlace}, DataW.trod enc P w base spare held n e cs = some x → ∃ a, cs = cells a ∧ OK a)
    {fuel : Nat} {cs : List Value} {x : DataW H × List MemPlace} (hf : DataW.trod enc P w base spare held fuel t cs = some x) :
    ∃ (A : Option Addr) (c : Nat) (l : List α), cs = [.slice A l.length c] ∧ l.length ≤ c ∧ c ≤ maxLen ∧ Lies size cells w w.heap.size A l ∧ (∀ a ∈ l, OK a) ∧ (x.1 = .nil ∧ l = [] ∧ c = 0 ∨ ∃ es sp, x.1 = .slice es sp ∧ es.length = l.length) := by
  rcases open_slice ht hf with ⟨e, hx⟩ | ⟨a, len, cap, m, n, D, Pl, e, hb, hl, hm, hmm, hx, hi⟩
  · subst e hx
    exact ⟨none, 0, [], rfl, by simp, by unfold maxLen; omega, fun h => absurd h (by simp), fun a ha => (by cases ha), .inl ⟨rfl, rfl, rfl⟩⟩
  · subst e hx
    obtain ⟨n0, rfl⟩ : ∃ n0, n0 = len := ⟨_, rfl⟩
    obtain ⟨c0, rfl⟩ : ∃ c0, c0 = cap := ⟨_, rfl⟩
    have hlm : n0 ≤ m := by rw [hmm]; split <;> omega
    rw [hc] at hi
    have hT : ∀ i, ∃ x : α, i < n0 → OK x ∧ ∀ (j : Nat) (u : Value), (cells x)[j]? = some u → w.cell? ((a.add (i * size)).add j) = some u := by
      intro i
      by_cases hil : i < n0
      · obtain ⟨cs', hcs, htr⟩ := hi i (by omega)
        obtain ⟨x, rfl, hok⟩ := dec htr
        obtain ⟨_, _, hat⟩ := World.cells?_some hcs
        refine ⟨x, fun _ => ⟨hok, fun j u hj => ?_⟩⟩
        have hjs : j < size := by have := (List.getElem?_eq_some_iff.1 hj).1; rw [hcl] at this; exact this
        rw [hat j hjs]
        exact hj
      · exact ⟨default, fun h => absurd h hil⟩
    obtain ⟨f, hf'⟩ : ∃ f : Nat → α, ∀ i, i < n0 → OK (f i) ∧ ∀ (j : Nat) (u : Value), (cells (f i))[j]? = some u → w.cell? ((a.add (i * size)).add j) = some u :=
      ⟨fun i => Classical.choose (hT i), fun i => Classical.choose_spec (hT i)⟩
    clear hT
    have hlen : ((List.range n0).map f).length = n0 := by simp
    refine ⟨some a, c0, (List.range n0).map f, by rw [hlen], by rw [hlen]; exact hl, hm, fun hp => ?_, fun x hx => ?_, .inr ⟨_, _, rfl, by simp⟩⟩
    · rw [hlen] at hp
      have hz : ((a.add (0 * size)).add 0) = a := by unfold Addr.add; simp
      obtain ⟨v0, h0⟩ : ∃ v0, w.cell? a = some v0 := by
        have h1 : 0 < (cells (f 0)).length := by rw [hcl]; exact hpos
        have := (hf' 0 hp).2 0 _ (List.getElem?_eq_getElem h1)
        rw [hz] at this
        exact ⟨_, this⟩
      have hspot : a.spot = none := by
        cases hs : a.spot with
        | none => rfl
        | some s =>
          unfold World.cell? at h0
          rw [hs] at h0
          split at h0 <;> simp at h0
      obtain ⟨b, o, sp⟩ := a
      simp only at hspot
      subst hspot
      have hadd : ∀ k j, ((⟨b, o, none⟩ : Addr).add k).add j = ⟨b, o + k + j, none⟩ := fun k j => by unfold Addr.add; split <;> split <;> simp_all
      refine ⟨b, o, rfl, World.block_lt_of_cell? w _ h0, fun i x hit j u hj => ?_⟩
      have hil : i < n0 := by have := (List.getElem?_eq_some_iff.1 hit).1; omega
      have hti : f i = x := by simpa [hil] using hit
      subst hti
      have := (hf' i hil).2 j u hj
      rwa [hadd] at this
    · obtain ⟨i, hi1, rfl⟩ := List.mem_map.1 hx
      exact (hf' i (List.mem_range.1 hi1)).1
theorem open_list {α : Type} [Inhabited α] {size : Nat} {cells : α → List Value} {OK : α → Prop} {t e : TypeId} (ht : P.underlying t = some (.slice e)) (hc : P.cellsOf e = size) (hpos : 0 < size) (hcl : ∀ x, (cells x).length = size)
    (dec : ∀ {n : Nat} {cs : List Value} {x : DataW H × List MemPlace}, DataW.trod enc P w base spare held n e cs = some x → ∃ a, cs = cells a ∧ OK a)
    {v : Value} {d : DataW H} {p : List MemPlace} {r : Reach} {b0 : Nat} (hv : Value.okWide P w r b0 t v) (h : DataW.Trod enc P w base spare held t v d p) :
    ∃ (A : Option Addr) (c : Nat) (l : List α), v = .slice A l.length c ∧ l.length ≤ c ∧ c ≤ maxLen ∧ Lies size cells w w.heap.size A l ∧ (∀ a ∈ l, OK a) ∧ (d = .nil ∧ l = [] ∧ c = 0 ∨ ∃ es sp, d = .slice es sp ∧ es.length = l.length) := by
  obtain ⟨a0, n0, c0, rfl⟩ := okWide_slice ht hv
  obtain ⟨fuel, hf⟩ := h
  obtain ⟨A, c, l, e, h1⟩ := open_list_at ht hc hpos hcl dec hf
  exact ⟨A, c, l, by simpa [Value.cells] using e, h1⟩
end
end Go.Proofs.YtcfldgncmbcpmaaGreat
namespace Go.Proofs.YtcfldgncmbcpmaaGreat
open Go Go.RowKit Go.ChangeShapes Go.WideShapes Go.ChangeAt Go.Deep

section
variable {H : Type} {enc : TypeId × Value → H} {P : Program} {w : World} {base : Nat} {spare : Nat → Bool} {held : Bool}
theorem lies_gen {α : Type} {size : Nat} {cells : α → List Value} (hcl : ∀ x, 0 < (cells x).length) {len : Nat} {a : Addr} {f : Nat → α} (hp : 0 < len) (hf : ∀ i, i < len → ∀ (j : Nat) (u : Value), (cells (f i))[j]? = some u → w.cell? ((a.add (i * size)).add j) = some u) :
    Lies size cells w w.heap.size (some a) ((List.range len).map f) := fun _ => by
  have hz : ((a.add (0 * size)).add 0) = a := by unfold Addr.add; simp
  obtain ⟨v0, h0⟩ : ∃ v0, w.cell? a = some v0 := by
    have := hf 0 hp 0 _ (List.getElem?_eq_getElem (hcl (f 0)))
    rw [hz] at this
    exact ⟨_, this⟩
  have hspot : a.spot = none := by
    cases hs : a.spot with
    | none => rfl
    | some s =>
      unfold World.cell? at h0
      rw [hs] at h0
      split at h0 <;> simp at h0
  obtain ⟨b, o, sp⟩ := a
  simp only at hspot
  subst hspot
  have hadd : ∀ k j, ((⟨b, o, none⟩ : Addr).add k).add j = ⟨b, o + k + j, none⟩ := fun k j => by unfold Addr.add; split <;> split <;> simp_all
  refine ⟨b, o, rfl, World.block_lt_of_cell? w _ h0, fun i x hit j u hj => ?_⟩
  have hil : i < len := by have := (List.getElem?_eq_some_iff.1 hit).1; simpa using this
  have hti : f i = x := by simpa [hil] using hit
  subst hti
  have := hf i hil j u hj
  rwa [hadd] at this
theorem bulk_sum : ∀ es : List (DataW H × List MemPlace), (es.map (fun z => Rows.uptoBulk z.1)).sum = Rows.uptoBulkAll (es.map (·.1))
  | [] => by simp [Rows.uptoBulkAll]
  | x :: es => by simp only [List.map_cons, List.sum_cons, Rows.uptoBulkAll]; rw [bulk_sum es]
theorem mem_le_sum : ∀ {bs : List Nat} {b : Nat}, b ∈ bs → b ≤ bs.sum
  | [], _, h => by cases h
  | x :: bs, b, h => by
    rw [List.sum_cons]
    rcases List.mem_cons.1 h with rfl | h
    · omega
    · have := mem_le_sum h; omega
theorem len_le_sum : ∀ {bs : List Nat}, (∀ b ∈ bs, 1 ≤ b) → bs.length ≤ bs.sum
  | [], _ => Nat.le_refl _
  | x :: bs, h => by
    have h1 := h x (by simp)
    have h2 := len_le_sum (bs := bs) fun b hb => h b (by simp [hb])
    rw [List.sum_cons, List.length_cons]
    omega
theorem sum_pair {α : Type} {g : α → Nat} : ∀ (l : List α) (bs : List Nat), bs.length = l.length → (∀ (i : Nat) (a : α), l[i]? = some a → ∃ b, bs[i]? = some b ∧ g a ≤ b) → (l.map g).sum ≤ bs.sum
  | [], _, _, _ => Nat.zero_le _
  | x :: l, [], h, _ => by simp at h
  | x :: l, b :: bs, h, hp => by
    obtain ⟨b', h1, h2⟩ := hp 0 x rfl
    obtain rfl : b = b' := by simpa using h1
    have := sum_pair l bs (by simpa using h) fun i a hi => by
      obtain ⟨b2, h3, h4⟩ := hp (i + 1) a (by simpa using hi)
      exact ⟨b2, by simpa using h3, h4⟩
    simp only [List.map_cons, List.sum_cons]
    omega
/-- the slice, its list, and how much each of its elements tells -/
theorem open_list_bulk {α : Type} [Inhabited α] {size : Nat} {cells : α → List Value} {OK : α → Nat → Prop} {t e : TypeId} {fuel : Nat} (ht : P.underlying t = some (.slice e)) (hc : P.cellsOf e = size) (hcl : ∀ x, 0 < (cells x).length)
    (dec : ∀ {n : Nat} {cs : List Value} {x : DataW H × List MemPlace}, n < fuel → DataW.trod enc P w base spare held n e cs = some x → ∃ a, cs = cells a ∧ OK a (Rows.uptoBulk x.1))
    {cs : List Value} {x : DataW H × List MemPlace} (hf : DataW.trod enc P w base spare held fuel t cs = some x) :
    ∃ (A : Option Addr) (c : Nat) (l : List α) (bs : List Nat), cs = [.slice A l.length c] ∧ l.length ≤ c ∧ c ≤ maxLen ∧ Lies size cells w w.heap.size A l ∧ bs.length = l.length ∧ bs.sum + 1 ≤ Rows.uptoBulk x.1 ∧ (∀ b ∈ bs, 1 ≤ b) ∧
      ∀ (i : Nat) (a : α), l[i]? = some a → ∃ b, bs[i]? = some b ∧ OK a b := by
  rcases DataW.trod_slice ht hf with ⟨h1, h2⟩ | ⟨a, len, cap, elems, rest, n, hfu, h1, h2, hb, hl, hm, hlen, hel, hsp, hns⟩
  · subst h1 h2
    exact ⟨none, 0, [], [], rfl, Nat.le_refl _, Nat.zero_le _, Lies.nil_, rfl, by simp [Rows.uptoBulk], fun b h => (by cases h), fun i a h => (by simp at h)⟩
  · rw [hc] at hel
    have hT : ∀ i, i < len → ∃ y : α, (∃ b, (elems.map (fun z => Rows.uptoBulk z.1))[i]? = some b ∧ OK y b) ∧ ∀ (j : Nat) (u : Value), (cells y)[j]? = some u → w.cell? ((a.add (i * size)).add j) = some u := fun i hi => by
      have h1 := hel i hi
      rw [List.getElem?_eq_getElem (by omega)] at h1
      obtain ⟨cs', h2, h3⟩ := Option.bind_eq_some_iff.1 h1
      obtain ⟨y, rfl, hy⟩ := dec (by omega) h3
      obtain ⟨_, hle2, hat⟩ := World.cells?_some h2
      refine ⟨y, ⟨_, by rw [List.getElem?_map, List.getElem?_eq_getElem (by omega)]; rfl, hy⟩, fun j u hj => ?_⟩
      rw [hat j (by have := (List.getElem?_eq_some_iff.1 hj).1; omega)]
      exact hj
    obtain ⟨f, hf'⟩ := choose_lt hT
    have hle : ((List.range len).map f).length = len := by simp
    refine ⟨some a, cap, (List.range len).map f, elems.map (fun z => Rows.uptoBulk z.1), by rw [hle]; exact h1, by rw [hle]; exact hl, hm, ?_, by rw [hle, List.length_map, hlen], ?_, ?_, ?_⟩
    · by_cases hp : 0 < len
      · exact lies_gen hcl hp fun i hi => (hf' i hi).2
      · exact fun h => by rw [hle] at h; omega
    · rw [h2]
      simp only [Rows.uptoBulk]
      rw [bulk_sum]
      omega
    · intro b hb
      obtain ⟨z, _, rfl⟩ := List.mem_map.1 hb
      exact bulk_pos _
    · intro i y hi
      have hil : i < len := by have := (List.getElem?_eq_some_iff.1 hi).1; simpa using this
      have hti : f i = y := by simpa [hil] using hi
      subst hti
      exact (hf' i hil).1
end
end Go.Proofs.YtcfldgncmbcpmaaGreat
namespace Go.Proofs.YtcfldgncmbcpmaaGreat
open Go Go.RowKit Go.ChangeShapes Go.WideShapes Go.ChangeAt Go.Deep

set_option maxRecDepth 100000
section
variable {H : Type} {enc : TypeId × Value → H} {w : World} {base : Nat} {spare : Nat → Bool} {held : Bool}
theorem wf_nat {n : Int} (h : (Lit.int .u64 n).wf = true) : ∃ m : Nat, n = (m : Int) := by
  have h2 : 0 ≤ n := by
    have : 0 ≤ n ∧ n ≤ 18446744073709551615 := by simpa [Lit.wf, IntKind.min, IntKind.max, IntKind.signed, IntKind.bits] using h
    exact this.1
  exact ⟨n.toNat, (Int.toNat_of_nonneg h2).symm⟩
theorem trod_time {fuel : Nat} {cs : List Value} {x : DataW H × List MemPlace} (h : DataW.trod enc Tryz.prog w base spare held fuel 27 cs = some x) : ∃ t : Tm, cs = t.cells := by
  obtain ⟨xs, n, _, _, hlen, hxs, hf⟩ := DataW.trod_struct Tryz.underlying27 h
  have hc : Tryz.prog.cellsOf 27 = 3 := by kernel_rfl
  have hc1 : Tryz.prog.cellsOf 24 = 1 := by kernel_rfl
  have hc2 : Tryz.prog.cellsOf 25 = 2 := by kernel_rfl
  rw [hc] at hlen
  match cs, hlen with
  | [c0, c1, c2], _ =>
    have h0 := hf 0 _ rfl
    have h1 := hf 1 _ rfl
    match xs, hxs with
    | [y0, y1], _ =>
      simp only [hc1, hc2, List.drop_zero, List.take_succ_cons, List.take_zero, List.drop_succ_cons, List.getElem?_cons_zero, List.getElem?_cons_succ] at h0 h1
      obtain ⟨n0, e0, _, w0⟩ := DataW.trod_int Tryz.underlying24 h0
      obtain ⟨zs, m, _, _, _, hzs, hg⟩ := DataW.trod_array Tryz.underlying25 h1
      match zs, hzs with
      | [z0, z1], _ =>
        have k0 := hg 0 (by omega)
        have k1 := hg 1 (by omega)
        simp only [hc1, Nat.zero_mul, Nat.one_mul, List.drop_zero, List.take_succ_cons, List.take_zero, List.drop_succ_cons, List.getElem?_cons_zero, List.getElem?_cons_succ] at k0 k1
        obtain ⟨n1, e1, _, w1⟩ := DataW.trod_int Tryz.underlying24 k0
        obtain ⟨n2, e2, _, w2⟩ := DataW.trod_int Tryz.underlying24 k1
        obtain ⟨m0, rfl⟩ := wf_nat w0
        obtain ⟨m1, rfl⟩ := wf_nat w1
        obtain ⟨m2, rfl⟩ := wf_nat w2
        obtain rfl := (List.cons.inj e0).1
        obtain rfl := (List.cons.inj e1).1
        obtain rfl := (List.cons.inj e2).1
        exact ⟨⟨m0, m1, m2⟩, rfl⟩
theorem open_time {r : Reach} {b0 : Nat} {v : Value} {d : DataW H} {p : List MemPlace} (hv : Value.okWide Tryz.prog w r b0 27 v) (h : DataW.Trod enc Tryz.prog w base spare held 27 v d p) : ∃ t : Tm, v = t.val := by
  obtain ⟨cs, rfl, hsz⟩ := okWide_struct Tryz.underlying27 hv
  obtain ⟨fuel, hf⟩ := h
  obtain ⟨t, ht⟩ := trod_time hf
  refine ⟨t, ?_⟩
  obtain ⟨l⟩ := cs
  simp only [Value.cells] at ht
  unfold Tm.val
  rw [show l = t.cells from by simpa using ht]
  rfl
/-- the slice, its list; and what its reading tells of its length -/
theorem open_times {v : Value} {d : DataW H} {p : List MemPlace} {r : Reach} {b0 : Nat} (hv : Value.okWide Tryz.prog w r b0 109 v) (h : DataW.Trod enc Tryz.prog w base spare held 109 v d p) :
    ∃ (A : Option Addr) (c : Nat) (l : List Tm), v = .slice A l.length c ∧ l.length ≤ c ∧ c ≤ maxLen ∧ Times w w.heap.size A l ∧ (d = .nil ∧ l = [] ∧ c = 0 ∨ ∃ es sp, d = .slice es sp ∧ es.length = l.length) := by
  obtain ⟨a0, n0, c0, rfl⟩ := okWide_slice Tryz.underlying109 hv
  obtain ⟨fuel, hf⟩ := h
  simp only [Value.cells] at hf
  rcases open_slice Tryz.underlying109 hf with ⟨e, hx⟩ | ⟨a, len, cap, m, n, D, Pl, e, hb, hl, hm, hmm, hx, hi⟩
  · simp only [List.cons.injEq, and_true, Value.slice.injEq] at e
    obtain ⟨rfl, rfl, rfl⟩ := e
    obtain ⟨rfl, _⟩ := Prod.mk.inj hx
    exact ⟨none, 0, [], rfl, by simp, by unfold maxLen; omega, Times.nil_, .inl ⟨rfl, rfl, rfl⟩⟩
  · simp only [List.cons.injEq, and_true, Value.slice.injEq] at e
    obtain ⟨rfl, rfl, rfl⟩ := e
    obtain ⟨rfl, rfl⟩ := Prod.mk.inj hx
    have hlm : n0 ≤ m := by rw [hmm]; split <;> omega
    have hc3 : Tryz.prog.cellsOf 27 = 3 := by kernel_rfl
    rw [hc3] at hi
    have hT : ∀ i, ∃ t : Tm, i < n0 → (w.cell? ((a.add (i * 3)).add 0) = some (.int .u64 (t.e : Int)) ∧ w.cell? ((a.add (i * 3)).add 1) = some (.int .u64 (t.a : Int)) ∧ w.cell? ((a.add (i * 3)).add 2) = some (.int .u64 (t.b : Int))) := by
      intro i
      by_cases hil : i < n0
      · obtain ⟨cs', hcs, htr⟩ := hi i (by omega)
        obtain ⟨t, rfl⟩ := trod_time htr
        obtain ⟨_, _, hat⟩ := World.cells?_some hcs
        exact ⟨t, fun _ => ⟨hat 0 (by omega), hat 1 (by omega), hat 2 (by omega)⟩⟩
      · exact ⟨default, fun h => absurd h hil⟩
    obtain ⟨f, hf'⟩ : ∃ f : Nat → Tm, ∀ i, i < n0 → (w.cell? ((a.add (i * 3)).add 0) = some (.int .u64 ((f i).e : Int)) ∧ w.cell? ((a.add (i * 3)).add 1) = some (.int .u64 ((f i).a : Int)) ∧ w.cell? ((a.add (i * 3)).add 2) = some (.int .u64 ((f i).b : Int))) :=
      ⟨fun i => Classical.choose (hT i), fun i => Classical.choose_spec (hT i)⟩
    clear hT
    have hlen : ((List.range n0).map f).length = n0 := by simp
    refine ⟨some a, c0, (List.range n0).map f, by rw [hlen], by rw [hlen]; exact hl, hm, fun hpos => ?_, .inr ⟨_, _, rfl, by simp⟩⟩
    rw [hlen] at hpos
    have haa : ∀ k, (a.add k).add 0 = a.add k := fun k => by unfold Addr.add; simp
    have hspot : a.spot = none := by
      have hz : ((a.add (0 * 3)).add 0) = a := by rw [haa]; unfold Addr.add; simp
      obtain ⟨v0, h0⟩ : ∃ v0, w.cell? a = some v0 := ⟨_, by have := (hf' 0 hpos).1; rwa [hz] at this⟩
      cases hs : a.spot with
      | none => rfl
      | some s =>
        unfold World.cell? at h0
        rw [hs] at h0
        split at h0 <;> simp at h0
    obtain ⟨b, o, sp⟩ := a
    simp only at hspot
    subst hspot
    have hblk : b < w.heap.size := by
      have hz : (((⟨b, o, none⟩ : Addr).add (0 * 3)).add 0).block = b := by unfold Addr.add; simp
      have := World.block_lt_of_cell? w _ (hf' 0 hpos).1
      rwa [hz] at this
    have hadd : ∀ k j, ((⟨b, o, none⟩ : Addr).add k).add j = ⟨b, o + k + j, none⟩ := fun k j => by unfold Addr.add; split <;> split <;> simp_all
    refine ⟨b, o, rfl, hblk, fun i t hit => ?_⟩
    have hil : i < n0 := by have := (List.getElem?_eq_some_iff.1 hit).1; omega
    have hti : f i = t := by simpa [hil] using hit
    obtain ⟨q0, q1, q2⟩ := hf' i hil
    rw [hadd] at q0 q1 q2
    rw [← hti]
    exact ⟨q0, q1, q2⟩
end
end Go.Proofs.YtcfldgncmbcpmaaGreat
namespace Go.Proofs.YtcfldgncmbcpmaaGreat
open Go Go.RowKit Go.ChangeShapes Go.WideShapes Go.ChangeAt Go.Deep

set_option maxRecDepth 100000
section
variable {H : Type} {enc : TypeId × Value → H} {w : World} {base : Nat} {spare : Nat → Bool} {held : Bool}
set_option maxRecDepth 100000 in
theorem trod_val {fuel : Nat} {cs : List Value} {x : DataW H × List MemPlace} (h : DataW.trod enc Tryz.prog w base spare held fuel 46 cs = some x) : ∃ v : Vl, cs = v.cells ∧ VOk v := by
  obtain ⟨xs, n, _, _, hlen, hxs, hf⟩ := DataW.trod_struct Tryz.underlying46 h
  have hc : Tryz.prog.cellsOf 46 = 3 := by kernel_rfl
  have hcb : Tryz.prog.cellsOf 4 = 1 := by kernel_rfl
  have hci : Tryz.prog.cellsOf 2 = 1 := by kernel_rfl
  have hcs : Tryz.prog.cellsOf 9 = 1 := by kernel_rfl
  rw [hc] at hlen
  match cs, hlen with
  | [c0, c1, c2], _ =>
    have h0 := hf 0 _ rfl
    have h1 := hf 1 _ rfl
    have h2 := hf 2 _ rfl
    match xs, hxs with
    | [y0, y1, y2], _ =>
      simp only [hcb, hci, hcs, List.drop_zero, List.take_succ_cons, List.take_zero, List.drop_succ_cons, List.getElem?_cons_zero, List.getElem?_cons_succ] at h0 h1 h2
      obtain ⟨n0, e0, _⟩ := DataW.trod_bool Tryz.underlying4 h0
      obtain ⟨n1, e1, _, w1⟩ := DataW.trod_int Tryz.underlying2 h1
      obtain ⟨n2, e2, _, w2⟩ := DataW.trod_string Tryz.underlying9 h2
      obtain rfl := (List.cons.inj e0).1
      obtain rfl := (List.cons.inj e1).1
      obtain rfl := (List.cons.inj e2).1
      exact ⟨⟨n0, n1, n2⟩, rfl, w2, wf_i64 w1⟩
/-- a row, and what its reading tells -/
theorem open_rowC {fuel : Nat} {cs : List Value} {x : DataW H × List MemPlace} (h : DataW.trod enc Tryz.prog w base spare held fuel 42 cs = some x) :
    ∃ (A : Option Addr) (c : Nat) (l : List Vl), cs = [.slice A l.length c] ∧ Vals w w.heap.size A l ∧ (∀ v ∈ l, VOk v) ∧ l.length ≤ Rows.uptoBulk x.1 := by
  obtain ⟨A, c, l, bs, e, h1, h2, h3, h4, h5, h6, h7⟩ := open_list_bulk (size := 3) (cells := Vl.cells) (OK := fun v _ => VOk v) Tryz.underlying42 (by kernel_rfl) (fun _ => by simp [Vl.cells]) (fun {n cs x} _ ht => trod_val ht) h
  have := len_le_sum h6
  refine ⟨A, c, l, e, vals_of_lies h3, fun v hv => ?_, by omega⟩
  obtain ⟨i, hi⟩ := List.getElem?_of_mem hv
  exact (h7 i v hi).elim fun _ h => h.2
/-- an update's part of what came in -/
def UIs (w : World) (u : Up) (b : Nat) : Prop := UIn w w.heap.size u ∧ (b ≤ 1048576 → UOk u)
set_option maxRecDepth 100000 in
theorem trod_up {fuel : Nat} {cs : List Value} {x : DataW H × List MemPlace} (h : DataW.trod enc Tryz.prog w base spare held fuel 44 cs = some x) : ∃ u : Up, cs = u.cells ∧ UIs w u (Rows.uptoBulk x.1) := by
  obtain ⟨xs, n, hfu, hx, hlen, hxs, hf⟩ := DataW.trod_struct Tryz.underlying44 h
  have hc : Tryz.prog.cellsOf 44 = 6 := by kernel_rfl
  have hc0 : Tryz.prog.cellsOf 42 = 1 := by kernel_rfl
  have hc1 : Tryz.prog.cellsOf 27 = 3 := by kernel_rfl
  have hc2 : Tryz.prog.cellsOf 2 = 1 := by kernel_rfl
  rw [hc] at hlen
  match cs, hlen with
  | [c0, c1, c2, c3, c4, c5], _ =>
    have h0 := hf 0 _ rfl
    have h1 := hf 1 _ rfl
    have h2 := hf 2 _ rfl
    have h3 := hf 3 _ rfl
    match xs, hxs with
    | [y0, y1, y2, y3], _ =>
      simp only [hc0, hc1, hc2, List.drop_zero, List.take_succ_cons, List.take_zero, List.drop_succ_cons, List.getElem?_cons_zero, List.getElem?_cons_succ] at h0 h1 h2 h3
      obtain ⟨A0, k0, l0, e0, i0, o0, m0⟩ := open_rowC h0
      obtain ⟨A1, k1, l1, e1, i1, o1, m1⟩ := open_rowC h1
      obtain ⟨t, e2⟩ := trod_time h2
      obtain ⟨d, e3, _, w3⟩ := DataW.trod_int Tryz.underlying2 h3
      have hM : Rows.uptoBulk x.1 = Rows.uptoBulk y0.1 + (Rows.uptoBulk y1.1 + (Rows.uptoBulk y2.1 + (Rows.uptoBulk y3.1 + 0))) + 1 := by
        rw [hx]
        simp only [List.map_cons, List.map_nil, Rows.uptoBulk, Rows.uptoBulkAll]
      obtain rfl := (List.cons.inj e0).1
      obtain rfl := (List.cons.inj e1).1
      obtain rfl := (List.cons.inj e3).1
      simp only [Tm.cells, List.cons.injEq, and_true] at e2
      obtain ⟨rfl, rfl, rfl⟩ := e2
      refine ⟨⟨A0, k0, l0, A1, k1, l1, t, d⟩, rfl, ⟨i0, i1⟩, fun hb => ⟨?_, ?_, o0, o1, wf_i64 w3⟩⟩
      · show l0.length ≤ _; omega
      · show l1.length ≤ _; omega
theorem open_upsC {fuel : Nat} {cs : List Value} {x : DataW H × List MemPlace} (h : DataW.trod enc Tryz.prog w base spare held fuel 22 cs = some x) :
    ∃ s : Rw Up, cs = s.cells ∧ s.l.length ≤ s.c ∧ s.c ≤ maxLen ∧ Ups w w.heap.size s.A s.l ∧ (Rows.uptoBulk x.1 ≤ 1048576 → ∀ u ∈ s.l, UOk u) ∧ s.l.length + 1 ≤ Rows.uptoBulk x.1 := by
  obtain ⟨A, c, l, bs, e, h1, h2, h3, h4, h5, h6, h7⟩ := open_list_bulk (size := 6) (cells := Up.cells) (OK := UIs w) Tryz.underlying22 (by kernel_rfl) (fun _ => by simp [Up.cells]) (fun {n cs x} _ ht => trod_up ht) h
  have := len_le_sum h6
  refine ⟨⟨A, c, l⟩, e, h1, h2, ⟨h3, fun u hu => ?_⟩, fun hb u hu => ?_, by show l.length + 1 ≤ _; omega⟩
  · obtain ⟨i, hi⟩ := List.getElem?_of_mem hu
    exact (h7 i u hi).elim fun _ h => h.2.1
  · obtain ⟨i, hi⟩ := List.getElem?_of_mem hu
    obtain ⟨b, hb1, hb2⟩ := h7 i u hi
    have := mem_le_sum (List.mem_of_getElem? hb1)
    exact hb2.2 (by omega)
theorem open_ups {v : Value} {d : DataW H} {p : List MemPlace} {r : Reach} {b0 : Nat} (hv : Value.okWide Tryz.prog w r b0 22 v) (h : DataW.Trod enc Tryz.prog w base spare held 22 v d p) :
    ∃ (A : Option Addr) (c : Nat) (l : List Up), v = .slice A l.length c ∧ l.length ≤ c ∧ c ≤ maxLen ∧ Ups w w.heap.size A l ∧ (Rows.uptoBulk d ≤ 1048576 → ∀ u ∈ l, UOk u) ∧ l.length ≤ Rows.uptoBulk d := by
  obtain ⟨a0, n0, c0, rfl⟩ := okWide_slice Tryz.underlying22 hv
  obtain ⟨fuel, hf⟩ := h
  simp only [Value.cells] at hf
  obtain ⟨⟨A, c, l⟩, e, h1, h2, h3, h4, h5⟩ := open_upsC hf
  exact ⟨A, c, l, by simpa [Rw.cells] using e, h1, h2, h3, h4, Nat.le_of_succ_le h5⟩
theorem sum_len {α : Type} : ∀ {L : List (Rw α)} {bs : List Nat}, bs.length = L.length → (∀ (i : Nat) (s : Rw α), L[i]? = some s → ∃ b, bs[i]? = some b ∧ s.l.length ≤ b) → (flatR L).length ≤ bs.sum := fun {L bs} hl h => by
  have := sum_pair (g := fun s : Rw α => s.l.length) L bs hl h
  unfold flatR
  rw [List.length_flatMap]
  exact this
theorem open_uplists {v : Value} {d : DataW H} {p : List MemPlace} {r : Reach} {b0 : Nat} (hv : Value.okWide Tryz.prog w r b0 93 v) (h : DataW.Trod enc Tryz.prog w base spare held 93 v d p) :
    ∃ (A : Option Addr) (c : Nat) (L : List (Rw Up)), v = .slice A L.length c ∧ L.length ≤ c ∧ c ≤ maxLen ∧ ULs w w.heap.size A L ∧ (Rows.uptoBulk d ≤ 1048576 → ∀ s ∈ L, ∀ u ∈ s.l, UOk u) ∧ (flatR L).length ≤ Rows.uptoBulk d ∧ L.length ≤ Rows.uptoBulk d ∧ ∀ s ∈ L, s.l.length ≤ s.c ∧ s.c ≤ maxLen := by
  obtain ⟨a0, n0, c0, rfl⟩ := okWide_slice Tryz.underlying93 hv
  obtain ⟨fuel, hf⟩ := h
  simp only [Value.cells] at hf
  obtain ⟨A, c, l, bs, e, h1, h2, h3, h4, h5, h6, h7⟩ := open_list_bulk (size := 1) (cells := Rw.cells (α := Up)) (OK := fun s b => s.l.length ≤ s.c ∧ s.c ≤ maxLen ∧ Ups w w.heap.size s.A s.l ∧ (b ≤ 1048576 → ∀ u ∈ s.l, UOk u) ∧ s.l.length + 1 ≤ b) Tryz.underlying93 (by kernel_rfl) (fun _ => by simp [Rw.cells]) (fun {n cs x} _ ht => open_upsC ht) hf
  change bs.sum + 1 ≤ Rows.uptoBulk d at h5
  have hlen := len_le_sum h6
  have hsum := sum_len (L := l) (bs := bs) (α := Up) h4 fun i s hi => by
    obtain ⟨b, hb, hs⟩ := h7 i s hi
    exact ⟨b, hb, by omega⟩
  refine ⟨A, c, l, by simpa using e, h1, h2, ⟨h3, fun s hs => ?_⟩, fun hb s hs => ?_, by omega, by omega, fun s hs => ?_⟩
  · obtain ⟨i, hi⟩ := List.getElem?_of_mem hs
    exact (h7 i s hi).elim fun _ h => h.2.2.2.1
  · obtain ⟨i, hi⟩ := List.getElem?_of_mem hs
    obtain ⟨b, hb1, hb2⟩ := h7 i s hi
    have := mem_le_sum (List.mem_of_getElem? hb1)
    exact hb2.2.2.2.1 (by omega)
  · obtain ⟨i, hi⟩ := List.getElem?_of_mem hs
    exact (h7 i s hi).elim fun _ h => ⟨h.2.1, h.2.2.1⟩
end
end Go.Proofs.YtcfldgncmbcpmaaGreat
