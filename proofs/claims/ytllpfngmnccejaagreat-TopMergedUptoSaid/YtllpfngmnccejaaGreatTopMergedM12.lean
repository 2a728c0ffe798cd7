/- Part 12 of the texts on which TopMerged rests: facts and contracts. -/
import Derived.Test.YtllpfngmnccejaaGreatTopMergedM11
import Derived.Lib.MinMax
import Derived.OneCell
import Derived.Test.YtllpfngmnccejaaGreatProg
import Derived.Outline
import Derived.Test.YtllpfngmnccejaaGreatRows
import Derived.WalkKit
import Derived.ProofKit
import Derived.OpenShut
import Derived.JoinedCond
import Derived.Carry
import Derived.ChangeArms
import Derived.Deep.Slices
import Derived.SizedLaws
namespace Go.Proofs.YtllpfngmnccejaaGreat
open Go Go.RowKit

/-- behind what turned what is seen -/
theorem wk_sees {w w' : World} {base K : Nat} {x : Dl} {A A' : Option Addr} {c c' : Nat} {l l' : List Vf} (h : Wk w base K x A c l) (k : VisTo w w' base K 5 153 (wkC x A c l) (Fp A l) A' c' l') : Wk w' base K x A' c' l' ∧ Below base w w' := by
  refine ⟨⟨k.at_, k.kept.row h.files (fun b e he => ?_), k.kept.row h.waits (fun b e he => ?_), h.hK⟩, k.kept.below (fun b e => ?_) h.at_.le⟩
  · rw [blk_own] at e
    obtain ⟨h1, h2, _⟩ := h.fne b e
    rcases he with he | he
    · exact h1 he
    · exact h2 he
  · rw [blk_own] at e
    obtain ⟨h1, h2⟩ := h.wne b e
    rcases he with he | he
    · exact h1 he
    · exact h2 he
  · rcases e with e | e
    · have := h.hK; omega
    · exact (h.at_.vis.lt b e).1
/-- a write more that waits -/
def moreL (x : Dl) (Aw : Option Addr) (cw : Nat) (r : Wr) : Dl := ⟨x.fA, x.fc, x.files, Aw, cw, x.waits ++ [r], x.room, x.down, x.fuse⟩
theorem wk_append {w W w2 : World} {base K : Nat} {x : Dl} {A : Option Addr} {c : Nat} {l : List Vf} {r : Wr} {Aw : Option Addr} {cw : Nat} (h : Wk w base K x A c l) (bW : Below w.heap.size w W) (hg : W.grownBy w2 (Value.slice x.wA x.waits.length x.wc).ownBlock)
    (ho : w2.ownsRow base 95 4 (.slice Aw (x.waits.length + [r].length) cw) (x.waits.length + [r].length) (x.waits.flatMap Wr.cells ++ [r].flatMap Wr.cells)) :
    Wk (w2.setCell ⟨K, 1, none⟩ (.slice Aw (x.waits.length + 1) cw)) base K (moreL x Aw cw r) A c l ∧ Below base w (w2.setCell ⟨K, 1, none⟩ (.slice Aw (x.waits.length + 1) cw)) := by
  rw [blk_own] at hg
  have kg : KeptK w w2 (fun k => blk x.wA = some k) := (KeptK.of_below bW (Nat.le_refl _) (fun k => blk x.wA = some k)).trans (KeptK.of_grown hg (fun _ e => e)) (fun _ _ e => e)
  have o2 := kg.own h.at_.own (fun e => (h.wne K e).1 rfl)
  have v2 := h.at_.vis.kept kg (fun k hk e => (h.wne k e).2 hk)
  have f2 := kg.row h.files (fun k e he => (h.fne k (by rw [← blk_own x.fA]; exact e)).2.2 he)
  have kk : KeptK w2 (w2.setCell ⟨K, 1, none⟩ (.slice Aw (x.waits.length + 1) cw)) (fun k => k = K) := (KeptK.refl w2 (fun k => k = K)).set_ (.inl rfl) _
  have k3 : KeptK w (w2.setCell ⟨K, 1, none⟩ (.slice Aw (x.waits.length + 1) cw)) (fun k => k = K ∨ blk x.wA = some k) := (kg.more (fun k e => .inr e)).trans kk (fun k _ e => .inl e)
  have hl : (x.waits ++ [r]).length = x.waits.length + 1 := by simp
  refine ⟨⟨⟨?_, rfl, rfl, v2.kept kk (fun k hk e => h.at_.out (by rw [← e]; exact hk)), h.at_.out, h.at_.sorted, h.at_.wt, Nat.le_trans h.at_.le k3.size⟩, kk.row f2 (fun k e he => (h.fne k (by rw [← blk_own x.fA]; exact e)).1 he), ?_, h.hK⟩, k3.below (fun k e => ?_) h.at_.le⟩
  · have := o2.set_ 1 (.slice Aw (x.waits.length + 1) cw)
    unfold wkC moreL
    rw [hl]
    exact this
  · unfold moreL
    dsimp only
    rw [hl, List.flatMap_append]
    exact kk.row ho (own_row_ne o2 ho (by decide))
  · rcases e with e | e
    · have := h.hK; omega
    · exact (h.waits.lt k (by rw [blk_own]; exact e)).1
theorem wk_mid {w W w2 : World} {base K : Nat} {x : Dl} {A : Option Addr} {c : Nat} {l : List Vf} (h : Wk w base K x A c l) (bW : Below w.heap.size w W) (hg : W.grownBy w2 (Value.slice x.wA x.waits.length x.wc).ownBlock) :
    w2.cell? ⟨K, 1, none⟩ = some (.slice x.wA x.waits.length x.wc) ∧ w2.frozen? ⟨K, 1, none⟩ = false := by
  rw [blk_own] at hg
  have kg : KeptK w w2 (fun k => blk x.wA = some k) := (KeptK.of_below bW (Nat.le_refl _) (fun k => blk x.wA = some k)).trans (KeptK.of_grown hg (fun _ e => e)) (fun _ _ e => e)
  have o2 := kg.own h.at_.own (fun e => (h.wne K e).1 rfl)
  exact ⟨o2.at_ 1, o2.open_ 1⟩
theorem wr_made (w : World) (x : Wr) : Lies 4 Wr.cells (w.alloc (.cells #[.int .u8 x.k, .string x.n, .string x.t, .string x.d] 95)) (w.heap.size + 1) (some ⟨w.heap.size, 0, none⟩) [x] := fun _ => by
  refine ⟨w.heap.size, 0, rfl, by omega, fun i y hy j u hu => ?_⟩
  match i, hy with
  | 0, hy =>
    obtain rfl : x = y := by simpa using hy
    have := (Own.made w 95 x.cells).at_ j
    rw [show 0 + 0 * 4 + j = j by omega]
    exact this.trans hu
theorem own4 {w : World} {P : Nat} {t : TypeId} {a0 a1 a2 a3 : Value} (h : Own w P t [a0, a1, a2, a3]) :
    w.cell? ⟨P, 0, none⟩ = some a0 ∧ w.cell? ⟨P, 1, none⟩ = some a1 ∧ w.cell? ⟨P, 2, none⟩ = some a2 ∧ w.cell? ⟨P, 3, none⟩ = some a3 :=
  ⟨h.at_ 0, h.at_ 1, h.at_ 2, h.at_ 3⟩
/-- a write that is right, on a disk that is on -/
def writeD2 (d : Dk) (l : List Fl) (w : Wr) : Dk × List Fl × Int :=
  if w.k ≠ 1 ∧ hasF l w.n = false then (d, l, 5) else
  if 4096 ≤ d.waits.length ∨ 256 < (appF l w).length ∨ d.room < (szF (appF l w) : Int) then (d, appF l w, 9) else
  if d.fuse = 0 then (⟨d.files, if w.k = 1 then d.waits ++ [w] else d.waits, d.room, true, d.fuse⟩, appF l w, 7)
  else (⟨d.files, d.waits ++ [w], d.room, d.down, lessN d.fuse⟩, appF l w, 0)
theorem writeD_two (d : Dk) (l : List Fl) (w : Wr) : writeD d l w = if d.down = true then (d, l, 7) else if rightW w = false then (d, l, 4) else writeD2 d l w := rfl
/-- what a write comes to -/
def Wrote (w w' : World) (base K : Nat) (l : List Vf) (r : Wr) (e : Ending) (s : Dk × List Fl × Int) : Prop :=
  ∃ y A' c' l', e = .returned (.int .i64 s.2.2) ∧ Wk w' base K y A' c' l' ∧ y.d = s.1 ∧ flV l' = s.2.1 ∧ wtV l' ≤ wtV l + 2 + r.d.size ∧ Below base w w'
set_option maxRecDepth 100000 in
set_option maxHeartbeats 3200000 in
theorem write_any (base K : Nat) (x : Dl) (A : Option Addr) (c : Nat) (l : List Vf) (r : Wr) (w : World) (h : Wk w base K x A c l) (ok : -9223372036854775808 ≤ x.fuse ∧ x.fuse ≤ 9223372036854775807) (hw : wtV l + 2 + r.d.size ≤ 1099511627776) (hlw : x.waits.length ≤ 1099511627776) :
    Calls Tryz.prog 94 #[.pointer (some ⟨K, 0, none⟩), r.val] w fun e w' => Wrote w w' base K l r e (writeD x.d (flV l) r) := by
  obtain ⟨V, hV, hVb, hVs, oV⟩ := wrbox w r
  have hk := h.below hVb
  have hbl := h.at_.le
  obtain ⟨d0, d1, d2, d3, d4, d5, d6⟩ := hk.cells
  obtain ⟨b0, b1, b2, b3⟩ := own4 oV
  have HV := Lib.hid (And.intro h (And.intro (below_then (Below.refl base w) hbl hVb) (And.intro oV (And.intro hk ok))))
  unfold Wr.val
  rw [writeD_two]
  have hdn : x.d.down = x.down := rfl
  rw [hdn]
  clear h ok hVb hVs oV hk hdn
  by_cases hd : x.down = true
  · rw [if_pos hd]
    rw [hd] at d3
    clear hd
    go_enter Tryz.func94, Tryz.ntmps94
    go_upto_region 1 with fail
    rw [← hV]
    clear hV
    go_wp2_with fail
    go_ret
    exact ⟨x, A, c, l, rfl, HV.out.2.2.2.1, rfl, rfl, by omega, HV.out.2.1⟩
  rw [if_neg hd]
  have hd' : x.down = false := by simpa using hd
  rw [hd'] at d3
  have y1 := Lib.hid (rightW_any r V)
  unfold Wr.val at y1
  clear hd
  by_cases hr : rightW r = false
  · rw [if_pos hr]
    rw [hr] at y1
    clear hr hd'
    go_enter Tryz.func94, Tryz.ntmps94
    go_upto_region 1 with fail
    rw [← hV]
    clear hV
    go_wp2_with fail
    refine y1.out.mono ?_
    rintro _ w1 ⟨rfl, b1'⟩
    have HX := Lib.hid (And.intro (HV.out.2.2.2.1.below b1') (HV.out.2.1.trans (b1'.mono HV.out.2.2.2.1.at_.le)))
    clear b1'
    go_wp2_with fail
    go_ret
    exact ⟨x, A, c, l, rfl, HX.out.1, rfl, rfl, by omega, HX.out.2⟩
  rw [if_neg hr]
  have hr' : rightW r = true := by simpa using hr
  rw [hr'] at y1
  have HD := Lib.hid hd'
  clear hr hr' hd'
  go_enter Tryz.func94, Tryz.ntmps94
  go_upto_region 1 with fail
  rw [← hV]
  clear hV
  go_wp2_with fail
  refine y1.out.mono ?_
  rintro _ w1 ⟨rfl, b1'⟩
  have k1 := HV.out.2.2.2.1.below b1'
  have o1 := HV.out.2.2.1.past b1' HV.out.2.2.1.inside
  have HX := Lib.hid (And.intro k1 (And.intro o1 (HV.out.2.1.trans (b1'.mono HV.out.2.2.2.1.at_.le))))
  have yh := fun (p : Past w1) => let q := k1.below p.h; Lib.hid (has_any K 5 base _ _ A c l r.n p.w q.at_.own q.at_.c0 q.at_.vis.row q.at_.sorted (by have := len_le_wt l; have := q.at_.wt; omega))
  clear d0 d1 d2 d3 d4 d5 d6 b0 b1 b2 b3 b1' y1
  obtain ⟨b0, b1, b2, b3⟩ := own4 o1
  have p0 : ∀ p : Past w1, p.w.cell? ⟨w.heap.size, 0, none⟩ = some (.int .u8 r.k) := fun p => (p.h.cell (p := ⟨w.heap.size, 0, none⟩) o1.inside).trans b0
  have p1 : ∀ p : Past w1, p.w.cell? ⟨w.heap.size, 1, none⟩ = some (.string r.n) := fun p => (p.h.cell (p := ⟨w.heap.size, 1, none⟩) o1.inside).trans b1
  clear k1 o1
  obtain ⟨hh, hhe⟩ : ∃ hh, hh = hasN (namesV l) r.n := ⟨_, rfl⟩
  rw [← hhe] at yh
  have HHE := Lib.hid (show hasF (flV l) r.n = hh by rw [has_fl, hhe])
  clear hhe
  obtain ⟨b5, hb5⟩ : ∃ b5, b5 = decide (r.k ≠ 1 ∧ hh = false) := ⟨_, rfl⟩
  have HB5 := Lib.hid hb5
  clear hb5
  go_upto_region 5 with fail
  go_cut [25] (fun s25 wx => s25 = .bool b5 ∧ Below w1.heap.size w1 wx)
  case first =>
    by_cases hk1 : r.k = 1
    · have t1 : (r.k != 1) = false := by simp [hk1]
      have hz := Lib.hid (show b5 = false by rw [HB5.out]; exact decide_eq_false (fun e => e.1 hk1))
      clear hk1
      refine wp_region_past w1 (by kernel_rfl) (by kernel_rfl) (Below.refl _ _) ?_
      repeat (first | go_big_quiet_step (fail) | quiet_step (fail))
      refine wpQuiet_nil ?_
      intro wz hw'
      obtain ⟨⟨wy, hbz⟩, hw''⟩ := hw'
      dsimp only at hw''
      subst hw''
      go_wp2_with fail
      go_meet
      exact ⟨by rw [hz.out], hbz⟩
    · have t1 : (r.k != 1) = true := bne_iff_ne.2 hk1
      have hz := Lib.hid (show b5 = !hh by rw [HB5.out]; cases hh <;> simp [hk1])
      clear hk1
      refine wp_region_past w1 (by kernel_rfl) (by kernel_rfl) (Below.refl _ _) ?_
      repeat (first | go_big_quiet_step ((go_at_call 143; exact calls_past (yh _).out)) | quiet_step ((go_at_call 143; exact calls_past (yh _).out)))
      refine wpQuiet_nil ?_
      intro wz hw'
      obtain ⟨⟨wy, hbz⟩, hw''⟩ := hw'
      dsimp only at hw''
      subst hw''
      go_wp2_with fail
      go_meet
      exact ⟨by rw [hz.out], hbz⟩
  case rest =>
    obtain ⟨rfl, bc⟩ := hcut
    have kc := HX.out.1.below bc
    have oc := HX.out.2.1.past bc HX.out.2.1.inside
    have hbc : Below base w wc := HX.out.2.2.trans (bc.mono HX.out.1.at_.le)
    clear yh b0 b1 b2 b3 bc p0 p1
    by_cases h5 : r.k ≠ 1 ∧ hh = false
    · have e5 := Lib.hid (show writeD2 x.d (flV l) r = (x.d, flV l, 5) by unfold writeD2; rw [if_pos ⟨h5.1, by rw [HHE.out]; exact h5.2⟩])
      have hz5 : b5 = true := by rw [HB5.out]; exact decide_eq_true h5
      subst hz5
      have HC := Lib.hid (And.intro kc hbc)
      clear kc oc hbc h5
      go_wp2_with fail
      go_ret
      rw [e5.out]
      exact ⟨x, A, c, l, rfl, HC.out.1, rfl, rfl, by omega, HC.out.2⟩
    have e5 := Lib.hid (show writeD2 x.d (flV l) r = _ by unfold writeD2; rw [if_neg (fun e => h5 ⟨e.1, by rw [← HHE.out]; exact e.2⟩)])
    have hz5 : b5 = false := by rw [HB5.out]; exact decide_eq_false h5
    subst hz5
    clear h5 HB5
    have y3 := fun W (hb : Below wc.heap.size wc W) => Lib.hid (apply_any base K 5 _ _ A c l r W (kc.at_.below hb) hw)
    have HC := Lib.hid (And.intro kc (And.intro oc hbc))
    obtain ⟨b0, b1, b2, b3⟩ := own4 oc
    unfold Wr.val at y3
    clear kc oc hbc
    go_wp2_with fail
    go_region_with (go_at_call 144; refine (y3 _ (Below.drew (Below.refl _ _))).out.mono ?_; rintro _ w3 ⟨rfl, hs⟩)
    all_goals
      obtain ⟨A', c', l', hv, hfl, hwl⟩ := hs
      obtain ⟨k3, hb3⟩ := wk_sees (HC.out.1.below (Below.drew (Below.refl _ _))) hv
      have o3 := hv.kept.own (own_drewK HC.out.2.1) (fun e => by
        rcases e with e | e
        · have := HV.out.1.at_.own.inside; omega
        · have := (HV.out.1.at_.vis.lt _ e).2; omega)
      have hb4 : Below base w w3 := HC.out.2.2.trans (below_undrew hb3)
      have HS := Lib.hid (And.intro k3 (And.intro o3 (And.intro hb4 (And.intro hfl hwl))))
      have hfl : flV l' = appF (flV l) r := hfl
      have hln : (appF (flV l) r).length = l'.length := by rw [← hfl]; unfold flV; simp
      have hsz : szF (appF (flV l) r) = szF (flV l') := by rw [hfl]
      have HE := Lib.hid (And.intro hln hsz)
      have ym := fun (p : Past w3) => let q := k3.below p.h; Lib.hid ((many_any K 5 _ _ A' c' l'.length p.w q.at_.own q.at_.c0).mono fun e w' (h : e = _ ∧ p.w = w') => (⟨h.1, by rw [← h.2]; exact Below.refl _ _⟩ : e = .returned (.bool (decide ((256 : Int) < (l'.length : Int)))) ∧ Below p.w.heap.size p.w w'))
      obtain ⟨d0, d1, d2, d3, d4, d5, d6⟩ := k3.cells
      clear b0 b1 b2 b3 y3 hv hfl hwl k3 hb3 o3 hb4 hln hsz
      obtain ⟨Z, hZ⟩ : ∃ Z, Z = szF (flV l') := ⟨_, rfl⟩
      have HZ := Lib.hid hZ
      rw [← hZ] at d6
      clear hZ
      have q1 : x.waits.length < 9223372036854775808 := by omega
      rw [HE.out.1, HE.out.2, ← HZ.out] at e5
      obtain ⟨b8, hb8⟩ : ∃ b8, b8 = decide (4096 ≤ x.waits.length ∨ 256 < l'.length ∨ x.room < (Z : Int)) := ⟨_, rfl⟩
      have HB8 := Lib.hid hb8
      clear hb8
      have p1 := fun p : Past w3 => (p.h.cell (p := ⟨K, 1, none⟩) HS.out.1.at_.own.inside).trans d1
      have p2 := fun p : Past w3 => (p.h.cell (p := ⟨K, 2, none⟩) HS.out.1.at_.own.inside).trans d2
      have p6 := fun p : Past w3 => (p.h.cell (p := ⟨K, 6, none⟩) HS.out.1.at_.own.inside).trans d6
      clear d0 d1 d2 d3 d4 d5 d6
      go_upto_region 8 with fail
      go_cut [56] (fun s56 wx => s56 = .bool b8 ∧ Below w3.heap.size w3 wx)
      case first =>
        have hm1 : decide ((256 : Int) < (l'.length : Int)) = decide (256 < l'.length) := by rw [Bool.eq_iff_iff]; simp; omega
        rw [hm1] at ym
        by_cases g1 : 4096 ≤ x.waits.length
        · have t1 : decide (4096 ≤ x.waits.length) = true := decide_eq_true g1
          have t2 : decide ((4096 : Int) ≤ (x.waits.length : Int)) = true := decide_eq_true (by omega)
          have hz := Lib.hid (show b8 = true by rw [HB8.out]; exact decide_eq_true (.inl g1))
          clear g1
          refine wp_region_past w3 (by kernel_rfl) (by kernel_rfl) (Below.refl _ _) ?_
          repeat (first | go_big_quiet_step ((go_at_call 145; exact calls_past (ym _).out)) | quiet_step ((go_at_call 145; exact calls_past (ym _).out)))
          refine wpQuiet_nil ?_
          intro wz hw'
          obtain ⟨⟨wy, hbz⟩, hw''⟩ := hw'
          dsimp only at hw''
          subst hw''
          go_wp2_with fail
          go_meet
          exact ⟨by rw [hz.out], hbz⟩
        have t1 : decide (4096 ≤ x.waits.length) = false := decide_eq_false g1
        have t2 : decide ((4096 : Int) ≤ (x.waits.length : Int)) = false := decide_eq_false (by omega)
        by_cases g2 : 256 < l'.length
        · rw [decide_eq_true g2] at ym
          have hz := Lib.hid (show b8 = true by rw [HB8.out]; exact decide_eq_true (.inr (.inl g2)))
          clear g1 g2 hm1
          refine wp_region_past w3 (by kernel_rfl) (by kernel_rfl) (Below.refl _ _) ?_
          repeat (first | go_big_quiet_step ((go_at_call 145; exact calls_past (ym _).out)) | quiet_step ((go_at_call 145; exact calls_past (ym _).out)))
          refine wpQuiet_nil ?_
          intro wz hw'
          obtain ⟨⟨wy, hbz⟩, hw''⟩ := hw'
          dsimp only at hw''
          subst hw''
          go_wp2_with fail
          go_meet
          exact ⟨by rw [hz.out], hbz⟩
        · rw [decide_eq_false g2] at ym
          have hz := Lib.hid (show b8 = decide (x.room < (Z : Int)) by rw [HB8.out, Bool.eq_iff_iff]; simp; omega)
          clear g1 g2 hm1
          refine wp_region_past w3 (by kernel_rfl) (by kernel_rfl) (Below.refl _ _) ?_
          repeat (first | go_big_quiet_step ((go_at_call 145; exact calls_past (ym _).out)) | quiet_step ((go_at_call 145; exact calls_past (ym _).out)))
          refine wpQuiet_nil ?_
          intro wz hw'
          obtain ⟨⟨wy, hbz⟩, hw''⟩ := hw'
          dsimp only at hw''
          subst hw''
          go_wp2_with fail
          go_meet
          exact ⟨by rw [hz.out], hbz⟩
      case rest =>
        obtain ⟨rfl, bz⟩ := hcut
        have kz := HS.out.1.below bz
        have oz := HS.out.2.1.past bz HS.out.2.1.inside
        have hbz : Below base w wc := HS.out.2.2.1.trans (bz.mono HS.out.1.at_.le)
        clear p1 p2 p6 ym bz
        by_cases g8 : 4096 ≤ x.waits.length ∨ 256 < l'.length ∨ x.room < (Z : Int)
        · have e6 := Lib.hid (e5.out.trans (if_pos g8))
          have hz8 : b8 = true := by rw [HB8.out]; exact decide_eq_true g8
          subst hz8
          have HC2 := Lib.hid (And.intro kz hbz)
          clear kz oz hbz g8 HB8 e5
          go_wp2_with fail
          go_ret
          rw [e6.out]
          exact ⟨x, A', c', l', rfl, HC2.out.1, rfl, HS.out.2.2.2.1, HS.out.2.2.2.2, HC2.out.2⟩
        have e6 := Lib.hid (e5.out.trans (if_neg g8))
        have hz8 : b8 = false := by rw [HB8.out]; exact decide_eq_false g8
        subst hz8
        have y4 := Lib.hid (burn_any base K x A' c' l' wc kz HV.out.2.2.2.2)
        have HC2 := Lib.hid (And.intro kz (And.intro oz (And.intro hbz g8)))
        have hbK := kz.at_.own.inside
        clear kz oz hbz g8 HB8 e5
        go_wp2_with fail
        refine y4.out.mono ?_
        rintro _ w5 ⟨rfl, k5, hb5⟩
        have o5 := hb5.own HC2.out.2.1 (fun e => by have := HV.out.1.at_.own.inside; omega)
        have hbw5 : Below base w w5 := HC2.out.2.2.1.trans (hb5.below (fun k e => by have := k5.hK; omega) HC2.out.1.at_.le)
        have H5 := Lib.hid (And.intro k5 (And.intro o5 hbw5))
        obtain ⟨b0, b1, b2, b3⟩ := own4 o5
        obtain ⟨d0, d1, d2, d3, d4, d5, d6⟩ := k5.cells
        have z1 := k5.opens.2.1
        obtain ⟨pw, hpw⟩ : ∃ pw, pw = decide (x.fuse ≠ 0) := ⟨_, rfl⟩
        have HPW := Lib.hid hpw
        rw [← hpw]
        obtain ⟨ap, hap⟩ : ∃ ap, ap = (pw || decide (r.k = 1)) := ⟨_, rfl⟩
        have HAP := Lib.hid hap
        clear hpw hap k5 o5 hbw5 hb5 y4
        go_upto_region 11 with fail
        go_cut [64] (fun s64 wx => s64 = .bool ap ∧ w5 = wx)
        case first =>
          cases pw
          · by_cases hk1 : r.k = 1
            · have hz := Lib.hid (show ap = true by rw [HAP.out]; simp [hk1])
              rw [hk1] at b0
              clear hk1
              go_wp2_with fail
              go_meet
              exact ⟨by rw [hz.out], rfl⟩
            · have t1 : (r.k == 1) = false := beq_eq_false_iff_ne.2 hk1
              have hz := Lib.hid (show ap = false by rw [HAP.out]; simp [hk1])
              clear hk1
              go_wp2_with fail
              go_meet
              exact ⟨by rw [hz.out], rfl⟩
          · have hz := Lib.hid (show ap = true by rw [HAP.out]; rfl)
            go_wp2_with fail
            go_meet
            exact ⟨by rw [hz.out], rfl⟩
        case rest =>
          obtain ⟨rfl, rfl⟩ := hcut
          cases ap
          · have h1 : pw = false ∧ r.k ≠ 1 := by
              have := HAP.out
              cases pw
              · exact ⟨rfl, by simpa using this⟩
              · cases this
            obtain ⟨rfl, hk1⟩ := h1
            have hf0 : x.fuse = 0 := by have := HPW.out; simpa using this
            have e7 : writeD2 x.d (flV l) r = (⟨x.files, x.waits, x.room, true, x.fuse⟩, appF (flV l) r, 7) := by
              rw [e6.out]
              show (if x.fuse = 0 then _ else _) = _
              rw [if_pos hf0, if_neg hk1]; rfl
            have E7 := Lib.hid e7
            have hbu : (burnL x).d = ⟨x.files, x.waits, x.room, true, x.fuse⟩ := by unfold burnL; rw [if_pos hf0]; rfl
            have HBU := Lib.hid hbu
            clear e6 e7 hk1 hf0 hbu
            go_wp2_with fail
            go_ret
            rw [E7.out]
            exact ⟨burnL x, A', c', l', rfl, H5.out.1, HBU.out, HS.out.2.2.2.1, HS.out.2.2.2.2, H5.out.2.2⟩
          · have hyl : (burnL x).waits = x.waits ∧ (burnL x).wA = x.wA := by unfold burnL; split <;> exact ⟨rfl, rfl⟩
            have hbd : (burnL x).d = if x.fuse = 0 then ⟨x.files, x.waits, x.room, true, x.fuse⟩ else ⟨x.files, x.waits, x.room, x.down, lessN x.fuse⟩ := by unfold burnL; split <;> rfl
            have HBD := Lib.hid hbd
            clear hbd
            generalize burnL x = y at *
            obtain ⟨i0, hi, hz0, hz1, hz2⟩ := info_parts infoWr
            have hU := Tryz.underlying88
            have hwl : y.waits.length ≤ 4096 := by rw [hyl.1]; have := HC2.out.2.2.2; omega
            have bW : Below w5.heap.size w5 (w5.alloc (.cells #[.int .u8 r.k, .string r.n, .string r.t, .string r.d] 95)).drew := Below.drew ((Below.refl _ _).alloc (Nat.le_refl _) _)
            have d1' : (w5.alloc (.cells #[.int .u8 r.k, .string r.n, .string r.t, .string r.d] 95)).cell? ⟨K, 1, none⟩ = some (.slice y.wA y.waits.length y.wc) := (bW.cell (p := ⟨K, 1, none⟩) H5.out.1.at_.own.inside).trans d1
            have hb5 := H5.out.1.at_.le
            have HW := Lib.hid H5.out.1.waits
            have HM := Lib.hid (fun w2 hg => wk_mid H5.out.1 bW (w2 := w2) hg)
            have HAA := Lib.hid (fun w2 (Aw : Option Addr) (cw : Nat) hg ho => wk_append (r := r) (Aw := Aw) (cw := cw) H5.out.1 bW (w2 := w2) hg ho)
            have HYL := Lib.hid hyl
            clear bW hyl
            go_upto_region 12 with fail
            go_cut [5] (fun s5 wx => s5 = .bool pw ∧ ∃ Aw cw, Wk wx base K (moreL y Aw cw r) A' c' l' ∧ Below base w5 wx)
            case first =>
              go_region_law (refine step_append_lies (size := 4) (cells := Wr.cells) (l := [r]) (B := w5.heap.size + 1) _ rfl (.tmp 70) (.tmp 72) 88 95 rfl i0 _ 56 hU hi hz0 hz1 hz2 rfl (by decide) (fun _ => rfl) wr_one base (.slice y.wA y.waits.length y.wc) y.waits.length _ rfl (HW.out.alloc _).drew 1 w5.heap.size 0 (by simp [Act.eval, Act.put]) (wr_made _ r) (by unfold maxLen; simp; omega) (by simp; omega) (by simp; omega) ?_; intro v2 w2 ho2 hb2 hv2 hg2; obtain ⟨A2, c2, rfl⟩ := row_slice ho2; obtain ⟨m1, m2⟩ := HM.out w2 hg2)
              all_goals
                go_wp2_with fail
                go_meet
                exact ⟨rfl, A2, c2, HAA.out w2 A2 c2 hg2 ho2⟩
            case rest =>
              obtain ⟨rfl, Aw, cw, k6, hb6⟩ := hcut
              have H6 := Lib.hid (And.intro k6 (H5.out.2.2.trans hb6))
              have hym : (moreL y Aw cw r).d = ⟨x.files, x.waits ++ [r], x.room, (if x.fuse = 0 then true else x.down), (if x.fuse = 0 then x.fuse else lessN x.fuse)⟩ := by
                have e1 := HBD.out
                have e2 := HYL.out.1
                by_cases hf0 : x.fuse = 0
                · rw [if_pos hf0] at e1
                  rw [if_pos hf0, if_pos hf0]
                  have := congrArg Dk.files e1; have := congrArg Dk.room e1; have := congrArg Dk.down e1; have := congrArg Dk.fuse e1
                  simp only [Dl.d] at *
                  simp_all [moreL]
                · rw [if_neg hf0] at e1
                  rw [if_neg hf0, if_neg hf0]
                  have := congrArg Dk.files e1; have := congrArg Dk.room e1; have := congrArg Dk.down e1; have := congrArg Dk.fuse e1
                  simp only [Dl.d] at *
                  simp_all [moreL]
              have HYM := Lib.hid hym
              clear k6 hb6 hym
              cases pw
              · have h1 := HAP.out
                have hk1 : r.k = 1 := by simpa using h1
                have hf0 : x.fuse = 0 := by have := HPW.out; simpa using this
                have e7 : writeD2 x.d (flV l) r = (⟨x.files, x.waits ++ [r], x.room, true, x.fuse⟩, appF (flV l) r, 7) := by
                  rw [e6.out]
                  show (if x.fuse = 0 then _ else _) = _
                  rw [if_pos hf0, if_pos hk1]; rfl
                have E7 := Lib.hid e7
                have EY := Lib.hid (show (moreL y Aw cw r).d = ⟨x.files, x.waits ++ [r], x.room, true, x.fuse⟩ by rw [HYM.out, if_pos hf0, if_pos hf0])
                clear e6 e7 hk1 hf0 h1
                go_wp2_with fail
                go_ret
                rw [E7.out]
                exact ⟨moreL y Aw cw r, A', c', l', rfl, H6.out.1, EY.out, HS.out.2.2.2.1, HS.out.2.2.2.2, H6.out.2⟩
              · have hf0 : x.fuse ≠ 0 := by have := HPW.out; simpa using this
                have e7 : writeD2 x.d (flV l) r = (⟨x.files, x.waits ++ [r], x.room, x.down, lessN x.fuse⟩, appF (flV l) r, 0) := by
                  rw [e6.out]
                  show (if x.fuse = 0 then _ else _) = _
                  rw [if_neg hf0]; rfl
                have E7 := Lib.hid e7
                have EY := Lib.hid (show (moreL y Aw cw r).d = ⟨x.files, x.waits ++ [r], x.room, x.down, lessN x.fuse⟩ by rw [HYM.out, if_neg hf0, if_neg hf0])
                clear e6 e7 hf0
                go_wp2_with fail
                go_ret
                rw [E7.out]
                exact ⟨moreL y Aw cw r, A', c', l', rfl, H6.out.1, EY.out, HS.out.2.2.2.1, HS.out.2.2.2.2, H6.out.2⟩
end Go.Proofs.YtllpfngmnccejaaGreat
namespace Go.Proofs.YtllpfngmnccejaaGreat
open Go Go.RowKit

theorem row_lies {α : Type} {size : Nat} {cells : α → List Value} {w : World} {base c : Nat} {e : TypeId} {A : Option Addr} {l : List α} (hpos : 0 < size) (hcl : ∀ x, (cells x).length = size) (h : w.ownsRow base e size (.slice A l.length c) l.length (l.flatMap cells)) : Lies size cells w w.heap.size A l := by
  obtain ⟨A', c', hv, _, _, hl⟩ := lies_of_own (size := size) (cells := cells) hpos hcl rfl h
  injection hv with h1 h2 h3
  rw [h1]; exact hl
theorem row_cap {w : World} {base c n size : Nat} {e : TypeId} {A : Option Addr} {xs : List Value} (h : w.ownsRow base e size (.slice A n c) n xs) : n ≤ c := by
  rcases row_ownK h with ⟨_, h0, _⟩ | ⟨_, _, _, _, _, h0, _⟩ <;> omega
theorem Wk.din {w : World} {base K : Nat} {x : Dl} {A : Option Addr} {c : Nat} {l : List Vf} (h : Wk w base K x A c l) : DIn w w.heap.size x :=
  ⟨row_lies (size := 2) (cells := Fl.cells) (by decide) (fun _ => rfl) h.files, row_lies (size := 4) (cells := Wr.cells) (by decide) (fun _ => rfl) h.waits, row_cap h.waits⟩
/-- what open answered, laid in a box -/
theorem opened_box {w w1 : World} {x : Dl} {e : Ending} (h : Opened w w1 x e) (hb : Below w.heap.size w w1) (ok : DOk x) :
    ∃ Af cf Aw cw A c l V, e = .returned (.tuple #[.agg #[.slice Af x.files.length cf, .slice Aw x.waits.length cw, .int .i64 x.room, .bool x.down, .int .i64 x.fuse, .slice A l.length c, .int .i64 (szF (flV l) : Int)], .int .i64 0]) ∧
      V = w1.alloc (.cells #[.slice Af x.files.length cf, .slice Aw x.waits.length cw, .int .i64 x.room, .bool x.down, .int .i64 x.fuse, .slice A l.length c, .int .i64 (szF (flV l) : Int)] 153) ∧
      Below w.heap.size w V ∧ V.heap.size = w1.heap.size + 1 ∧ w.heap.size ≤ w1.heap.size ∧ Wk V w.heap.size w1.heap.size ⟨Af, cf, x.files, Aw, cw, x.waits, x.room, x.down, x.fuse⟩ A c l ∧ flV l = seen x.d ∧ wtV l ≤ wtD x.d := by
  obtain ⟨Af, cf, Aw, cw, A, c, l, rfl, rf, rw_, hv, hfl, hs, hw⟩ := h
  have b1 : Below w1.heap.size w1 (w1.alloc (.cells #[.slice Af x.files.length cf, .slice Aw x.waits.length cw, .int .i64 x.room, .bool x.down, .int .i64 x.fuse, .slice A l.length c, .int .i64 (szF (flV l) : Int)] 153)) := (Below.refl _ _).alloc (Nat.le_refl _) _
  refine ⟨Af, cf, Aw, cw, A, c, l, _, rfl, rfl, hb.alloc hb.size _, by simp, hb.size, ⟨⟨Own.made w1 _ _, rfl, rfl, hv.kept (KeptK.of_below b1 (Nat.le_refl _) (fun _ => False)) (fun _ _ h => h), fun e => by have := (hv.lt _ e).2; omega, hs, by have := ok.wt; omega, by have := hb.size; simp; omega⟩, rf.alloc _, rw_.alloc _, hb.size⟩, hfl, hw⟩
def zeroDl : Dl := ⟨none, 0, [], none, 0, [], 0, false, 0⟩
/-- a disk and an error, handed back -/
def Gives (w w' : World) (e : Ending) (s : Dk × Int) : Prop :=
  Below w.heap.size w w' ∧ ∃ y : Dl, e = .returned (.tuple #[y.val, .int .i64 s.2]) ∧ y.d = s.1 ∧ DIn w' w'.heap.size y
/-- its lists lie in new memory -/
structure NewD (B : Nat) (y : Dl) : Prop where
  files : ∀ b q, y.fA = some (⟨b, q, none⟩ : Addr) → B ≤ b
  waits : ∀ b q, y.wA = some (⟨b, q, none⟩ : Addr) → B ≤ b
theorem zero_new (B : Nat) : NewD B zeroDl := ⟨fun _ _ h => (by cases h), fun _ _ h => (by cases h)⟩
def GivesN (w w' : World) (e : Ending) (s : Dk × Int) : Prop :=
  Below w.heap.size w w' ∧ ∃ y : Dl, e = .returned (.tuple #[y.val, .int .i64 s.2]) ∧ y.d = s.1 ∧ DIn w' w'.heap.size y ∧ NewD w.heap.size y
theorem GivesN.gives {w w' : World} {e : Ending} {s : Dk × Int} (h : GivesN w w' e s) : Gives w w' e s := by
  obtain ⟨h1, y, h2, h3, h4, _⟩ := h
  exact ⟨h1, y, h2, h3, h4⟩
def set5 (w : World) (P : Nat) (a0 a1 a2 a3 a4 : Value) : World := ((((w.setCell ⟨P, 0, none⟩ a0).setCell ⟨P, 1, none⟩ a1).setCell ⟨P, 2, none⟩ a2).setCell ⟨P, 3, none⟩ a3).setCell ⟨P, 4, none⟩ a4
theorem set5_own {w : World} {P : Nat} {t : TypeId} {b0 b1 b2 b3 b4 : Value} (h : Own w P t [b0, b1, b2, b3, b4]) (a0 a1 a2 a3 a4 : Value) : Own (set5 w P a0 a1 a2 a3 a4) P t [a0, a1, a2, a3, a4] :=
  ((((h.set_ 0 a0).set_ 1 a1).set_ 2 a2).set_ 3 a3).set_ 4 a4
theorem set5_kept (w : World) (P : Nat) (a0 a1 a2 a3 a4 : Value) : KeptK w (set5 w P a0 a1 a2 a3 a4) (fun k => k = P) :=
  (((((KeptK.refl w (fun k => k = P)).set_ (.inl rfl) a0).set_ (.inl rfl) a1).set_ (.inl rfl) a2).set_ (.inl rfl) a3).set_ (.inl rfl) a4
theorem open5 {w : World} {P : Nat} {t : TypeId} {l : List Value} (h : Own w P t l) :
    w.frozen? ⟨P, 0, none⟩ = false ∧ w.frozen? ⟨P, 1, none⟩ = false ∧ w.frozen? ⟨P, 2, none⟩ = false ∧ w.frozen? ⟨P, 3, none⟩ = false ∧ w.frozen? ⟨P, 4, none⟩ = false :=
  ⟨h.open_ 0, h.open_ 1, h.open_ 2, h.open_ 3, h.open_ 4⟩
def zero5 : List Value := [.slice none 0 0, .slice none 0 0, .int .i64 0, .bool false, .int .i64 0]
/-- the boxes with which Do and Sync begin -/
theorem do_box (w : World) (x : Dl) : ∃ W, W = (w.alloc (.cells #[.slice x.fA x.files.length x.fc, .slice x.wA x.waits.length x.wc, .int .i64 x.room, .bool x.down, .int .i64 x.fuse] 90)).alloc (.cells #[.slice none 0 0, .slice none 0 0, .int .i64 0, .bool false, .int .i64 0] 90) ∧
    Below w.heap.size w W ∧ W.heap.size = w.heap.size + 2 ∧ Own W w.heap.size 90 x.cells ∧ Own W (w.heap.size + 1) 90 zero5 := by
  refine ⟨_, rfl, ((Below.refl _ _).alloc (Nat.le_refl _) _).alloc (by simp) _, by simp, (Own.made w _ _).more _, ?_⟩
  have := Own.made (w.alloc (.cells #[.slice x.fA x.files.length x.fc, .slice x.wA x.waits.length x.wc, .int .i64 x.room, .bool x.down, .int .i64 x.fuse] 90)) 90 zero5
  rw [show (w.alloc (.cells #[.slice x.fA x.files.length x.fc, .slice x.wA x.waits.length x.wc, .int .i64 x.room, .bool x.down, .int .i64 x.fuse] 90)).heap.size = w.heap.size + 1 by simp] at this
  exact this
/-- the disk in use handed back by way of the result's box R -/
theorem hand_back {w V wr : World} {K : Nat} {y : Dl} {A : Option Addr} {c : Nat} {l : List Vf} (hs : V.heap.size = w.heap.size + 2) (hwV : Below w.heap.size w V) (hb : Below V.heap.size V wr) (h : Wk wr V.heap.size K y A c l) :
    Below w.heap.size w (set5 wr (w.heap.size + 1) (.slice y.fA y.files.length y.fc) (.slice y.wA y.waits.length y.wc) (.int .i64 y.room) (.bool y.down) (.int .i64 y.fuse)) ∧
      DIn (set5 wr (w.heap.size + 1) (.slice y.fA y.files.length y.fc) (.slice y.wA y.waits.length y.wc) (.int .i64 y.room) (.bool y.down) (.int .i64 y.fuse)) (set5 wr (w.heap.size + 1) (.slice y.fA y.files.length y.fc) (.slice y.wA y.waits.length y.wc) (.int .i64 y.room) (.bool y.down) (.int .i64 y.fuse)).heap.size y := by
  have k := set5_kept wr (w.heap.size + 1) (.slice y.fA y.files.length y.fc) (.slice y.wA y.waits.length y.wc) (.int .i64 y.room) (.bool y.down) (.int .i64 y.fuse)
  have bw : Below w.heap.size w wr := hwV.trans (hb.mono (by omega))
  refine ⟨bw.trans (k.below (fun b e => by omega) bw.size), ?_, ?_, row_cap h.waits⟩
  · exact row_lies (size := 2) (cells := Fl.cells) (by decide) (fun _ => rfl) (k.row h.files (fun b e he => by have := (h.files.lt b e).1; omega))
  · exact row_lies (size := 4) (cells := Wr.cells) (by decide) (fun _ => rfl) (k.row h.waits (fun b e he => by have := (h.waits.lt b e).1; omega))
theorem hand_back2 {w V wr : World} {K : Nat} {y : Dl} {A : Option Addr} {c : Nat} {l : List Vf} (hs : V.heap.size = w.heap.size + 2) (hwV : Below w.heap.size w V) (hb : Below V.heap.size V wr) (h : Wk wr V.heap.size K y A c l) :
    Below w.heap.size w (set5 wr (w.heap.size + 1) (.slice y.fA y.files.length y.fc) (.slice y.wA y.waits.length y.wc) (.int .i64 y.room) (.bool y.down) (.int .i64 y.fuse)) ∧
      (DIn (set5 wr (w.heap.size + 1) (.slice y.fA y.files.length y.fc) (.slice y.wA y.waits.length y.wc) (.int .i64 y.room) (.bool y.down) (.int .i64 y.fuse)) (set5 wr (w.heap.size + 1) (.slice y.fA y.files.length y.fc) (.slice y.wA y.waits.length y.wc) (.int .i64 y.room) (.bool y.down) (.int .i64 y.fuse)).heap.size y ∧ NewD w.heap.size y) := by
  obtain ⟨h1, h2⟩ := hand_back hs hwV hb h
  refine ⟨h1, h2, ⟨fun b q e => ?_, fun b q e => ?_⟩⟩
  · have := (h.files.lt b (by rw [e]; rfl)).1; omega
  · have := (h.waits.lt b (by rw [e]; rfl)).1; omega
end Go.Proofs.YtllpfngmnccejaaGreat
namespace Go.Proofs.YtllpfngmnccejaaGreat
open Go Go.RowKit

theorem write_fuse (d : Dk) (l : List Fl) (r : Wr) : (writeD d l r).1.fuse = d.fuse ∨ (writeD d l r).1.fuse = lessN d.fuse := by
  unfold writeD
  repeat' split
  all_goals first | exact .inl rfl | exact .inr rfl
theorem write_len (d : Dk) (l : List Fl) (r : Wr) : (writeD d l r).1.waits.length ≤ d.waits.length + 1 := by
  unfold writeD
  repeat' split
  all_goals first | (dsimp only; omega) | (dsimp only; split <;> simp) | (dsimp only; simp)
theorem lessN_fit {n : Int} (h : -9223372036854775808 ≤ n ∧ n ≤ 9223372036854775807) : -9223372036854775808 ≤ lessN n ∧ lessN n ≤ 9223372036854775807 := by
  unfold lessN; split <;> omega
theorem doS_drop {d : Dk} {l : List Fl} {ws : List Wr} {k : Nat} {r : Wr} (h : ws[k]? = some r) : doS d l (ws.drop k) = if (writeD d l r).2.2 = 0 then doS (writeD d l r).1 (writeD d l r).2.1 (ws.drop (k + 1)) else ((writeD d l r).1, (writeD d l r).2.2) := by
  have hlt := (List.getElem?_eq_some_iff.1 h).1
  have e := (List.getElem?_eq_some_iff.1 h).2
  rw [List.drop_eq_getElem_cons hlt, e]
  rfl
theorem z7box (w : World) : ∃ W, W = w.alloc (.cells #[.slice none 0 0, .slice none 0 0, .int .i64 0, .bool false, .int .i64 0, .slice none 0 0, .int .i64 0] 153) ∧ Below w.heap.size w W :=
  ⟨_, rfl, (Below.refl _ _).alloc (Nat.le_refl _) _⟩
theorem zero_din (w : World) : DIn w w.heap.size zeroDl := ⟨fun h => absurd h (by decide), fun h => absurd h (by decide), Nat.le_refl _⟩
/-- how far Do has come -/
def DoInv (V wr : World) (K : Nat) (y : Dl) (l : List Vf) (ws : List Wr) (k b : Nat) (s : Dk × Int) : Prop :=
  ∃ A c, Wk wr V.heap.size K y A c l ∧ doS y.d (flV l) (ws.drop k) = s ∧ wtV l ≤ b + wtW (ws.take k) ∧ (-9223372036854775808 ≤ y.fuse ∧ y.fuse ≤ 9223372036854775807) ∧ y.waits.length ≤ b + k ∧ Below V.heap.size V wr
set_option maxRecDepth 100000 in
set_option maxHeartbeats 3200000 in
theorem do_anyN (x : Dl) (B : Option Addr) (cb : Nat) (ws : List Wr) (w : World) (h : DIn w w.heap.size x) (hws : Lies 4 Wr.cells w w.heap.size B ws) (ok : DOk x) (hb : wtD x.d + wtW ws ≤ 1099511627776) :
    Calls Tryz.prog 52 #[x.val, .slice B ws.length cb] w fun e w' => GivesN w w' e (doD x.d ws) := by
  obtain ⟨V, hV, hVb, hVs, oD, oR⟩ := do_box w x
  have hk := h.keep hVb
  have y1 := Lib.hid (open_any x V hk ok)
  have H := Lib.hid (And.intro hVb (And.intro hVs (And.intro oR (And.intro ok (And.intro hb hws)))))
  obtain ⟨d0, d1, d2, d3, d4⟩ := own5 oD
  have hlw := len_le_wtW ws
  have hll : ws.length ≤ 1099511627776 := by omega
  unfold Dl.val at y1
  unfold Dl.val doD
  clear h hws ok hb hk hVb hVs oD oR hlw
  cases hg : goodD x.d
  · rw [hg] at y1
    simp only [Bool.false_eq_true, if_false] at y1 ⊢
    unfold zeroWk at y1
    clear hg
    go_enter Tryz.func52, Tryz.ntmps52
    go_upto_region 1 with fail
    rw [← hV]
    clear hV
    go_wp2_with fail
    refine y1.out.mono ?_
    rintro _ w1 ⟨b1, rfl⟩
    obtain ⟨W, hW, bW⟩ := z7box w1
    have oR1 := (H.out.2.2.1.past b1 H.out.2.2.1.inside).past bW (H.out.2.2.1.past b1 H.out.2.2.1.inside).inside
    obtain ⟨r0, r1, r2, r3, r4⟩ := own5 oR1
    obtain ⟨f0, f1, f2, f3, f4⟩ := open5 oR1
    have oE := set5_own oR1 (.slice none 0 0) (.slice none 0 0) (.int .i64 0) (.bool false) (.int .i64 0)
    have kE := set5_kept W (w.heap.size + 1) (.slice none 0 0) (.slice none 0 0) (.int .i64 0) (.bool false) (.int .i64 0)
    have hbw : Below w.heap.size w W := H.out.1.trans ((b1.trans (bW.mono b1.size)).mono H.out.1.size)
    have HX := Lib.hid (hbw.trans (kE.below (fun k e => by omega) hbw.size))
    unfold set5 at oE HX
    obtain ⟨e0, e1, e2, e3, e4⟩ := own5 oE
    clear oR1 oE kE hbw b1 y1 d0 d1 d2 d3 d4
    go_upto_region 2 with fail
    rw [← hW]
    clear hW
    go_wp2_with fail
    exact bodyPost_ret (v := .tuple #[.agg #[.slice none 0 0, .slice none 0 0, .int .i64 0, .bool false, .int .i64 0], .int .i64 8]) (by simp [results, Tryz.results52, go_sem, e0, e1, e2, e3, e4]) rfl ⟨HX.out, zeroDl, rfl, rfl, zero_din _, zero_new _⟩
  · rw [hg] at y1
    simp only [if_true] at y1 ⊢
    clear hg
    go_enter Tryz.func52, Tryz.ntmps52
    go_upto_region 1 with fail
    rw [← hV]
    clear hV
    go_wp2_with fail
    refine y1.out.mono ?_
    rintro _ w1 ⟨b1, ho⟩
    obtain ⟨Af, cf, Aw, cw, A, c, l, W, rfl, hW, bW, sW, hVw, kW, hfl, hwl⟩ := opened_box ho b1 H.out.2.2.2.1
    have HI : DoInv V W w1.heap.size ⟨Af, cf, x.files, Aw, cw, x.waits, x.room, x.down, x.fuse⟩ l ws 0 (wtD x.d) (doS x.d (seen x.d) ws) := ⟨A, c, kW, by rw [hfl]; rfl, by omega, H.out.2.2.2.1.fuse, by
      have := len_le_wtW x.waits; unfold wtD Dl.d; dsimp only; omega, bW⟩
    have HII := Lib.hid (And.intro HI (And.intro hVw sW))
    clear HI kW hfl hwl ho b1 y1 d0 d1 d2 d3 d4 bW sW hVw
    go_upto_region 2 with fail
    rw [← hW]
    clear hW
    go_wp2_with fail
    go_loopw [22] (fun i wr => ∃ k : Nat, i = .int .i64 (k : Int) ∧ k ≤ ws.length ∧ ∃ y l', DoInv V wr w1.heap.size y l' ws k (wtD x.d) (doS x.d (seen x.d) ws)) (fun i _ => ws.length - (intOf i).toNat)
    case atStart => exact ⟨0, rfl, by omega, _, _, HII.out.1⟩
    case round =>
      obtain ⟨k, rfl, hk, y, l', A', c', kW, hds, hwt, hfz, hln, hbw⟩ := hrel
      by_cases hlt : k < ws.length
      · have hx : ws[k]? = some ws[k] := List.getElem?_eq_getElem hlt
        obtain ⟨b, o, rfl, hB, hxs⟩ := H.out.2.2.2.2.2 (by omega)
        have hbw2 : Below w.heap.size w wr := H.out.1.trans (hbw.mono H.out.1.size)
        have x0 := (hbw2.cell (p := ⟨b, o + k * 4 + 0, none⟩) hB).trans (hxs k _ hx 0 _ rfl)
        have x1 := (hbw2.cell (p := ⟨b, o + k * 4 + 1, none⟩) hB).trans (hxs k _ hx 1 _ rfl)
        have x2 := (hbw2.cell (p := ⟨b, o + k * 4 + 2, none⟩) hB).trans (hxs k _ hx 2 _ rfl)
        have x3 := (hbw2.cell (p := ⟨b, o + k * 4 + 3, none⟩) hB).trans (hxs k _ hx 3 _ rfl)
        have hdr := doS_drop (d := y.d) (l := flV l') hx
        have hwk := wtW_take hx
        have hle := wtW_le ws (k + 1)
        have hfu := write_fuse y.d (flV l') ws[k]
        have hwl := write_len y.d (flV l') ws[k]
        generalize ws[k] = f at *
        obtain ⟨W2, hW2, bW2, sW2, oW2⟩ := wrbox wr f
        have d0 := oW2.at_ 0
        have d1 := oW2.at_ 1
        have d2 := oW2.at_ 2
        have d3 := oW2.at_ 3
        simp only [Wr.cells, List.getElem?_cons_zero, List.getElem?_cons_succ, Nat.add_zero] at d0 d1 d2 d3 x0 x1 x2 x3
        have hxl : wtD x.d ≤ 1099511627776 := H.out.2.2.2.1.wt
        have yw := Lib.hid (write_any V.heap.size w1.heap.size y A' c' l' f W2 (kW.below bW2) hfz (by have := H.out.2.2.2.2.1; omega) (by have := len_le_wtW ws; have := H.out.2.2.2.2.1; omega))
        rw [hds] at hdr
        have HX := Lib.hid (And.intro hdr (And.intro hwk (And.intro hwt (And.intro hfu (And.intro hwl (And.intro hfz (And.intro hln (And.intro (hbw.trans (bW2.mono hbw.size)) hbw2))))))))
        unfold Wr.val at yw
        clear kW hds hwt hfz hln hbw hdr hwk hle hfu hwl bW2 sW2 oW2 hx hxs hbw2 HII
        go_upto_region 7 with fail
        rw [← hW2]
        clear hW2
        go_wp2_with fail
        refine yw.out.mono ?_
        rintro _ w3 ⟨z, A2, c2, l2, rfl, kz, hzd, hzl, hzw, hzb⟩
        generalize hs : writeD y.d (flV l') f = s at *
        obtain ⟨sd, sl, se⟩ := s
        dsimp only at *
        have hb3 : Below V.heap.size V w3 := HX.out.2.2.2.2.2.2.2.1.trans hzb
        have H3 := Lib.hid (And.intro kz (And.intro hzd (And.intro hzl (And.intro hzw hb3))))
        by_cases he : se = 0
        · subst he
          clear kz hzd hzl hzw hzb hb3 yw x0 x1 x2 x3 d0 d1 d2 d3
          go_wp2_with fail
          go_roundw
          case rel =>
            refine ⟨k + 1, by go_num, by omega, z, l2, A2, c2, H3.out.1, ?_, ?_, ?_, ?_, H3.out.2.2.2.2⟩
            · rw [H3.out.2.1, H3.out.2.2.1]
              have := HX.out.1
              simp only [if_true] at this
              exact this.symm
            · have := HX.out.2.1; have := HX.out.2.2.1; have := H3.out.2.2.2.1; omega
            · have e1 := congrArg Dk.fuse H3.out.2.1
              have e2 := HX.out.2.2.2.1
              have e3 : z.fuse = sd.fuse := e1
              rw [e3]
              rcases e2 with e2 | e2
              · rw [e2]; exact HX.out.2.2.2.2.2.1
              · rw [e2]; exact lessN_fit HX.out.2.2.2.2.2.1
            · have e1 : z.waits = sd.waits := congrArg Dk.waits H3.out.2.1
              rw [e1]
              have := HX.out.2.2.2.2.1
              have := HX.out.2.2.2.2.2.2.1
              have e4 : y.d.waits.length = y.waits.length := rfl
              omega
          case measure => simp [intOf]; omega
        · have t1 : (se != 0) = true := bne_iff_ne.2 he
          have hres := HX.out.1
          rw [if_neg he] at hres
          have HRES := Lib.hid hres
          obtain ⟨c0, c1, c2', c3, c4, _, _⟩ := kz.cells
          have hfin := hand_back2 H.out.2.1 H.out.1 hb3 kz
          have oR1 := H.out.2.2.1.past hb3 (by have := H.out.2.1; omega)
          obtain ⟨r0, r1, r2, r3, r4⟩ := own5 oR1
          obtain ⟨f0, f1, f2, f3, f4⟩ := open5 oR1
          have oE := set5_own oR1 (.slice z.fA z.files.length z.fc) (.slice z.wA z.waits.length z.wc) (.int .i64 z.room) (.bool z.down) (.int .i64 z.fuse)
          have HF := Lib.hid hfin
          unfold set5 at oE HF
          obtain ⟨e0, e1, e2, e3, e4⟩ := own5 oE
          clear kz hzd hzl hzw hzb hb3 yw x0 x1 x2 x3 d0 d1 d2 d3 he hres hfin oR1 oE
          go_wp2_with fail
          exact bodyPost_ret (v := .tuple #[z.val, .int .i64 se]) (by simp [results, Tryz.results52, go_sem, e0, e1, e2, e3, e4, Dl.val]) rfl ⟨HF.out.1, z, by rw [HRES.out], by rw [HRES.out]; exact H3.out.2.1, HF.out.2⟩
      · have hk3 : k = ws.length := by omega
        subst hk3
        rw [List.drop_length] at hds
        have HRES := Lib.hid (show doS x.d (seen x.d) ws = (y.d, 0) from hds.symm)
        obtain ⟨c0, c1, c2', c3, c4, _, _⟩ := kW.cells
        have hfin := hand_back2 H.out.2.1 H.out.1 hbw kW
        have oR1 := H.out.2.2.1.past hbw (by have := H.out.2.1; omega)
        obtain ⟨r0, r1, r2, r3, r4⟩ := own5 oR1
        obtain ⟨f0, f1, f2, f3, f4⟩ := open5 oR1
        have oE := set5_own oR1 (.slice y.fA y.files.length y.fc) (.slice y.wA y.waits.length y.wc) (.int .i64 y.room) (.bool y.down) (.int .i64 y.fuse)
        have HF := Lib.hid hfin
        unfold set5 at oE HF
        obtain ⟨e0, e1, e2, e3, e4⟩ := own5 oE
        clear kW hds hwt hfz hln hbw hfin oR1 oE HII
        go_wp2_with fail
        exact bodyPost_ret (v := .tuple #[y.val, .int .i64 0]) (by simp [results, Tryz.results52, go_sem, e0, e1, e2, e3, e4, Dl.val]) rfl ⟨HF.out.1, y, by rw [HRES.out], by rw [HRES.out], HF.out.2⟩
theorem do_any (x : Dl) (B : Option Addr) (cb : Nat) (ws : List Wr) (w : World) (h : DIn w w.heap.size x) (hws : Lies 4 Wr.cells w w.heap.size B ws) (ok : DOk x) (hb : wtD x.d + wtW ws ≤ 1099511627776) :
    Calls Tryz.prog 52 #[x.val, .slice B ws.length cb] w fun e w' => Gives w w' e (doD x.d ws) := (do_anyN x B cb ws w h hws ok hb).mono fun _ _ h => h.gives
end Go.Proofs.YtllpfngmnccejaaGreat
namespace Go.Proofs.YtllpfngmnccejaaGreat
open Go Go.RowKit

theorem row_keep_types {w w' : World} {S : Nat → Prop} (k : KeptK w w' S) : w.heap.size ≤ w'.heap.size := k.size
/-- a box of the disk alone -/
theorem d1box (w : World) (x : Dl) : ∃ W, W = w.alloc (.cells #[.slice x.fA x.files.length x.fc, .slice x.wA x.waits.length x.wc, .int .i64 x.room, .bool x.down, .int .i64 x.fuse] 90) ∧ Below w.heap.size w W ∧ W.heap.size = w.heap.size + 1 ∧ Own W w.heap.size 90 x.cells := dbox w x
set_option maxRecDepth 100000 in
set_option maxHeartbeats 3200000 in
theorem dread_any (x : Dl) (n : ByteArray) (w : World) (h : DIn w w.heap.size x) (ok : DOk x) :
    Calls Tryz.prog 53 #[x.val, .string n] w fun e w' => e = .returned (.tuple #[.string (readD x.d n).1, .int .i64 (readD x.d n).2]) ∧ Below w.heap.size w w' := by
  obtain ⟨V, hV, hVb, hVs, oD⟩ := dbox w x
  have hk := h.keep hVb
  have y1 := Lib.hid (open_any x V hk ok)
  have H := Lib.hid (And.intro hVb (And.intro hVs ok))
  obtain ⟨d0, d1, d2, d3, d4⟩ := own5 oD
  unfold Dl.val at y1
  unfold Dl.val readD
  clear h ok hk hVb hVs oD
  cases hg : goodD x.d
  · rw [hg] at y1
    simp only [Bool.false_eq_true, if_false] at y1 ⊢
    unfold zeroWk at y1
    clear hg
    go_enter Tryz.func53, Tryz.ntmps53
    go_upto_region 1 with fail
    rw [← hV]
    clear hV
    go_wp2_with fail
    refine y1.out.mono ?_
    rintro _ w1 ⟨b1, rfl⟩
    obtain ⟨W, hW, bW⟩ := z7box w1
    have HX := Lib.hid (H.out.1.trans ((b1.trans (bW.mono b1.size)).mono H.out.1.size))
    clear b1 bW y1 d0 d1 d2 d3 d4
    go_upto_region 2 with fail
    rw [← hW]
    clear hW
    go_wp2_with fail
    go_ret2
    exact ⟨rfl, HX.out⟩
  · rw [hg] at y1
    simp only [if_true] at y1 ⊢
    have hdn : x.d.down = x.down := rfl
    rw [hdn]
    clear hg hdn
    generalize hrd : (if x.down = true then ((⟨#[]⟩ : ByteArray), (7 : Int)) else readF (seen x.d) n) = rd
    have HRD := Lib.hid hrd
    clear hrd
    go_enter Tryz.func53, Tryz.ntmps53
    go_upto_region 1 with fail
    rw [← hV]
    clear hV
    go_wp2_with fail
    refine y1.out.mono ?_
    rintro _ w1 ⟨b1, ho⟩
    obtain ⟨Af, cf, Aw, cw, A, c, l, W, rfl, hW, bW, sW, hVw, kW, hfl, hwl⟩ := opened_box ho b1 H.out.2.2
    obtain ⟨c0, c1, c2, c3, c4, c5, c6⟩ := kW.cells
    have y2 := Lib.hid (read_any V.heap.size w1.heap.size 5 _ _ A c l n W kW.at_)
    rw [hfl] at y2
    have HX := Lib.hid (H.out.1.trans (bW.mono H.out.1.size))
    dsimp only at c0 c1 c2 c3 c4
    clear ho b1 y1 d0 d1 d2 d3 d4 bW sW hVw kW hfl hwl
    go_upto_region 2 with fail
    rw [← hW]
    clear hW
    cases hd : x.down
    · rw [hd] at c3
      have hz := HRD.out
      rw [hd] at hz
      simp only [Bool.false_eq_true, if_false] at hz
      rw [hz] at y2
      clear hz hd
      go_wp2_with fail
      refine y2.out.mono ?_
      rintro _ w2 ⟨rfl, b2⟩
      go_wp2_with fail
      go_ret2
      exact ⟨rfl, HX.out.trans (b2.mono HX.out.size)⟩
    · rw [hd] at c3
      have hz := HRD.out
      rw [hd] at hz
      simp only [if_true] at hz
      have HZ := Lib.hid hz
      clear hz hd
      go_wp2_with fail
      go_ret2
      refine ⟨?_, HX.out⟩
      rw [← HZ.out]
      rfl
/-- files and an error, handed back -/
def TellsK (w w' : World) (e : Ending) (s : List Fl × Int) : Prop :=
  Below w.heap.size w w' ∧ ∃ A c, e = .returned (.tuple #[.slice A s.1.length c, .int .i64 s.2]) ∧ Lies 2 Fl.cells w' w'.heap.size A s.1
end Go.Proofs.YtllpfngmnccejaaGreat
namespace Go.Proofs.YtllpfngmnccejaaGreat
open Go Go.RowKit

theorem lies_take {w : World} {B : Nat} {A : Option Addr} {l : List Wr} {q : Nat} (h : Lies 4 Wr.cells w B A l) : Lies 4 Wr.cells w B A (l.take q) := fun hp => by
  have hl : 0 < l.length := by rw [List.length_take] at hp; omega
  obtain ⟨b, o, e, hb, hc⟩ := h hl
  refine ⟨b, o, e, hb, fun i x hi j u hj => hc i x ?_ j u hj⟩
  rw [List.getElem?_take] at hi
  split at hi
  · exact hi
  · cases hi
theorem visbox (w : World) : Below w.heap.size w (w.alloc (.cells #[.slice none 0 0, .int .i64 0] 151)).drew ∧ Own (w.alloc (.cells #[.slice none 0 0, .int .i64 0] 151)).drew w.heap.size 151 [.slice none 0 0, .int .i64 0] :=
  ⟨Below.drew ((Below.refl _ _).alloc (Nat.le_refl _) _), Own.made w _ _⟩
def CrashMid (w1 wx : World) (G : Nat) (m : List Fl) (b : Nat) : Prop :=
  ∃ A c l, VisAt wx w1.heap.size G 0 151 [.slice A l.length c, .int .i64 (szF (flV l) : Int)] A c l ∧ flV l = m ∧ wtV l ≤ b ∧ Below w1.heap.size w1 wx ∧ w1.heap.size ≤ G
theorem left_eq {x : Dl} {keep tear : Int} {q : Nat} (hq : q = keepN keep x.waits.length) : leftD x.d keep tear = tornF (lookF x.files (x.waits.take q)) x.waits[q]? tear := by
  rw [hq]; rfl
def CrashEnd (w wx w1 : World) (G : Nat) (x : Dl) (keep tear : Int) : Prop :=
  ∃ A c l cs, VisAt wx w1.heap.size G 0 151 cs A c l ∧ flV l = leftD x.d keep tear ∧ Own wx w.heap.size 90 x.cells ∧ Own wx (w.heap.size + 1) 90 zero5 ∧ Below w.heap.size w wx ∧ w1.heap.size ≤ G
theorem crash_mid1 {w1 W w2 : World} {A : Option Addr} {c b b' : Nat} {l : List Vf} {m : List Fl} (bW : Below w1.heap.size w1 W) (ob : Own w2 w1.heap.size 151 [.slice none 0 0, .int .i64 0]) (hv : Vis w2 W.heap.size A c l) (hfl : flV l = m) (hs : SortedN (namesV l)) (hwt : wtV l ≤ b') (hB : Below W.heap.size W w2) (hb : b ≤ 1099511627776) (hbb : b' ≤ b) (hin : w1.heap.size < W.heap.size := by simp) :
    CrashMid w1 ((w2.setCell ⟨w1.heap.size, 0, none⟩ (.slice A l.length c)).setCell ⟨w1.heap.size, 1, none⟩ (.int .i64 (szF (flV l) : Int))) w1.heap.size m b := by
  have kk : KeptK w2 ((w2.setCell ⟨w1.heap.size, 0, none⟩ (.slice A l.length c)).setCell ⟨w1.heap.size, 1, none⟩ (.int .i64 (szF (flV l) : Int))) (fun k => k = w1.heap.size) := ((KeptK.refl w2 (fun k => k = w1.heap.size)).set_ (.inl rfl) _).set_ (.inl rfl) _
  have hb2 : Below w1.heap.size w1 w2 := bW.trans (hB.mono bW.size)
  refine ⟨A, c, l, ⟨(ob.set_ 0 _).set_ 1 _, rfl, rfl, (hv.kept kk (fun k e he => by have := (hv.lt k e).1; omega)).lower (by omega), fun e => by have := (hv.lt _ e).1; omega, hs, by omega, Nat.le_trans hb2.size kk.size⟩, hfl, by omega, hb2.trans (kk.below (fun k e => by omega) hb2.size), Nat.le_refl _⟩
theorem crash_mid2 {w1 w2 : World} {A : Option Addr} {c b b' : Nat} {l : List Vf} {m : List Fl} (hv : Vis w2 w1.heap.size A c l) (hfl : flV l = m) (hs : SortedN (namesV l)) (hwt : wtV l ≤ b') (hB : Below w1.heap.size w1 w2) (hb : b ≤ 1099511627776) (hbb : b' ≤ b) :
    CrashMid w1 (w2.alloc (.cells #[.slice A l.length c, .int .i64 (szF (flV l) : Int)] 151)) w2.heap.size m b := by
  obtain ⟨V, hV, h1, h2, h3, h4⟩ := looked_box 151 hv hs hwt (by omega) hB
  rw [← hV]
  exact ⟨A, c, l, h4, hfl, by omega, h1, hB.size⟩
end Go.Proofs.YtllpfngmnccejaaGreat
namespace Go.Proofs.YtllpfngmnccejaaGreat
open Go Go.RowKit

def nA : ByteArray := ⟨#[97]⟩
def nB : ByteArray := ⟨#[98]⟩
def nC : ByteArray := ⟨#[99]⟩
def tX : ByteArray := ⟨#[120]⟩
def tYZ : ByteArray := ⟨#[121, 122]⟩
def tXYZ : ByteArray := ⟨#[120, 121, 122]⟩
def tXY : ByteArray := ⟨#[120, 121]⟩
def t7 : ByteArray := ⟨#[49, 50, 51, 52, 53, 54, 55]⟩
def e0 : ByteArray := ⟨#[]⟩
def wA : Wr := ⟨1, nA, e0, tX⟩
def wB : Wr := ⟨1, nA, e0, tYZ⟩
def wC : Wr := ⟨2, nA, nB, e0⟩
def wD : Wr := ⟨1, nC, e0, t7⟩
def k0 : Dk := ⟨[], [], 9, false, -1⟩
def k1 : Dk := ⟨[], [wA], 9, false, -1⟩
def k2 : Dk := ⟨[⟨nA, tX⟩], [], 9, false, -1⟩
def k3 : Dk := ⟨[⟨nA, tX⟩], [wB, wC], 9, false, -1⟩
def k4 : Dk := ⟨[⟨nA, tXY⟩], [], 9, false, -1⟩
theorem lv1 : doD k0 [wA] = (k1, 0) := by kernel_rfl
theorem lv2 : syncD k1 = (k2, 0) := by kernel_rfl
theorem lv3 : doD k2 [wB, wC] = (k3, 0) := by kernel_rfl
theorem lv4 : readD k3 nB = (tXYZ, 0) := by kernel_rfl
theorem lv5 : crashD k3 0 1 = (k4, 0) := by kernel_rfl
theorem lv6 : readD k4 nA = (tXY, 0) := by kernel_rfl
theorem lv7 : (doD k3 [wD]).2 = 9 := by kernel_rfl
end Go.Proofs.YtllpfngmnccejaaGreat
namespace Go.Proofs.YtllpfngmnccejaaGreat
open Go Go.RowKit

theorem lies4_own {W : World} {G : Nat} {t : TypeId} {l : List Wr} (h : Own W G t (l.flatMap Wr.cells)) : Lies 4 Wr.cells W W.heap.size (some ⟨G, 0, none⟩) l := fun _ =>
  ⟨G, 0, rfl, h.inside, fun i x hi j u hj => by rw [show 0 + i * 4 + j = i * 4 + j by omega, h.at_]; exact flat_of (size := 4) (cells := Wr.cells) (fun _ => rfl) l i j x u hi hj⟩
structure DTold (k : Dk) (n : Nat) : Prop where
  wt : wtD k + n ≤ 1099511627776
  fuse : -9223372036854775808 ≤ k.fuse ∧ k.fuse ≤ 9223372036854775807
theorem DTold.ok {y : Dl} {k : Dk} {n : Nat} (h : DTold k n) (e : y.d = k) : DOk y := by
  subst e; exact ⟨by have := h.wt; omega, h.fuse⟩
/-- a disk told and an error, handed back -/
def Gv (w w' : World) (e : Ending) (k : Dk) (n : Int) : Prop :=
  Below w.heap.size w w' ∧ ∃ z : Dl, e = .returned (.tuple #[.agg #[.slice z.fA z.files.length z.fc, .slice z.wA z.waits.length z.wc, .int .i64 z.room, .bool z.down, .int .i64 z.fuse], .int .i64 n]) ∧ z.d = k ∧ DIn w' w'.heap.size z
theorem do_at {W : World} {y : Dl} {k k' : Dk} {n : Int} {ws : List Wr} {B : Option Addr} (c : Nat) (hd : DIn W W.heap.size y) (hk : y.d = k) (hs : doD k ws = (k', n)) (hws : Lies 4 Wr.cells W W.heap.size B ws) (ht : DTold k (wtW ws)) :
    RowKit.Hid (Calls Tryz.prog 52 #[.agg #[.slice y.fA y.files.length y.fc, .slice y.wA y.waits.length y.wc, .int .i64 y.room, .bool y.down, .int .i64 y.fuse], .slice B ws.length c] W fun e w' => Gv W w' e k' n) := by
  subst hk
  have h := do_any y B c ws W hd hws (ht.ok rfl) ht.wt
  rw [hs] at h
  exact Lib.hid h
theorem read_at {W : World} {y : Dl} {k : Dk} {n : Int} {s : ByteArray} (a : ByteArray) (hd : DIn W W.heap.size y) (hk : y.d = k) (hs : readD k a = (s, n)) (ht : DTold k 0) :
    RowKit.Hid (Calls Tryz.prog 53 #[.agg #[.slice y.fA y.files.length y.fc, .slice y.wA y.waits.length y.wc, .int .i64 y.room, .bool y.down, .int .i64 y.fuse], .string a] W fun e w' => e = .returned (.tuple #[.string s, .int .i64 n]) ∧ Below W.heap.size W w') := by
  subst hk
  have h := dread_any y a W hd (ht.ok rfl)
  rw [hs] at h
  exact Lib.hid h
/-- the same, in new memory -/
def GvN (w w' : World) (e : Ending) (k : Dk) (n : Int) : Prop :=
  Below w.heap.size w w' ∧ ∃ z : Dl, e = .returned (.tuple #[.agg #[.slice z.fA z.files.length z.fc, .slice z.wA z.waits.length z.wc, .int .i64 z.room, .bool z.down, .int .i64 z.fuse], .int .i64 n]) ∧ z.d = k ∧ DIn w' w'.heap.size z ∧ NewD w.heap.size z
theorem do_atN {W : World} {y : Dl} {k k' : Dk} {n : Int} {ws : List Wr} {B : Option Addr} (c : Nat) (hd : DIn W W.heap.size y) (hk : y.d = k) (hs : doD k ws = (k', n)) (hws : Lies 4 Wr.cells W W.heap.size B ws) (ht : DTold k (wtW ws)) :
    RowKit.Hid (Calls Tryz.prog 52 #[.agg #[.slice y.fA y.files.length y.fc, .slice y.wA y.waits.length y.wc, .int .i64 y.room, .bool y.down, .int .i64 y.fuse], .slice B ws.length c] W fun e w' => GvN W w' e k' n) := by
  subst hk
  have h := do_anyN y B c ws W hd hws (ht.ok rfl) ht.wt
  rw [hs] at h
  exact Lib.hid h
/-- what lies as files or writes lies in no variable of a disk -/
theorem off_files {w : World} {B G : Nat} {t : TypeId} {y : Dl} {A : Option Addr} {l : List Fl} (h : Lies 2 Fl.cells w B A l) (o : Own w G t y.cells) : 0 < l.length → ∀ b q, A = some ⟨b, q, none⟩ → b ≠ G := fun hp b q e hb => by
  subst hb
  obtain ⟨b', q', e', _, hc⟩ := h hp
  rw [e] at e'
  obtain ⟨rfl, rfl⟩ : b = b' ∧ q = q' := by
    injection e' with e'; injection e' with e1 e2; exact ⟨e1, e2⟩
  have h0 := hc 0 l[0] (List.getElem?_eq_getElem hp) 0 _ rfl
  rw [o.at_] at h0
  unfold Dl.cells at h0
  match q, h0 with
  | 0, h0 => cases h0
  | 1, h0 => cases h0
  | 2, h0 => cases h0
  | 3, h0 => cases h0
  | 4, h0 => cases h0
  | q + 5, h0 => simp at h0
theorem off_waits {w : World} {B G : Nat} {t : TypeId} {y : Dl} {A : Option Addr} {l : List Wr} (h : Lies 4 Wr.cells w B A l) (o : Own w G t y.cells) : 0 < l.length → ∀ b q, A = some ⟨b, q, none⟩ → b ≠ G := fun hp b q e hb => by
  subst hb
  obtain ⟨b', q', e', _, hc⟩ := h hp
  rw [e] at e'
  obtain ⟨rfl, rfl⟩ : b = b' ∧ q = q' := by
    injection e' with e'; injection e' with e1 e2; exact ⟨e1, e2⟩
  have h0 := hc 0 l[0] (List.getElem?_eq_getElem hp) 0 _ rfl
  rw [o.at_] at h0
  unfold Dl.cells at h0
  match q, h0 with
  | 0, h0 => cases h0
  | 1, h0 => cases h0
  | 2, h0 => cases h0
  | 3, h0 => cases h0
  | 4, h0 => cases h0
  | q + 5, h0 => simp at h0
theorem kept_cell {w w' : World} {S : Nat → Prop} {b q : Nat} {u : Value} (k : KeptK w w' S) (hn : ¬ S b) (hb : b < w.heap.size) (h : w.cell? ⟨b, q, none⟩ = some u) : w'.cell? ⟨b, q, none⟩ = some u := by
  have e := k.block b hb hn
  unfold World.cell? at h ⊢
  dsimp only at h ⊢
  rw [e]; exact h
/-- a variable that holds a disk, another one stored to it -/
theorem var_set {w : World} {G : Nat} {y z : Dl} (o : Own w G 90 y.cells) (h : DIn w w.heap.size z) :
    ∃ W, W = ((((w.setCell ⟨G, 0, none⟩ (.slice z.fA z.files.length z.fc)).setCell ⟨G, 1, none⟩ (.slice z.wA z.waits.length z.wc)).setCell ⟨G, 2, none⟩ (.int .i64 z.room)).setCell ⟨G, 3, none⟩ (.bool z.down)).setCell ⟨G, 4, none⟩ (.int .i64 z.fuse) ∧
      Own W G 90 z.cells ∧ DIn W W.heap.size z ∧ (∀ B, B ≤ G → Below B w W) := by
  have k := set5_kept w G (.slice z.fA z.files.length z.fc) (.slice z.wA z.waits.length z.wc) (.int .i64 z.room) (.bool z.down) (.int .i64 z.fuse)
  have oE := set5_own o (.slice z.fA z.files.length z.fc) (.slice z.wA z.waits.length z.wc) (.int .i64 z.room) (.bool z.down) (.int .i64 z.fuse)
  refine ⟨_, rfl, oE, ⟨fun hp => ?_, fun hp => ?_, h.cap⟩, fun B hB => k.below (fun b e => by omega) (by have := o.inside; omega)⟩
  · obtain ⟨b, q, e, hb, hc⟩ := h.files hp
    exact ⟨b, q, e, Nat.lt_of_lt_of_le hb k.size, fun i x hi j u hj => kept_cell k (off_files h.files o hp b q e) hb (hc i x hi j u hj)⟩
  · obtain ⟨b, q, e, hb, hc⟩ := h.waits hp
    exact ⟨b, q, e, Nat.lt_of_lt_of_le hb k.size, fun i x hi j u hj => kept_cell k (off_waits h.waits o hp b q e) hb (hc i x hi j u hj)⟩
theorem var_new {w : World} {z : Dl} (h : DIn w w.heap.size z) :
    ∃ W, W = w.alloc (.cells #[.slice z.fA z.files.length z.fc, .slice z.wA z.waits.length z.wc, .int .i64 z.room, .bool z.down, .int .i64 z.fuse] 90) ∧
      Own W w.heap.size 90 z.cells ∧ DIn W W.heap.size z ∧ Below w.heap.size w W := by
  obtain ⟨W, hW, hb, _, o⟩ := dbox w z
  exact ⟨W, hW, o, h.keep hb, hb⟩
end Go.Proofs.YtllpfngmnccejaaGreat
namespace Go.Proofs.YtllpfngmnccejaaGreat
open Go.RowKit

/-- the register shifted by one bit -/
def bitS (c : Nat) : Nat := if c % 2 = 1 then c / 2 ^^^ 2197175160 else c / 2
def bitsS : Nat → Nat → Nat
  | 0, c => c
  | n + 1, c => bitsS n (bitS c)
/-- a byte taken in -/
def byteS (c b : Nat) : Nat := bitsS 8 (c ^^^ b)
def regS (c : Nat) (l : List UInt8) : Nat := l.foldl (fun c b => byteS c b.toNat) c
/-- the checksum -/
def sumS (l : List UInt8) : Nat := 4294967295 - regS 4294967295 l

theorem xor_lt {a b : Nat} (ha : a < 4294967296) (hb : b < 4294967296) : a ^^^ b < 4294967296 := Nat.xor_lt_two_pow (n := 32) ha hb
theorem bitS_lt {c : Nat} (h : c < 4294967296) : bitS c < 4294967296 := by
  unfold bitS; split
  · exact xor_lt (by omega) (by omega)
  · omega
theorem bitsS_lt : ∀ (n c : Nat), c < 4294967296 → bitsS n c < 4294967296
  | 0, _, h => h
  | n + 1, _, h => bitsS_lt n _ (bitS_lt h)
theorem bitsS_succ : ∀ (n c : Nat), bitsS (n + 1) c = bitS (bitsS n c)
  | 0, _ => rfl
  | n + 1, c => by rw [bitsS, bitsS_succ n, ← bitsS]
theorem byteS_lt {c b : Nat} (hc : c < 4294967296) (hb : b < 256) : byteS c b < 4294967296 := bitsS_lt 8 _ (xor_lt hc (by omega))
theorem regS_lt : ∀ (l : List UInt8) (c : Nat), c < 4294967296 → regS c l < 4294967296
  | [], _, h => h
  | b :: l, c, h => regS_lt l _ (byteS_lt h b.toNat_lt)
theorem sumS_lt (l : List UInt8) : sumS l < 4294967296 := by unfold sumS; omega
theorem regS_snoc (c : Nat) (l : List UInt8) (b : UInt8) : regS c (l ++ [b]) = byteS (regS c l) b.toNat := by simp [regS]
theorem take_snoc (s : ByteArray) (k : Nat) (h : k < s.size) : s.data.toList.take (k + 1) = s.data.toList.take k ++ [s[k]] := by
  rw [List.take_succ_eq_append_getElem (by simpa using h)]; rfl
theorem regS_at (s : ByteArray) (k : Nat) (h : k < s.size) : regS 4294967295 (s.data.toList.take (k + 1)) = byteS (regS 4294967295 (s.data.toList.take k)) s[k].toNat := by
  rw [take_snoc s k h, regS_snoc]

theorem xor_walk {a b : Nat} (ha : a < 4294967296) (hb : b < 4294967296) : bits .xor .u32 (a : Int) (b : Int) = ((a ^^^ b : Nat) : Int) := u32_xor_nat a b ha hb
theorem and1_walk {a : Nat} (ha : a < 4294967296) : bits .and .u32 (a : Int) 1 = ((a % 2 : Nat) : Int) := by
  have := u32_and_nat a 1 ha (by omega)
  rw [Nat.and_one_is_mod] at this
  exact this
theorem bitS_odd {c : Nat} (h : c % 2 = 1) : bitS c = c / 2 ^^^ 2197175160 := by unfold bitS; rw [if_pos h]
theorem bitS_even {c : Nat} (h : ¬ c % 2 = 1) : bitS c = c / 2 := by unfold bitS; rw [if_neg h]
theorem grown_set {w w' : World} {b : Nat} (h : w.grownBy w' (some b)) (o : Nat) (v : Value) : w.grownBy (w'.setCell ⟨b, o, none⟩ v) (some b) :=
  ⟨h.os, h.tape, h.output, by simpa [World.setCell] using h.size, fun k hk hne => (Below.heap_setCell _ _ _ _ (by rintro rfl; exact hne rfl)).trans (h.block k hk hne)⟩
theorem grown_same {a b c : World} {r : Option Nat} (h : a.grownBy b r) (k : b.grownBy c r) : a.grownBy c r :=
  ⟨k.os.trans h.os, k.tape.trans h.tape, k.output.trans h.output, Nat.le_trans h.size k.size, fun i hi hne => (k.block i (Nat.lt_of_lt_of_le hi h.size) hne).trans (h.block i hi hne)⟩
theorem not_nat {d : Nat} (h : d < 4294967296) : 4294967295 ^^^ d = 4294967295 - d := by
  have h1 : (~~~ (BitVec.ofNat 32 d)).toNat = 4294967295 - d := by
    rw [BitVec.toNat_not, BitVec.toNat_ofNat, Nat.mod_eq_of_lt h]
  have h2 : ~~~ (BitVec.ofNat 32 d) = BitVec.allOnes 32 ^^^ BitVec.ofNat 32 d := by
    rw [BitVec.allOnes_xor]
  rw [h2, BitVec.toNat_xor, BitVec.toNat_allOnes, BitVec.toNat_ofNat, Nat.mod_eq_of_lt h] at h1
  exact h1
theorem not_walk {d : Nat} (h : d < 4294967296) : bits .xor .u32 IntKind.u32.max (d : Int) = ((4294967295 - d : Nat) : Int) := by
  rw [← not_nat h]
  exact xor_walk (a := 4294967295) (by omega) h
end Go.Proofs.YtllpfngmnccejaaGreat
namespace Go.Proofs.YtllpfngmnccejaaGreat
open Go.RowKit

/-- block b is the register alone -/
def IsReg (w : World) (b c : Nat) : Prop := w.heap[b]? = some (.cells #[.int .u32 (c : Int)] 158 (0, 0))

set_option maxRecDepth 100000 in
set_option maxHeartbeats 400000 in
theorem step_any (b c x : Nat) (w : World) (hr : IsReg w b c) (hc : c < 4294967296) (hx : x < 256) :
    Calls Tryz.prog 97 #[.pointer (some ⟨b, 0, none⟩), .int .u8 (x : Int)] w fun e w' => e = .returned (.tuple #[]) ∧ IsReg w' b (byteS c x) ∧ w.grownBy w' (some b) := by
  have hcell := cell_of_one hr
  have hfree := free_of_one hr
  have hxor := xor_walk hc (show x < 4294967296 by omega)
  go_enter Tryz.func97, Tryz.ntmps97
  go_wp2
  have h0 : c ^^^ x < 4294967296 := xor_lt hc (by omega)
  go_loopw [12] (fun i wr => ∃ k : Nat, k ≤ 8 ∧ i = .int .i64 (k : Int) ∧ IsReg wr b (bitsS k (c ^^^ x)) ∧ w.grownBy wr (some b)) (fun i _ => 8 - (intOf i).toNat)
  case atStart => exact ⟨0, by omega, rfl, one_setCell hr, grown_set (World.grownBy.refl w _) _ _⟩
  case round =>
    obtain ⟨k, hk, rfl, hr', hg⟩ := hrel
    clear hcell hfree hxor
    have hlt := bitsS_lt k _ h0
    have hs := bitsS_succ k (c ^^^ x)
    have Hr := Lib.hid hr'
    generalize hd : bitsS k (c ^^^ x) = d at hr' hlt hs
    have Hd := Lib.hid hd; clear hd
    have hcell := cell_of_one hr'
    have hfree := free_of_one hr'
    have hand := and1_walk hlt
    have hxor : bits .xor .u32 ((d : Int) / 2) 2197175160 = ((d / 2 ^^^ 2197175160 : Nat) : Int) := xor_walk (show d / 2 < 4294967296 by omega) (show 2197175160 < 4294967296 by omega)
    have Hs := Lib.hid hs; clear hs
    by_cases h8 : k < 8
    · by_cases ho : d % 2 = 1
      · have ht : (((d : Int) % 2) == 1) = true := by simp; omega
        have hs := Lib.hid (Hs.out.trans (bitS_odd ho))
        go_wp2
        go_roundw
        case rel => exact ⟨k + 1, by omega, by go_num, by rw [hs.out]; exact one_setCell (one_setCell hr'), grown_set (grown_set hg _ _) _ _⟩
        case measure => simp [intOf]; omega
      · have ht : (((d : Int) % 2) == 1) = false := by simp; omega
        have hs := Lib.hid (Hs.out.trans (bitS_even ho))
        go_wp2
        go_roundw
        case rel => exact ⟨k + 1, by omega, by go_num, by rw [hs.out]; exact one_setCell hr', grown_set hg _ _⟩
        case measure => simp [intOf]; omega
    · obtain rfl : k = 8 := by omega
      go_wp2
      go_end0
      exact ⟨rfl, Hr.out, hg⟩

set_option maxRecDepth 100000 in
set_option maxHeartbeats 400000 in
theorem each_any (b : Nat) (s : ByteArray) (w : World) (hr : IsReg w b 4294967295) (hs : s.size ≤ maxLen) :
    Calls Tryz.prog 96 #[.string s, .func (.func 97) #[.pointer (some ⟨b, 0, none⟩)] #[]] w fun e w' => e = .returned (.tuple #[]) ∧ IsReg w' b (regS 4294967295 s.data.toList) ∧ w.grownBy w' (some b) := by
  unfold maxLen at hs
  go_enter Tryz.func96, Tryz.ntmps96
  go_wp2
  go_loopw [7] (fun i wr => ∃ k : Nat, k ≤ s.size ∧ i = .int .i64 (k : Int) ∧ IsReg wr b (regS 4294967295 (s.data.toList.take k)) ∧ w.grownBy wr (some b)) (fun i _ => s.size - (intOf i).toNat)
  case atStart => exact ⟨0, by omega, rfl, hr, World.grownBy.refl w _⟩
  case round =>
    obtain ⟨k, hk, rfl, hr', hg⟩ := hrel
    have hlt := regS_lt (s.data.toList.take k) 4294967295 (by omega)
    by_cases hk' : k < s.size
    · have Hs := Lib.hid (regS_at s k hk')
      have Hr := Lib.hid hr'; clear hr'
      generalize regS 4294967295 (s.data.toList.take k) = d at hlt Hs Hr
      have hb : s[k].toNat < 256 := s[k].toNat_lt
      go_wp2_with fail
      refine (step_any b d s[k].toNat _ Hr.out hlt hb).mono ?_
      rintro e w1 ⟨rfl, hr1, hg1⟩
      go_wp2_with fail
      go_roundw
      case rel => exact ⟨k + 1, by omega, by go_num, by rw [Hs.out]; exact hr1, grown_same hg hg1⟩
      case measure => simp [intOf]; omega
    · obtain rfl : k = s.size := by omega
      rw [List.take_of_length_le (by simp)] at hr'
      have Hr := Lib.hid hr'; clear hr'
      go_wp2
      go_end0
      exact ⟨rfl, Hr.out, hg⟩

set_option maxRecDepth 100000 in
set_option maxHeartbeats 400000 in
theorem sum_any (s : ByteArray) (w : World) (hs : s.size ≤ maxLen) :
    Calls Tryz.prog 54 #[.string s] w fun e w' => e = .returned (.int .u32 (sumS s.data.toList : Int)) ∧ Below w.heap.size w w' := by
  have hmf : ∀ (fn : Fn) (first cap : Array Value) (w : World), (Instr.makeFunc fn first cap).run Tryz.prog w = .ok (.func fn first cap) w := fun _ _ _ _ => rfl
  have hsl := Lib.hid (regS_lt s.data.toList 4294967295 (by omega))
  have hdef : sumS s.data.toList = 4294967295 - regS 4294967295 s.data.toList := rfl
  have Hdef := Lib.hid hdef; clear hdef
  go_enter Tryz.func54, Tryz.ntmps54
  go_wp2_with fail
  refine (each_any w.heap.size s _ (heap_alloc_new w _) hs).mono ?_
  rintro e w1 ⟨rfl, hr1, hg1⟩
  have hcell := cell_of_one hr1
  have hb : Below w.heap.size w w1 := ((Below.refl _ _).alloc (Nat.le_refl _) _).grown hg1 (by simp) (by simp)
  generalize regS 4294967295 s.data.toList = d at hsl Hdef hcell
  have hlt := hsl.out
  go_wp2
  go_ret
  refine ⟨?_, hb⟩
  rw [Hdef.out, ← not_walk hlt]
  rfl
end Go.Proofs.YtllpfngmnccejaaGreat
namespace Go.Proofs.YtllpfngmnccejaaGreat
open Go.RowKit

theorem sumS_digits : sumS [49, 50, 51, 52, 53, 54, 55, 56, 57] = 3808858755 := by decide +kernel

end Go.Proofs.YtllpfngmnccejaaGreat
namespace Go.Proofs.YtllpfngmnccejaaGreat
open Go Go.RowKit

def kB0 : Dk := ⟨[], [], 1099511627776, false, -1⟩
def kB1 : Dk := ⟨[], [wA], 1099511627776, false, -1⟩
theorem bg1 : doD kB0 [wA] = (kB1, 0) := by kernel_rfl
theorem bg2 : readD kB1 nA = (tX, 0) := by kernel_rfl
theorem bt0 : DTold kB0 (wtW [wA]) := ⟨by decide, by decide⟩
theorem bt1 : DTold kB1 0 := ⟨by decide, by decide⟩
theorem sum_nine : sumS (⟨#[49, 50, 51, 52, 53, 54, 55, 56, 57]⟩ : ByteArray).data.toList = 3808858755 := sumS_digits
set_option maxRecDepth 100000 in
set_option maxHeartbeats 3200000 in
theorem begins_true (w : World) : Calls Tryz.prog 19 #[] w fun e w' => e = .returned (.bool true) ∧ Below w.heap.size w w' := by
  obtain ⟨V1, hV1, bV1, sV1, oV1⟩ := wrbox w ⟨1, ⟨#[97]⟩, ⟨#[]⟩, ⟨#[120]⟩⟩
  have hc := do_at (W := V1) (y := ⟨none, 0, [], none, 0, [], 1099511627776, false, -1⟩) (B := some ⟨w.heap.size, 0, none⟩) 1 ⟨fun h => absurd h (by decide), fun h => absurd h (by decide), Nat.le_refl _⟩ rfl bg1 (lies4_own (t := 95) (l := [wA]) oV1) bt0
  have tx : (tX.toList == [120]) = true := by kernel_rfl
  have hsum := Lib.hid (fun W => sum_any ⟨#[49, 50, 51, 52, 53, 54, 55, 56, 57]⟩ W (by decide))
  rw [sum_nine] at hsum
  have H1 := Lib.hid bV1
  clear bV1 sV1 oV1
  go_enter Tryz.func19, Tryz.ntmps19
  go_wp2_with fail
  rw [← hV1]
  clear hV1
  refine hc.out.mono ?_
  rintro _ w2 ⟨b2, z1, rfl, hz1, iz1⟩
  obtain ⟨W2, hW2, o2, i2, bW2⟩ := var_new iz1
  have hc2 := read_at ⟨#[97]⟩ i2 hz1 bg2 bt1
  have H2 := Lib.hid ((H1.out.trans (b2.mono H1.out.size)).trans (bW2.mono (Nat.le_trans H1.out.size b2.size)))
  obtain ⟨d0, d1, d2, d3, d4⟩ := own5 o2
  clear b2 hz1 iz1 bW2 i2 o2 hc
  go_upto_region 2 with fail
  rw [← hW2]
  clear hW2
  go_wp2_with fail
  refine hc2.out.mono ?_
  rintro _ w3 ⟨rfl, b3⟩
  have H3 := Lib.hid (H2.out.trans (b3.mono H2.out.size))
  clear b3 d0 d1 d2 d3 d4 hc2
  go_wp2_with fail
  refine (hsum.out _).mono ?_
  rintro _ w4 ⟨rfl, b4⟩
  have H4 := Lib.hid (H3.out.trans (b4.mono H3.out.size))
  clear b4
  go_wp2_with fail
  go_ret
  exact ⟨rfl, H4.out⟩
end Go.Proofs.YtllpfngmnccejaaGreat
namespace Go.Proofs.YtllpfngmnccejaaGreat
open Go Go.RowKit

section
variable {α : Type} {size : Nat} {cells : α → List Value}
/-- 'append(v, s...)' onto a row of the call's own: and what else is as it was -/
theorem wpList_append_liesK {P : Program} (w : World) {ops : Array Oper} {rest : List Oper} {o : Oper} {a : Act} {Q : Exit → Act → World → Prop} {B : Nat} {A : Option Addr} {l : List α} (hgd : o.guard = none) (s x : Operand) (t e : TypeId)
    (ho : o.op = .call { callee := .builtin .append, args := #[s, x], argTypes := #[t, t] })
    (i0 : TypeInfo) (z : Value) (bytes : Nat) (ht : P.underlying t = some (.slice e)) (hi : P.info? e = some i0) (hz0 : i0.zero = some z) (hz1 : i0.size = size) (hz2 : i0.bytes = bytes) (hzs : z.cells.size = size) (hpos : 0 < size) (hcl : ∀ x, (cells x).length = size) (hone : ∀ x, ∀ u ∈ cells x, u.oneCell' = true)
    (base : Nat) (v : Value) (n : Nat) (xs : List Value) (hs : a.eval s = v) (hown : w.ownsRow base e size v n xs)
    (c : Nat) (hx : a.eval x = .slice A l.length c) (hl : Lies size cells w B A l) (h63 : n + l.length ≤ maxLen) (hn : (n + l.length) * bytes ≤ 140737488355328) (hbase : base ≤ w.heap.size)
    (h : ∀ v' w', w'.ownsRow base e size v' (n + l.length) (xs ++ l.flatMap cells) → w.grownBy w' v.ownBlock → (v'.ownBlock = v.ownBlock ∨ v'.ownBlock = some w.heap.size) → wpList P ops Q rest (a.put o.dst v') w') :
    wpList P ops Q (o :: rest) a w := by
  refine wpList_plain hgd fun K hK => ?_
  obtain ⟨v', w', hrun, ho', hg, hb⟩ : ∃ v' w', (Builtin.append_ #[t, t] o.type #[v, .slice A l.length c]).run P w = .ok v' w' ∧ w'.ownsRow base e size v' (n + l.length) (xs ++ l.flatMap cells) ∧ w.grownBy w' v.ownBlock ∧ (v'.ownBlock = v.ownBlock ∨ v'.ownBlock = some w.heap.size) := by
    cases A with
    | none =>
      have h0 : l = [] := by
        cases l with
        | nil => rfl
        | cons x l => obtain ⟨_, _, e, _⟩ := hl (by simp); cases e
      subst h0
      exact ⟨v, w, run_append_none w base _ _ _ i0 size ht hi v n xs hown c, by simpa using hown, ⟨rfl, rfl, rfl, Nat.le_refl _, fun _ _ _ => rfl⟩, .inl rfl⟩
    | some ad =>
      have hnews : ∀ j u, (l.flatMap cells)[j]? = some u → w.cell? (ad.add j) = some u := by
        intro j u hu
        obtain ⟨i, r, y, rfl, hi, hr⟩ := flat_back hpos hcl l j u hu
        have hp : 0 < l.length := by have := (List.getElem?_eq_some_iff.1 hi).1; omega
        obtain ⟨b, o, e, _, hc⟩ := hl hp
        obtain rfl : ad = ⟨b, o, none⟩ := by injection e
        have ea : (⟨b, o, none⟩ : Addr).add (i * size + r) = ⟨b, o + i * size + r, none⟩ := by unfold Addr.add; split <;> simp_all <;> omega
        rw [ea]
        exact hc i y hi r u hr
      obtain ⟨v', w', hr, h2, h3, _, h5⟩ := run_append_own_at (P := P) w base t o.type e i0 _ size bytes ht hi hz0 hz1 hz2 hzs hpos v n xs hown ad l.length c (l.flatMap cells) (flat_size hcl l) hnews
        (fun u hu => by obtain ⟨y, _, hy⟩ := List.mem_flatMap.1 hu; exact hone y u hy) h63 hn hbase
      exact ⟨v', w', hr, h2, h3, h5⟩
  unfold Oper.wp execOp
  simp only [ho, resolve, invoke, builtin, Sem.run_bind, Sem.run_pure, Result.andThen_ok, List.map_toArray, List.map_cons, List.map_nil, hs, hx, hrun]
  exact hK _ _ (h v' w' ho' hg hb)
end
end Go.Proofs.YtllpfngmnccejaaGreat
namespace Go.Proofs.YtllpfngmnccejaaGreat
open Go Go.RowKit

/-- what stands at the outer loop's head: the time's box T, the sum's box G, all the updates so far -/
structure TMt (w wr : World) (T G : Nat) (t : Tm) (sum : Bt) (all : List Up) (v : Value) : Prop where
  below : Below w.heap.size w wr
  in_ : BtIn wr wr.heap.size sum
  ok : BtOk sum
  own : Own wr G 27 sum.cells
  tm : Own wr T 46 t.cells
  s0 : Since0 sum
  row : wr.ownsRow w.heap.size 48 6 v all.length (all.flatMap Up.cells)
  ups_ : ∀ u ∈ all, UIn w w.heap.size u ∧ UOk u
  off : v.ownBlock ≠ some G ∧ v.ownBlock ≠ some T
  same : SameU all sum.l
  len : sum.l.length ≤ all.length
  lo : w.heap.size ≤ T ∧ T < G
theorem since_nil : Since0 Bt.nil := ⟨rfl, front_none, ⟨(fun u hu => by cases hu), List.Pairwise.nil, rfl⟩, fun u hu => by cases hu⟩
theorem own_ints_rowT {w : World} {base n : Nat} {v : Value} {l : List Int} (hp : 0 < l.length) (hn : n = l.length) (h : w.ownsRow base 3 1 v n (l.flatMap fun n => [cellI n])) :
    ∃ g c, v = .slice (some ⟨g, 0, none⟩) l.length c ∧ base ≤ g ∧ g < w.heap.size ∧ ∀ (k : Nat) (x : Int), l[k]? = some x → w.cell? ⟨g, k, none⟩ = some (.int .i64 x) := by
  subst hn
  obtain ⟨A, c, e, _, _, hl⟩ := lies_of_own (size := 1) (cells := fun n => [cellI n]) (by decide) cellI_len rfl h
  rcases h.2 with ⟨rfl, h0⟩ | ⟨g, cap, cur, rfl, hb, hg, h1, h2, h3, h4⟩
  · omega
  · refine ⟨g, cap, rfl, hb, (Array.getElem?_eq_some_iff.1 hg).1, fun k x hk => ?_⟩
    obtain ⟨b', o', e', _, hc⟩ := hl hp
    subst e'
    injection e with e1
    injection e1 with e1
    injection e1 with e1 e2
    subst e1; subst e2
    have := hc k x hk 0 _ rfl
    rwa [Nat.mul_one, Nat.add_zero, Nat.zero_add] at this
/-- what stands at the inner loop's head: the merger's block P, the fuels' g -/
structure SSm (V4 wr : World) (P g : Nat) (gl : List Int) (mm : Mg) : Prop where
  below : Below V4.heap.size V4 wr
  in_ : MgIn wr wr.heap.size mm
  ok : MgOk mm
  own : Own wr P 25 mm.cells
  gin : g < wr.heap.size
  gl_ : ∀ (k : Nat) (x : Int), gl[k]? = some x → wr.cell? ⟨g, k, none⟩ = some (.int .i64 x)
theorem flat_next {L : List (Rw Up)} {k : Nat} {s : Rw Up} (h : L[k]? = some s) : (flatR (L.take (k + 1))).length = (flatR (L.take k)).length + s.l.length := by
  unfold flatR
  rw [List.take_add_one, h, List.flatMap_append, List.length_append]
  simp
theorem TMt.form {w W : World} {T G : Nat} {t : Tm} {sum : Bt} {all : List Up} {v : Value} (h : TMt w W T G t sum all v) : ∃ A c, v = .slice A all.length c := by
  obtain ⟨A, c, e, _⟩ := lies_of_own (size := 6) (cells := Up.cells) (by decide) ucells_len rfl h.row
  exact ⟨A, c, e⟩
theorem TMt.ups {w W : World} {T G m c : Nat} {t : Tm} {sum : Bt} {all : List Up} {A : Option Addr} (h : TMt w W T G t sum all (.slice A m c)) : Ups W W.heap.size A all := by
  obtain ⟨A', c', e, _, _, h3⟩ := lies_of_own (size := 6) (cells := Up.cells) (by decide) ucells_len rfl h.row
  injection e with e1 _ _
  subst e1
  exact ⟨h3, fun u hu => ((h.ups_ u hu).1.past h.below (Nat.le_refl _)).wide h.below.size⟩
theorem TMt.past {w W W' : World} {T G : Nat} {t : Tm} {sum : Bt} {all : List Up} {v : Value} (h : TMt w W T G t sum all v) (hb : Below W.heap.size W W') : TMt w W' T G t sum all v :=
  ⟨h.below.trans (hb.mono h.below.size), h.in_.keep hb, h.ok, h.own.past hb h.own.inside, h.tm.past hb h.tm.inside, h.s0, own_below h.row hb, h.ups_, h.off, h.same, h.len, h.lo⟩
set_option maxRecDepth 100000 in
set_option maxHeartbeats 25600000 in
theorem merged_top (A : Option Addr) (c : Nat) (L : List (Rw Up)) (A' : Option Addr) (c' : Nat) (fu : List Int) (t : Tm) (w : World) (hl : ULs w w.heap.size A L) (hok : ∀ s ∈ L, ∀ u ∈ s.l, UOk u) (_ : L.length ≤ c) (_ : c ≤ maxLen) (hn2 : L.length ≤ 1048576) (hs : ∀ s ∈ L, s.l.length ≤ s.c ∧ s.c ≤ maxLen) (hi : Ints w w.heap.size A' fu) (_ : fu.length ≤ c') (_ : fu.length ≤ 1048576) (_ : c' ≤ maxLen) (_ : Fit64 fu) (hn : (flatR L).length + fu.length ≤ 1048576) :
    Calls Tryz.prog 5 #[.slice A L.length c, .slice A' fu.length c', t.val] w fun e w' => e = .returned (.bool true) ∧ Below w.heap.size w w' := by
  obtain ⟨i0, hi0, hz0, hz1, hz2⟩ := info_parts infoUp
  have HI := Lib.hid (And.intro Tryz.underlying22 (And.intro hi0 (And.intro hz0 (And.intro hz1 hz2))))
  obtain ⟨j0, hj0, hjz0, hjz1, hjz2⟩ := info_parts infoI
  have HJ := Lib.hid (And.intro Tryz.underlying52 (And.intro hj0 (And.intro hjz0 (And.intro hjz1 hjz2))))
  clear hj0 hjz0 hjz1 hjz2
  have y0 := Lib.hid begins_true
  obtain ⟨V, hV, hvb, hvs, hvo⟩ := tm_box w t
  have HL := Lib.hid (And.intro hl (And.intro hok (And.intro hs hi)))
  have HN := Lib.hid hn
  have HV := Lib.hid (And.intro hvb hvo)
  rw [show t.val = .agg #[.int .u64 (t.e : Int), .int .u64 (t.a : Int), .int .u64 (t.b : Int)] from rfl]
  clear hl hok hs hi hn hvb hvs hvo hi0 hz0 hz1 hz2
  go_enter Tryz.func5, Tryz.ntmps5
  go_upto_region 1 with fail
  rw [← hV]
  clear hV
  go_wp2_with fail
  refine (y0.out _).mono ?_
  rintro _ w1 ⟨rfl, b1⟩
  have H1 := Lib.hid (And.intro (belows HV.out.1 b1) (HV.out.2.past b1 HV.out.2.inside))
  have z0 := Lib.hid (build_none w1)
  clear b1
  go_wp2_with fail
  refine z0.out.mono ?_
  rintro _ w2 ⟨b, rfl, s0, l0, ib, ob, _, b2⟩
  obtain ⟨V2, hV2, hb2, hs2, ho2⟩ := btbox w2 b
  have h12 := belows b2 hb2
  have hT : TMt w V2 w.heap.size w2.heap.size t b [] (.slice none 0 0) :=
    ⟨belows H1.out.1 h12, ib.keep hb2, ob, ho2, H1.out.2.past h12 H1.out.2.inside, s0, World.ownsRow_nil _ _ _ _, (fun u hu => by cases hu), ⟨by simp [Value.ownBlock], by simp [Value.ownBlock]⟩, by rw [l0]; exact SameU.nil, by rw [l0]; exact Nat.le_refl _, ⟨Nat.le_refl _, Nat.lt_of_lt_of_le H1.out.2.inside b2.size⟩⟩
  have HT := Lib.hid hT
  unfold Bt.val
  clear s0 l0 ib ob b2 hb2 hs2 ho2 h12 hT z0
  go_upto_region 4 with fail
  rw [← hV2]
  clear hV2
  go_wp2_with fail
  go_loopw [8, 9, 30] (fun v8 v9 i wr => ∃ (k : Nat) (sum : Bt) (all : List Up), i = .int .i64 (k : Int) ∧ k ≤ L.length ∧ v8 = .int .i64 0 ∧ all.length ≤ (flatR (L.take k)).length ∧ TMt w wr w.heap.size w2.heap.size t sum all v9)
    (fun _ _ i _ => L.length - (intOf i).toNat)
  case atStart => exact ⟨0, b, [], rfl, by omega, rfl, by simp, HT.out⟩
  case round =>
    obtain ⟨k, sum, all, rfl, hk, rfl, hal, hat⟩ := hrel
    have Hat := Lib.hid hat
    obtain ⟨A9, c9, rfl⟩ := hat.form
    have hfl : (flatR (L.take k)).length ≤ (flatR L).length := by
      have h : (flatR (L.take k ++ L.drop k)).length = (flatR L).length := by rw [List.take_append_drop]
      unfold flatR at h ⊢
      rw [List.flatMap_append, List.length_append] at h
      omega
    have HA := Lib.hid (show all.length ≤ 1048576 from by have := HN.out; omega)
    by_cases hlt : k < L.length
    · obtain ⟨s, hx⟩ : ∃ s, L[k]? = some s := ⟨_, List.getElem?_eq_getElem hlt⟩
      obtain ⟨b', o', hA, hB, hc⟩ := HL.out.1.head (by omega)
      have x0 := (hat.below.cell (p := ⟨b', o' + k * 1 + 0, none⟩) hB).trans (hc k s hx 0 _ rfl)
      rw [Nat.mul_one, Nat.add_zero] at x0
      have q0 : (0 : Int) ≤ (k : Int) := by omega
      have q1 : (k : Int) < (L.length : Int) := by omega
      have HB := Lib.hid hA
      have HX := Lib.hid (And.intro ((HL.out.1.each_ s (List.mem_of_getElem? hx)).past hat.below (Nat.le_refl _) |>.wide hat.below.size) (And.intro (HL.out.2.1 s (List.mem_of_getElem? hx)) (flat_next hx)))
      have HMEM := Lib.hid (List.mem_of_getElem? hx)
      rw [hA]
      clear hat hA hc hx
      by_cases h8 : k = 8
      · have t8 : ((k : Int) == 8) = true := by rw [h8]; rfl
        clear h8
        go_upto_region 24 with fail
        have hatE := Hat.out
        obtain ⟨d0, d1⟩ := own2 hatE.own
        obtain ⟨e0, e1, e2⟩ := own3 hatE.tm
        have heq := hatE.same.at_ t
        have z1 := Lib.hid (there_at sum.uA sum.uc sum.l t _ hatE.in_.ups hatE.ok.l.ok hatE.ok.l.n)
        have HE := Lib.hid heq
        clear hatE heq
        go_wp2_with fail
        refine z1.out.mono ?_
        rintro _ w5 ⟨A5, c5, x, rfl, hx5, ix, ox, nx, b5⟩
        have h5 := TMt.past Hat.out b5
        clear d0 d1 e0 e1 e2
        obtain ⟨e0, e1, e2⟩ := own3 h5.tm
        have z2 := Lib.hid (there_at A9 c9 all t w5 h5.ups (fun u hu => (h5.ups_ u hu).2) (Nat.le_trans HA.out (by decide)))
        rw [HE.out.1, HE.out.2] at z2
        have H5 := Lib.hid (And.intro h5.below (And.intro ix (And.intro ox (And.intro nx hx5))))
        generalize atE sum.l t = E at z2 ⊢
        have tE : (E == E) = true := by simp
        clear h5 hx5 ix ox nx b5 z1
        go_wp2_with fail
        refine z2.out.mono ?_
        rintro _ w6 ⟨A6, c6, y, rfl, hy6, iy, oy, ny, b6⟩
        have z3 := Lib.hid (topsame_any A5 A6 c5 c6 x y w6 (H5.out.2.1.keep b6) iy H5.out.2.2.1 H5.out.2.2.2.1 (H5.out.2.2.2.2.trans hy6.symm))
        have H6 := Lib.hid (H5.out.1.trans (b6.mono H5.out.1.size))
        clear e0 e1 e2 hy6 iy oy ny b6 z2
        go_wp2_with fail
        refine z3.out.mono ?_
        rintro _ w7 ⟨rfl, b7⟩
        have H7 := Lib.hid (H6.out.trans (b7.mono H6.out.size))
        clear b7 z3
        go_wp2_with fail
        go_ret
        exact ⟨rfl, H7.out⟩
      · have t8 : ((k : Int) == 8) = false := beq_eq_false_iff_ne.2 (by omega)
        have hsl : s.l.length ≤ 1048576 ∧ all.length + s.l.length ≤ 1048576 := by
          have h1 := HX.out.2.2
          have h2 : (flatR (L.take (k + 1) ++ L.drop (k + 1))).length = (flatR L).length := by rw [List.take_append_drop]
          have h3 : (flatR (L.take (k + 1) ++ L.drop (k + 1))).length = (flatR (L.take (k + 1))).length + (flatR (L.drop (k + 1))).length := by
            unfold flatR
            rw [List.flatMap_append, List.length_append]
          have := HN.out
          omega
        obtain ⟨hsl, hs2⟩ := hsl
        have HS2 := Lib.hid hs2
        clear hs2
        obtain ⟨V3, hV3, hb3, hu3⟩ := one_list wr s.A s.c s.l HX.out.1
        have z1 := Lib.hid (build_more (some ⟨wr.heap.size, 0, none⟩) s.A s.c s.l V3 hu3 ⟨by omega, HX.out.2.1⟩)
        have H3 := Lib.hid hb3
        have HS := Lib.hid hsl
        clear hb3 hu3 hsl
        go_wp2_with fail
        rw [← hV3]
        clear hV3
        refine z1.out.mono ?_
        rintro _ w4 ⟨b4, E, rfl, hb0, hbn, ib, ob, lb, bw4⟩
        obtain ⟨V4, hV4, hb4, hs4, ho4⟩ := btbox w4 b4
        have hT4 := TMt.past Hat.out (belows H3.out (belows bw4 hb4))
        have sb : Since0 b4 ∧ b4.l.length ≤ s.l.length := by
          by_cases hE : E = 0
          · exact ⟨(hb0 hE).1, (hb0 hE).2.2⟩
          · rw [hbn hE]; exact ⟨since_nil, Nat.zero_le _⟩
        have z2 := Lib.hid (start_zero sum b4 V4 hT4.in_ hT4.ok (Nat.le_trans hT4.len HA.out) hT4.s0 (ib.keep hb4) ob (Nat.le_trans sb.2 HS.out) sb.1)
        have H4 := Lib.hid (And.intro hT4 (And.intro ho4 (And.intro sb.2 (And.intro hb0 (And.intro lb ob)))))
        obtain ⟨d0, d1⟩ := own2 hT4.own
        obtain ⟨e0, e1⟩ := own2 ho4
        unfold Bt.val at z2 ⊢
        clear hb0 hbn ib ob lb bw4 hb4 hs4 ho4 hT4 sb z1 x0
        go_upto_region 10 with fail
        rw [← hV4]
        clear hV4
        go_wp2_with fail
        refine z2.out.mono ?_
        rintro _ w5 ⟨m, rfl, hM, im, om, lm, b5⟩
        obtain ⟨V5, hV5, hb5, hs5, ho5⟩ := mgbox w5 m
        have hT5 := TMt.past H4.out.1 (belows b5 hb5)
        have H5 := Lib.hid (And.intro hT5 (And.intro (im.keep hb5) (And.intro om (And.intro ho5 (And.intro lm (And.intro hM (And.intro b5.size (belows b5 hb5))))))))
        unfold Mg.val
        clear d0 d1 e0 e1 im om lm b5 hb5 hs5 ho5 hM hT5 z2
        by_cases hE : E = 0
        case neg =>
          have t1 : (E != 0) = true := bne_iff_ne.2 hE
          clear hE
          go_upto_region 11 with fail
          rw [← hV5]
          clear hV5
          go_wp2_with fail
          go_roundw
          case rel => exact ⟨k + 1, sum, all, by go_num, by omega, rfl, by have := HX.out.2.2; omega, H5.out.1⟩
          case measure => simp [intOf]; omega
        subst hE
        have HG := Lib.hid (H4.out.2.2.2.1 rfl)
        have hr0 := Lib.hid (empty_ints V5)
        have hL0 := Lib.hid ((lies_ints HL.out.2.2.2).past (H5.out.1.below.alloc H5.out.1.below.size (.cells #[] 3)) (Nat.le_refl _))
        have hnn := HN.out
        go_upto_region 11 with fail
        rw [← hV5]
        clear hV5
        go_wp2_with (at_builtin; refine wpList_append_lies _ rfl (.tmp 57) (.tmp 58) 52 3 rfl j0 _ 8 HJ.out.1 HJ.out.2.1 HJ.out.2.2.1 HJ.out.2.2.2.1 HJ.out.2.2.2.2 rfl (by decide) cellI_len cellI_one V5.heap.size _ _ _ rfl hr0.out c' rfl hL0.out ?m1 ?m2 ?m3 ?m4)
        case m1 => unfold maxLen; omega
        case m2 => omega
        case m3 => simp
        intro v6 w6 ho6 hb6
        have hs6 : V5.heap.size ≤ w6.heap.size := by have := hb6.size; simp at this; omega
        have hb6' : Below V5.heap.size V5 w6 := ((Below.refl _ _).alloc (Nat.le_refl _) _).trans hb6
        have hr6 := Lib.hid (ho6.alloc (.cells #[.int .i64 4611686018427387904] 3))
        obtain ⟨V6, hV6, hbv6, hl6⟩ := one_int w6 4611686018427387904
        subst hV6
        have hl6 := Lib.hid hl6
        have H6 := Lib.hid (hb6'.trans (hbv6.mono hs6))
        clear ho6 hb6 hb6' hbv6 hr0 hL0
        go_wp2_with (at_builtin; refine wpList_append_lies (l := [4611686018427387904]) _ rfl (.tmp 59) (.tmp 60) 52 3 rfl j0 _ 8 HJ.out.1 HJ.out.2.1 HJ.out.2.2.1 HJ.out.2.2.2.1 HJ.out.2.2.2.2 rfl (by decide) cellI_len cellI_one V5.heap.size _ _ _ rfl hr6.out 1 rfl hl6.out ?k1 ?k2 ?k3 ?k4)
        case k1 => unfold maxLen; simp only [List.length_cons, List.length_nil]; omega
        case k2 => simp only [List.length_cons, List.length_nil]; omega
        case k3 => rw [World.size_alloc]; omega
        intro v7 w7 ho7 hb7
        obtain ⟨gl, hgl⟩ : ∃ gl, fu ++ [(4611686018427387904 : Int)] = gl := ⟨_, rfl⟩
        have hng : gl.length = fu.length + 1 := by rw [← hgl]; simp
        obtain ⟨g, c7, rfl, hg1, hg2, hg3⟩ := own_ints_rowT (l := gl) (by omega) (by rw [hng]) (by rw [← hgl, List.flatMap_append]; simpa using ho7)
        have hb57 : Below V5.heap.size V5 w7 := H6.out.trans hb7
        have hS0 : SSm V4 w7 w5.heap.size g gl m := ⟨belows H5.out.2.2.2.2.2.2.2 hb57, H5.out.2.1.keep hb57, H5.out.2.2.1, H5.out.2.2.2.1.past hb57 H5.out.2.2.2.1.inside, hg2, hg3⟩
        have H7 := Lib.hid (And.intro hS0 (And.intro (show ∀ x, gl[gl.length - 1]? = some x → x = 4611686018427387904 from fun x hx => by rw [hng, ← hgl] at hx; simpa using hx.symm) (And.intro hg1 (show gl.length ≤ 1048577 ∧ 0 < gl.length by omega))))
        clear ho7 hb7 hb57 hr6 hl6 H6 hs6 hg1 hg2 hg3 hgl hng hnn hS0
        go_wp2_with fail
        go_loopw [8, 63] (fun v8 v63 wq => v8 = .int .i64 0 ∧ ∃ (j i1 j1 : Nat) (mm : Mg), v63 = .int .i64 (j : Int) ∧ j ≤ gl.length ∧ OfM [] sum.l b4.l mm i1 j1 ∧ (j = gl.length → leftN mm i1 j1 = 0) ∧ SSm V4 wq w5.heap.size g gl mm)
          (fun _ v63 _ => gl.length - (intOf v63).toNat)
        case atStart => exact ⟨rfl, 0, 0, 0, m, rfl, by omega, H5.out.2.2.2.2.2.1, fun h => absurd h (by have := H7.out.2.2.2.2; omega), H7.out.1⟩
        case round =>
          obtain ⟨rfl, j, i1, j1, mm, rfl, hj, hM, hend, hS⟩ := hrel
          by_cases hjl : j < gl.length
          · obtain ⟨x, hx⟩ : ∃ x, gl[j]? = some x := ⟨_, List.getElem?_eq_getElem hjl⟩
            have hcx := hS.gl_ j x hx
            have hown := hS.own
            unfold Mg.cells at hown
            rw [hM.way.i_, hM.way.j_] at hown
            obtain ⟨c0, c1, c2, c3, c4, c5⟩ := own6 hown
            have hsum : sum.l.length + b4.l.length ≤ 1048576 := by
              have h1 := H4.out.1.len
              have h2 := H4.out.2.2.1
              have h3 := HS2.out
              omega
            have z1 := Lib.hid (work_st mm x wr hM hS.in_ hS.ok hsum)
            rw [show mm.val = .agg #[.slice mm.aA mm.a.length mm.ac, .slice mm.bA mm.b.length mm.bc, .int .i64 (i1 : Int), .int .i64 (j1 : Int), .slice mm.sA mm.f.length mm.sc, .slice mm.oA mm.o.length mm.oc] by unfold Mg.val; rw [hM.way.i_, hM.way.j_]] at z1
            unfold WorkedS at z1
            have hL : leftN mm i1 j1 ≤ 2097152 := by
              have h1 := hM.la
              have h2 := hM.lb
              unfold leftN
              omega
            have q2 : (0 : Int) ≤ (j : Int) := by omega
            have q3 : (j : Int) < (gl.length : Int) := by omega
            have HR := Lib.hid (And.intro hS (And.intro hx (And.intro hL hsum)))
            have HJL := Lib.hid hjl
            clear hM hend hS hown hx hL hsum hjl
            go_wp2_with fail
            refine z1.out.mono ?_
            rintro _ w9 ⟨m', i', j', K, E, rfl, hM', hK, hE0, hE1, im', om', lm', b9⟩
            have hS := HR.out.1
            have hPin := hS.own.inside
            have hpo := hS.own.past b9 hPin
            clear c0 c1 c2 c3 c4 c5 hcx
            obtain ⟨f0, f1, f2, f3, f4, f5⟩ := own_frozen6 hpo
            obtain ⟨g0, g1, g2, g3, g4, g5⟩ := own6 hpo
            obtain ⟨X, hX', hXo, hXb, hXs, hXh⟩ := own_six hpo (.slice m'.aA m'.a.length m'.ac) (.slice m'.bA m'.b.length m'.bc) (.int .i64 (i' : Int)) (.int .i64 (j' : Int)) (.slice m'.sA m'.f.length m'.sc) (.slice m'.oA m'.o.length m'.oc)
            have hPg : g ≠ w5.heap.size := by
              have h1 := H7.out.2.2.1
              have h2 := H5.out.2.2.2.1.inside
              omega
            have hSX : SSm V4 X w5.heap.size g gl m' := ⟨hXb V4.heap.size V4 (belows hS.below b9) H5.out.2.2.2.2.2.2.1, mg_other im' (lm'.mono (show w5.heap.size + 1 ≤ wr.heap.size from hPin)) hXs hXh, om', by unfold Mg.cells; rw [hM'.way.i_, hM'.way.j_]; exact hXo, by rw [hXs]; exact Nat.lt_of_lt_of_le hS.gin b9.size, fun kk xx hh => by
              have h1 := (b9.cell (p := ⟨g, kk, none⟩) hS.gin).trans (hS.gl_ kk xx hh)
              rw [← h1]
              unfold World.cell?
              rw [hXh g hPg]⟩
            rw [show m'.val = .agg #[.slice m'.aA m'.a.length m'.ac, .slice m'.bA m'.b.length m'.bc, .int .i64 (i' : Int), .int .i64 (j' : Int), .slice m'.sA m'.f.length m'.sc, .slice m'.oA m'.o.length m'.oc] by unfold Mg.val; rw [hM'.way.i_, hM'.way.j_]]
            have HX2 := Lib.hid hX'
            have HSX := Lib.hid (And.intro hSX hM')
            have hfin : E = 0 → j + 1 = gl.length → leftN m' i' j' = 0 := fun hE hl => by
              have h1 := (hE0 hE).1
              have h2 := HR.out.2.1
              rw [show j = gl.length - 1 by omega] at h2
              have h3 := H7.out.2.1 x h2
              have h4 := HR.out.2.2.1
              rcases h1 with h1 | h1
              · exact h1
              · omega
            have HF := Lib.hid hfin
            clear hM' hK hE0 hE1 im' om' lm' b9 hS hPin hpo hX' hXo hXb hXs hXh hPg hSX hfin z1
            by_cases hE : E = 0
            case neg =>
              have t1 : (E != 0) = true := bne_iff_ne.2 hE
              clear hE
              go_upto_region 18 with fail
              rw [← HX2.out]
              clear HX2 f0 f1 f2 f3 f4 f5 g0 g1 g2 g3 g4 g5
              go_wp2_with fail
              go_ret
              exact ⟨rfl, H4.out.1.below.trans (HSX.out.1.below.mono H4.out.1.below.size)⟩
            subst hE
            have hgn := H7.out.2.2.2.1
            have hjn := HJL.out
            go_upto_region 18 with fail
            rw [← HX2.out]
            clear HX2 f0 f1 f2 f3 f4 f5 g0 g1 g2 g3 g4 g5
            go_wp2_with fail
            go_roundw
            case rel => exact ⟨rfl, j + 1, i', j', m', by go_num, by have := HJL.out; omega, HSX.out.2, (by first | exact HF.out trivial | exact HF.out rfl), HSX.out.1⟩
            case measure => simp [intOf]; have := HJL.out; omega
          · have hT8 := TMt.past H4.out.1 hS.below
            have hown := hS.own
            unfold Mg.cells at hown
            rw [hM.way.i_, hM.way.j_] at hown
            obtain ⟨c0, c1, c2, c3, c4, c5⟩ := own6 hown
            have hsum : sum.l.length + b4.l.length ≤ 1048576 := by
              have h1 := H4.out.1.len
              have h2 := H4.out.2.2.1
              have h3 := HS2.out
              omega
            have hje : j = gl.length := by omega
            have z1 := Lib.hid (end_more mm wr hM hS.in_ hS.ok hsum (hend hje))
            rw [show mm.val = .agg #[.slice mm.aA mm.a.length mm.ac, .slice mm.bA mm.b.length mm.bc, .int .i64 (i1 : Int), .int .i64 (j1 : Int), .slice mm.sA mm.f.length mm.sc, .slice mm.oA mm.o.length mm.oc] by unfold Mg.val; rw [hM.way.i_, hM.way.j_]] at z1
            have HT8 := Lib.hid hT8
            clear hjl hM hend hS hown hsum hT8
            go_wp2_with fail
            refine z1.out.mono ?_
            rintro _ w9 ⟨e, rfl, se, ue, le, ie, oe, lo9, b9⟩
            have h9 := TMt.past HT8.out b9
            obtain ⟨f0, f1⟩ := own_open2 h9.own
            obtain ⟨d0, d1⟩ := own2 h9.own
            obtain ⟨X, hX', hXo, hXb, hXs, hXh⟩ := own_twoM h9.own (.slice e.sA e.f.length e.sc) (.slice e.uA e.l.length e.uc)
            have hG : w2.heap.size < wr.heap.size := HT8.out.own.inside
            have hlo := HT8.out.lo
            have hXw : Below w.heap.size w X := hXb w.heap.size w h9.below (by omega)
            have kX : KeptK w9 X (fun k => k = w2.heap.size) := hX' ▸ ((KeptK.refl w9 (fun k => k = w2.heap.size)).set_ (.inl rfl) _).set_ (.inl rfl) _
            have rowX := kX.row h9.row (fun k hk e => h9.off.1 (e ▸ hk))
            have tmX := kX.own h9.tm (fun e => by omega)
            have ieX := bt_other ie (lo9.mono (show w2.heap.size + 1 ≤ wr.heap.size from hG)) hXs hXh
            have lX := Lib.hid (((HL.out.1.each_ s HMEM.out)).past hXw (Nat.le_refl _)).head
            have RX := Lib.hid rowX
            have HXX := Lib.hid hX'
            have H9 := Lib.hid (And.intro hXw (And.intro hXo (And.intro tmX (And.intro ieX (And.intro lo9 (And.intro oe (And.intro se (And.intro (ue all s.l HT8.out.same HG.out.2.1) le))))))))
            have hsz9 := hXw.size
            have hsn := HS2.out
            clear hX' hXo hXb hXs hXh hG hlo kX rowX tmX ieX se ue le ie oe lo9 b9 h9 hXw z1 c0 c1 c2 c3 c4 c5
            unfold Bt.val
            go_upto_region 22 with fail
            rw [← HXX.out]
            clear HXX f0 f1 d0 d1
            go_wp2_with (at_builtin; refine wpList_append_liesK (l := s.l) _ rfl (.tmp 82) (.tmp 83) 22 48 rfl i0 _ 80 HI.out.1 HI.out.2.1 HI.out.2.2.1 HI.out.2.2.2.1 HI.out.2.2.2.2 rfl (by decide) ucells_len ucells_one w.heap.size _ _ _ rfl RX.out s.c rfl lX.out ?n1 ?n2 ?n3 ?n4)
            case n1 => unfold maxLen; omega
            case n2 => omega
            case n3 => exact hsz9
            intro v10 w10 ho10 hg10 hv10
            have hN : TMt w w10 w.heap.size w2.heap.size t e (all ++ s.l) v10 := by
              obtain ⟨q1, q2, q3, q4, q5, q6, q7, q8, q9⟩ := H9.out
              have kk := KeptK.of_grown (S := fun k => (Value.slice A9 all.length c9).ownBlock = some k) hg10 (fun _ e => e)
              refine ⟨q1.trans (kk.below (fun b hb => (RX.out.lt b hb).1) q1.size), bt_kept kk (fun b hb => (HT8.out.row.lt b hb).2) q4 q5, q6, kk.own q2 HT8.out.off.1, kk.own q3 HT8.out.off.2, q7, ?_, fun u hu => ?_, ?_, q8, ?_, HT8.out.lo⟩
              · rw [List.length_append, List.flatMap_append]; exact ho10
              · rcases List.mem_append.1 hu with hu | hu
                · exact HT8.out.ups_ u hu
                · exact ⟨(HL.out.1.each_ s HMEM.out).each_ u hu, HL.out.2.1 s HMEM.out u hu⟩
              · have h1 := q2.inside
                have h2 := q3.inside
                rcases hv10 with e | e
                · rw [e]; exact HT8.out.off
                · rw [e]
                  refine ⟨fun e2 => ?_, fun e2 => ?_⟩ <;> injection e2 with e2 <;> omega
              · have h1 := HT8.out.len
                have h2 := HG.out.2.2
                rw [List.length_append]
                omega
            have HNN := Lib.hid hN
            clear hN ho10 hg10 hv10
            go_wp2_with fail
            go_roundw
            case rel => exact ⟨k + 1, e, all ++ s.l, by go_num, by omega, rfl, by rw [List.length_append]; have := HX.out.2.2; omega, HNN.out⟩
            case measure => simp [intOf]; omega
    · have hE : k = L.length := by omega
      clear hat hlt
      go_upto_region 24 with fail
      have hatE := Hat.out
      obtain ⟨d0, d1⟩ := own2 hatE.own
      obtain ⟨e0, e1, e2⟩ := own3 hatE.tm
      have heq := hatE.same.at_ t
      have z1 := Lib.hid (there_at sum.uA sum.uc sum.l t _ hatE.in_.ups hatE.ok.l.ok hatE.ok.l.n)
      have HE := Lib.hid heq
      clear hatE heq
      go_wp2_with fail
      refine z1.out.mono ?_
      rintro _ w5 ⟨A5, c5, x, rfl, hx5, ix, ox, nx, b5⟩
      have h5 := TMt.past Hat.out b5
      clear d0 d1 e0 e1 e2
      obtain ⟨e0, e1, e2⟩ := own3 h5.tm
      have z2 := Lib.hid (there_at A9 c9 all t w5 h5.ups (fun u hu => (h5.ups_ u hu).2) (Nat.le_trans HA.out (by decide)))
      rw [HE.out.1, HE.out.2] at z2
      have H5 := Lib.hid (And.intro h5.below (And.intro ix (And.intro ox (And.intro nx hx5))))
      generalize atE sum.l t = E at z2 ⊢
      have tE : (E == E) = true := by simp
      clear h5 hx5 ix ox nx b5 z1
      go_wp2_with fail
      refine z2.out.mono ?_
      rintro _ w6 ⟨A6, c6, y, rfl, hy6, iy, oy, ny, b6⟩
      have z3 := Lib.hid (topsame_any A5 A6 c5 c6 x y w6 (H5.out.2.1.keep b6) iy H5.out.2.2.1 H5.out.2.2.2.1 (H5.out.2.2.2.2.trans hy6.symm))
      have H6 := Lib.hid (H5.out.1.trans (b6.mono H5.out.1.size))
      clear e0 e1 e2 hy6 iy oy ny b6 z2
      go_wp2_with fail
      refine z3.out.mono ?_
      rintro _ w7 ⟨rfl, b7⟩
      have H7 := Lib.hid (H6.out.trans (b7.mono H6.out.size))
      clear b7 z3
      go_wp2_with fail
      go_ret
      exact ⟨rfl, H7.out⟩
end Go.Proofs.YtllpfngmnccejaaGreat
namespace Go.Proofs.YtllpfngmnccejaaGreat
open Go
variable {H : Type}
theorem bulk_pos (d : DataW H) : 1 ≤ Rows.uptoBulk d := by
  cases d with
  | lit l => cases l <;> simp [Rows.uptoBulk]
  | nil => simp [Rows.uptoBulk]
  | ptr d => simp [Rows.uptoBulk]
  | slice es sp => simp [Rows.uptoBulk]
  | agg ps => simp [Rows.uptoBulk]
  | iface t d => simp [Rows.uptoBulk]
  | map es => simp [Rows.uptoBulk]
  | held h => simp [Rows.uptoBulk]
theorem bulk_all : ∀ es : List (DataW H), es.length ≤ Rows.uptoBulkAll es
  | [] => by simp
  | d :: r => by
    have := bulk_all r
    have := bulk_pos d
    simp only [List.length_cons, Rows.uptoBulkAll]
    omega
theorem bulk_slice (es sp : List (DataW H)) : es.length ≤ Rows.uptoBulk (.slice es sp) := by
  have := bulk_all es
  simp only [Rows.uptoBulk]
  omega
end Go.Proofs.YtllpfngmnccejaaGreat
namespace Go.Proofs.YtllpfngmnccejaaGreat
open Go Go.RowKit Go.ChangeShapes Go.WideShapes Go.ChangeAt Go.Deep

section
variable {H : Type} {enc : TypeId × Value → H} {P : Program} {w : World} {base : Nat} {spare : Nat → Bool} {held : Bool}
/-- the slice, its list; and what its reading tells of its length -/
theorem open_list_at {α : Type} [Inhabited α] {size : Nat} {cells : α → List Value} {OK : α → Prop} {t e : TypeId} (ht : P.underlying t = some (.slice e)) (hc : P.cellsOf e = size) (hpos : 0 < size) (hcl : ∀ x, (cells x).length = size)
    (dec : ∀ {n : Nat} {cs : List Value} {x : DataW H × List MemPlace}, DataW.trod enc P w base spare held n e cs = some x → ∃ a, cs = cells a ∧ OK a)
    {fuel : Nat} {cs : List Value} {x : DataW H × List MemPlace} (hf : DataW.trod enc P w base spare held fuel t cs = some x) :
    ∃ (A : Option Addr) (c : Nat) (l : List α), cs = [.slice A l.length c] ∧ l.length ≤ c ∧ c ≤ maxLen ∧ Lies size cells w w.heap.size A l ∧ (∀ a ∈ l, OK a) ∧ (x.1 = .nil ∧ l = [] ∧ c = 0 ∨ ∃ es sp, x.1 = .slice es sp ∧ es.length = l.length) := by
  rcases open_slice ht hf with ⟨e, hx⟩ | ⟨a, len, cap, m, n, D, Pl, e, hb, hl, hm, hmm, hx, hi⟩
  · subst e hx
    exact ⟨none, 0, [], rfl, by simp, by unfold maxLen; omega, fun h => absurd h (by simp), fun a ha => (by cases ha), .inl ⟨rfl, rfl, rfl⟩⟩
  · subst e hx
    obtain ⟨n0, rfl⟩ : ∃ n0, n0 = len := ⟨_, rfl⟩
    obtain ⟨c0, rfl⟩ : ∃ c0, c0 = cap := ⟨_, rfl⟩
    have hlm : n0 ≤ m := by rw [hmm]; split <;> omega
    rw [hc] at hi
    have hT : ∀ i, ∃ x : α, i < n0 → OK x ∧ ∀ (j : Nat) (u : Value), (cells x)[j]? = some u → w.cell? ((a.add (i * size)).add j) = some u := by
      intro i
      by_cases hil : i < n0
      · obtain ⟨cs', hcs, htr⟩ := hi i (by omega)
        obtain ⟨x, rfl, hok⟩ := dec htr
        obtain ⟨_, _, hat⟩ := World.cells?_some hcs
        refine ⟨x, fun _ => ⟨hok, fun j u hj => ?_⟩⟩
        have hjs : j < size := by have := (List.getElem?_eq_some_iff.1 hj).1; rw [hcl] at this; exact this
        rw [hat j hjs]
        exact hj
      · exact ⟨default, fun h => absurd h hil⟩
    obtain ⟨f, hf'⟩ : ∃ f : Nat → α, ∀ i, i < n0 → OK (f i) ∧ ∀ (j : Nat) (u : Value), (cells (f i))[j]? = some u → w.cell? ((a.add (i * size)).add j) = some u :=
      ⟨fun i => Classical.choose (hT i), fun i => Classical.choose_spec (hT i)⟩
    clear hT
    have hlen : ((List.range n0).map f).length = n0 := by simp
    refine ⟨some a, c0, (List.range n0).map f, by rw [hlen], by rw [hlen]; exact hl, hm, fun hp => ?_, fun x hx => ?_, .inr ⟨_, _, rfl, by simp⟩⟩
    · rw [hlen] at hp
      have hz : ((a.add (0 * size)).add 0) = a := by unfold Addr.add; simp
      obtain ⟨v0, h0⟩ : ∃ v0, w.cell? a = some v0 := by
        have h1 : 0 < (cells (f 0)).length := by rw [hcl]; exact hpos
        have := (hf' 0 hp).2 0 _ (List.getElem?_eq_getElem h1)
        rw [hz] at this
        exact ⟨_, this⟩
      have hspot : a.spot = none := by
        cases hs : a.spot with
        | none => rfl
        | some s =>
          unfold World.cell? at h0
          rw [hs] at h0
          split at h0 <;> simp at h0
      obtain ⟨b, o, sp⟩ := a
      simp only at hspot
      subst hspot
      have hadd : ∀ k j, ((⟨b, o, none⟩ : Addr).add k).add j = ⟨b, o + k + j, none⟩ := fun k j => by unfold Addr.add; split <;> split <;> simp_all
      refine ⟨b, o, rfl, World.block_lt_of_cell? w _ h0, fun i x hit j u hj => ?_⟩
      have hil : i < n0 := by have := (List.getElem?_eq_some_iff.1 hit).1; omega
      have hti : f i = x := by simpa [hil] using hit
      subst hti
      have := (hf' i hil).2 j u hj
      rwa [hadd] at this
    · obtain ⟨i, hi1, rfl⟩ := List.mem_map.1 hx
      exact (hf' i (List.mem_range.1 hi1)).1
theorem open_list {α : Type} [Inhabited α] {size : Nat} {cells : α → List Value} {OK : α → Prop} {t e : TypeId} (ht : P.underlying t = some (.slice e)) (hc : P.cellsOf e = size) (hpos : 0 < size) (hcl : ∀ x, (cells x).length = size)
    (dec : ∀ {n : Nat} {cs : List Value} {x : DataW H × List MemPlace}, DataW.trod enc P w base spare held n e cs = some x → ∃ a, cs = cells a ∧ OK a)
    {v : Value} {d : DataW H} {p : List MemPlace} {r : Reach} {b0 : Nat} (hv : Value.okWide P w r b0 t v) (h : DataW.Trod enc P w base spare held t v d p) :
    ∃ (A : Option Addr) (c : Nat) (l : List α), v = .slice A l.length c ∧ l.length ≤ c ∧ c ≤ maxLen ∧ Lies size cells w w.heap.size A l ∧ (∀ a ∈ l, OK a) ∧ (d = .nil ∧ l = [] ∧ c = 0 ∨ ∃ es sp, d = .slice es sp ∧ es.length = l.length) := by
  obtain ⟨a0, n0, c0, rfl⟩ := okWide_slice ht hv
  obtain ⟨fuel, hf⟩ := h
  obtain ⟨A, c, l, e, h1⟩ := open_list_at ht hc hpos hcl dec hf
  exact ⟨A, c, l, by simpa [Value.cells] using e, h1⟩
end
end Go.Proofs.YtllpfngmnccejaaGreat
